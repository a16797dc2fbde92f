/- Texts of one claim, one behind the other. -/
import Derived.Test.YtcbiaeeifclieaaMgCL3
import Derived.Test.YtcbiaeeifclieaaMgCL16
import Derived.Test.YtcbiaeeifclieaaMgCL25
/- naskhlaw12's awake: two cells, of which the second one has two codes. -/
namespace Go.Proofs.Ytcbiaeeifclieaa
open Go.RowKit

def twoR (v : Value) : List RC := [zRC, (v, 0, [7, 8])]
theorem two_set (v : Value) : (List.replicate 2 zRC).set 1 (v, zRC.2.1, [7, 8]) = twoR v := rfl
theorem two_cnt (v : Value) : cntR (twoR v) [] 0 2 = 2 := rfl
theorem two_len (v : Value) : ([] : List Int).length + lenR (twoR v) ≤ 1000000 := by rw [show ([] : List Int).length + lenR (twoR v) = 2 from rfl]; omega
theorem two_told (v : Value) : toldR (twoR v) [] 0 2 = [7, 8] := rfl
def twoL : List Cl := [((1, 2), (0, 2))]
theorem two_links (v : Value) : linksR 2 (twoR v) [] = twoL := by
  have h1 : joinedTo (twoR v) 2 = [] := rfl
  unfold linksR
  rw [h1]
  rfl
theorem two_fit : fitB 2 2 twoL = true := rfl
theorem two_cov : CovP 2 twoL := fun j h1 h2 => ⟨(0, 2), by simp [twoL], h1, h2⟩
theorem two_E : finE 2 2 twoL = 0 := by
  unfold finE
  rw [two_fit, if_neg (by simp), if_neg (by simp), if_neg (by simp), if_pos two_cov]
theorem two_finest : Finest (twoL.map ncOf ++ fillsOf 2 (twoL.map ncOf)) 0 2 2 [⟨0, 2, 0, 2⟩] := by
  have hK : twoL.map ncOf = [⟨1, 2, 0, 2⟩] := rfl
  rw [hK]
  have hf : FirstOf [(⟨1, 2, 0, 2⟩ : NC)] 1 := ⟨⟨_, List.mem_singleton_self _, ⟨by decide, by decide⟩, rfl⟩, fun y hy _ => by rw [List.mem_singleton.1 hy]; exact Nat.le_refl 1⟩
  have hmem : (⟨0, 2, 0, 0⟩ : NC) ∈ fillsOf 2 [(⟨1, 2, 0, 2⟩ : NC)] := by
    unfold fillsOf
    refine List.mem_append_right _ ?_
    unfold fillAhead
    have hex : ∃ f, FirstOf [(⟨1, 2, 0, 2⟩ : NC)] f ∧ 0 < f := ⟨1, hf, by omega⟩
    rw [dif_pos hex, (Classical.choose_spec hex).1.only hf]
    exact List.mem_singleton_self _
  have t1 : ∀ i, i < 2 → Tog ([(⟨1, 2, 0, 2⟩ : NC)] ++ fillsOf 2 [(⟨1, 2, 0, 2⟩ : NC)]) (false, 1) (false, i) := fun i hi => .link ⟨0, 2, 0, 0⟩ _ _ (List.mem_append_right _ hmem) (show 0 ≤ 1 ∧ 1 < 2 by omega) (show 0 ≤ i ∧ i < 2 by omega)
  have t2 : ∀ k, k < 2 → Tog ([(⟨1, 2, 0, 2⟩ : NC)] ++ fillsOf 2 [(⟨1, 2, 0, 2⟩ : NC)]) (false, 1) (true, k) := fun k hk => .link ⟨1, 2, 0, 2⟩ _ _ (List.mem_append_left _ (List.mem_singleton_self _)) (show 1 ≤ 1 ∧ 1 < 2 by omega) (show 0 ≤ k ∧ k < 2 by omega)
  refine ⟨⟨rfl, by decide, rfl⟩, fun x hx => by rw [List.mem_singleton.1 hx]; exact ⟨by decide, by decide⟩, fun i _ hi q hq => ⟨fun _ => ⟨_, List.mem_singleton_self _, (show 0 ≤ i ∧ i < 2 by omega), ?_⟩, fun _ => ?_⟩⟩
  · obtain ⟨s, k⟩ := q
    cases s
    · exact (show 0 ≤ k ∧ k < 2 from hq)
    · exact (show 0 ≤ k ∧ k < 2 from ⟨Nat.zero_le _, hq⟩)
  · obtain ⟨s, k⟩ := q
    cases s
    · exact .trans _ _ _ (.symm _ _ (t1 i hi)) (t1 k hq.2)
    · exact .trans _ _ _ (.symm _ _ (t1 i hi)) (t2 k hq)
set_option maxRecDepth 100000 in
set_option maxHeartbeats 2000000 in
theorem awake12_any (w : World) : Calls Try.prog 8 #[] w fun e w' => e = .returned (.bool true) ∧ Below w.heap.size w w' := by
  go_enter Try.func8, Try.ntmps8
  go_wp2_with fail
  refine (new_any 2 w).mono ?_
  rintro e w1 ⟨hans, hb1⟩
  rcases hans with ⟨h, _⟩ | ⟨m, b, gc, base, hm, _, rfl, hC, hbb, hbg⟩
  · omega
  · have hm2 : m = 2 := by omega
    subst hm2
    have hbn := below_new w1 (.cells #[.int .i64 7, .int .i64 8] 3)
    have HC2 := Lib.hid (hC.low hbn)
    have hr : Rd (w1.alloc (.cells #[.int .i64 7, .int .i64 8] 3)) 1 (some ⟨w1.heap.size, 0, none⟩) 2 (([7, 8] : List Int).map (Value.int .i64)) := rd_blk (m := 2) (cs := [.int .i64 7, .int .i64 8]) 1 (heap_alloc_new w1 (.cells #[.int .i64 7, .int .i64 8] 3)) rfl
    have HR := Lib.hid hr
    have HB := Lib.hid (below_self hb1 hbn)
    have hsz : w.heap.size ≤ (w1.alloc (.cells #[.int .i64 7, .int .i64 8] 3)).heap.size := HB.out.size
    clear hm hC hr hbn
    go_wp2_with fail
    refine (set_cells base b gc 2 1 _ _ _ [7, 8] _ 2 2 _ HC2.out (by omega) HR.out (by omega) (by omega)).mono ?_
    rintro e w3 ⟨rfl, ⟨v, r, hri, hC3⟩, hB3⟩
    have hr0 : r = zRC := (Option.some.inj hri).symm
    subst hr0
    have hC4 : CellsAt w3 base b gc 2 (twoR v) (.slice none 0 0) [] := hC3
    have HC4 := Lib.hid hC4
    have HB3 := Lib.hid (hB3 w.heap.size w hbb hbg hsz HB.out)
    clear hri hC3 hB3 hC4 hsz hbb hbg hb1
    go_wp2_with fail
    refine (clusters_cells base b gc 2 (twoR v) _ [] w3 HC4.out (by omega) (by omega) (two_len v)).mono ?_
    rintro e w4 ⟨hans, hb4⟩
    have hans2 : FinAns w3 w4 2 2 twoL e := by
      have h := hans
      rw [two_cnt, two_links] at h
      exact h
    clear hans
    rcases hans2 with ⟨hne, _⟩ | ⟨_, _, _, _, _, _, _, v4, l', rfl, hfi, hown⟩
    · exact absurd two_E hne
    · have hl' : l' = [⟨0, 2, 0, 2⟩] := Finest.only (hfi.2 (by decide)) two_finest
      subst hl'
      obtain ⟨V, cv, rfl, _⟩ := own_form hown
      have HR4 := Lib.hid (show Rd w4 4 V 1 (cellsC [((0, 2), (0, 2))]) from Rd.of_own hown)
      have HC5 := Lib.hid (HC4.out.low hb4)
      have HB4 := Lib.hid (below_self HB3.out hb4)
      clear hfi hown hb4
      go_wp2_with fail
      refine (text_cells base b gc 2 (twoR v) _ [] w4 HC5.out (by omega) (by omega) (Nat.le_trans (two_len v) (by omega))).mono ?_
      rintro e w5 ⟨v5, rfl, hown5, hb5⟩
      rw [two_told] at hown5
      obtain ⟨V5, cv5, rfl, _⟩ := own_form hown5
      have hbn := below_new w5 (.cells #[.int .i64 7, .int .i64 8] 3)
      have HR5 := Lib.hid (show Rd (w5.alloc (.cells #[.int .i64 7, .int .i64 8] 3)) 1 V5 2 (([7, 8] : List Int).map (Value.int .i64)) from (Rd.of_own hown5).below hbn)
      have HR6 := Lib.hid (show Rd (w5.alloc (.cells #[.int .i64 7, .int .i64 8] 3)) 1 (some ⟨w5.heap.size, 0, none⟩) 2 (([7, 8] : List Int).map (Value.int .i64)) from rd_blk (m := 2) (cs := [.int .i64 7, .int .i64 8]) 1 (heap_alloc_new w5 (.cells #[.int .i64 7, .int .i64 8] 3)) rfl)
      have HB5 := Lib.hid (below_self (below_self HB4.out hb5) hbn)
      have HRC := Lib.hid ((HR4.out.below hb5).below hbn)
      clear hown5 hbn hb5
      go_wp2_with fail
      refine (equalInt_any V5 (some ⟨w5.heap.size, 0, none⟩) 2 2 cv5 2 [7, 8] [7, 8] _ HR5.out HR6.out (by unfold maxLen; omega) (by unfold maxLen; omega)).mono ?_
      rintro e w6 ⟨rfl, q6, hw6⟩
      rw [show decide (([7, 8] : List Int) = [7, 8]) = true from decide_eq_true rfl]
      have HB6 := Lib.hid (show Below w.heap.size w w6 by rw [hw6]; exact below_drew HB5.out q6)
      have HRC6 := Lib.hid (show Rd w6 4 V 1 (cellsC [((0, 2), (0, 2))]) by rw [hw6]; exact HRC.out)
      clear hw6
      have hbn := below_new w6 (.cells #[.int .i64 0, .int .i64 2, .int .i64 0, .int .i64 2] 45)
      have HR7 := Lib.hid (show Rd (w6.alloc (.cells #[.int .i64 0, .int .i64 2, .int .i64 0, .int .i64 2] 45)) 4 (some ⟨w6.heap.size, 0, none⟩) 1 (cellsC [((0, 2), (0, 2))]) from rd_blk (m := 1) (cs := [.int .i64 0, .int .i64 2, .int .i64 0, .int .i64 2]) 4 (heap_alloc_new w6 (.cells #[.int .i64 0, .int .i64 2, .int .i64 0, .int .i64 2] 45)) rfl)
      have HR8 := Lib.hid (HRC6.out.below hbn)
      have HB7 := Lib.hid (below_self HB6.out hbn)
      clear hbn
      go_wp2_with fail
      refine (equalC_b V (some ⟨w6.heap.size, 0, none⟩) 1 1 cv 1 [((0, 2), (0, 2))] [((0, 2), (0, 2))] _ HR8.out HR7.out (by unfold maxLen; omega) (by unfold maxLen; omega)).mono ?_
      rintro e w7 ⟨rfl, hb7⟩
      rw [show decide (([((0, 2), (0, 2))] : List Cl) = [((0, 2), (0, 2))]) = true from decide_eq_true rfl]
      have hfin := below_self HB7.out hb7
      go_wp2_with fail
      go_ret
      exact ⟨rfl, hfin⟩
end Go.Proofs.Ytcbiaeeifclieaa
