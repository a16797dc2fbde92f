/- explicit: right, step, walked. -/
import Derived.Test.YtflbiblkphaagaaExP1
import Derived.Test.YtflbiblkphaagaaPaG
import Derived.Deep.RegionLaw
namespace Go.Proofs.Ytflbiblkphaagaa
open Go.RowKit

/-- What right answers: it may part from the document's only where it makes no odds. -/
def RightAns (s : Stk) (xs : List Int) (k : Nat) (e : Ending) : Prop := ∃ r, e = .returned (.bool r) ∧ isoS s r = isoS s (rightC xs k)
section
variable {bw g n c mc : Nat} {A M : Option Addr} {xs : List Int} {base : Int} {s : Stk}
set_option maxRecDepth 100000 in
set_option maxHeartbeats 2000000 in
theorem exRight_any (k : Nat) (x : Int) (w : World) (h : WlkAt w bw g A n c xs M mc base s) (hx : xs[k]? = some x) (hn : n ≤ 100000) (hnc : n ≤ c) (hfm : ∀ y ∈ matF xs, Fit y) : Calls Try.prog 55 #[.pointer (some ⟨bw, 0, none⟩), .int .i64 (k : Int), .int .i64 x] w fun e w' => RightAns s xs k e ∧ Below w.heap.size w w' := by
  have hg : xs.getD k 0 = x := by rw [List.getD_eq_getElem?_getD, hx]; rfl
  by_cases h21 : x = 21
  · subst h21
    have HF := Lib.hid (exFull_any w h)
    obtain ⟨fl, hfl⟩ : ∃ fl, fullS s = fl := ⟨_, rfl⟩
    rw [hfl] at HF
    cases fl with
    | true =>
      have HR : Hid (isoS s false = isoS s (rightC xs k)) := Lib.hid (by rw [iso_no (full_room hfl _), iso_no (full_room hfl _)])
      clear h hfl hx hg
      go_enter Try.func55, Try.ntmps55
      go_wp2_with fail
      refine HF.out.mono ?_
      rintro e w1 ⟨rfl, hb1⟩
      have HB1 := Lib.hid hb1
      clear hb1
      go_wp2
      go_ret
      exact ⟨⟨false, rfl, HR.out⟩, HB1.out⟩
    | false =>
      have hr : rightC xs k = decide (firstF xs ((k : Int) + 1, (matF xs).getD k 0) = 1) := by unfold rightC; rw [if_pos hg]
      obtain ⟨m, hm⟩ : ∃ m, (matF xs)[k]? = some m := by
        have hl := h.mt.1.1
        have hk := (List.getElem?_eq_some_iff.1 hx).1
        have hl2 := h.cl.1.1
        simp at hl hl2
        exact ⟨_, List.getElem?_eq_getElem (by omega)⟩
      have hmd : (matF xs).getD k 0 = m := by rw [List.getD_eq_getElem?_getD, hm]; rfl
      rw [hmd] at hr
      have hFm := hfm m (List.mem_of_getElem? hm)
      have hkn : k < n := by
        have hk := (List.getElem?_eq_some_iff.1 hx).1
        have hl2 := h.cl.1.1
        simp at hl2
        omega
      have HW := Lib.hid h
      have HRR := Lib.hid hr
      clear hx hg hfl h hr hmd
      go_enter Try.func55, Try.ntmps55
      go_wp2_with fail
      refine HF.out.mono ?_
      rintro e w1 ⟨rfl, hb1⟩
      have HB1 := Lib.hid hb1
      have hW := HW.out.low hb1
      have c2 := hW.c2
      have c3 := hW.c3
      have hcl := hW.cl.1
      obtain ⟨md, rfl, hmb, hmcell⟩ := hW.mt.1.at_ hkn
      have cm := hmcell _ (by rw [List.getElem?_map, hm]; rfl)
      have HP := Lib.hid (fun W (k' : Below w1.heap.size w1 W) => prFirst_any A n c xs ((k : Int) + 1) m W (hcl.below k') (by omega) hnc (by unfold Fit; omega) hFm)
      obtain ⟨f, hf⟩ : ∃ f, firstF xs ((k : Int) + 1, m) = f := ⟨_, rfl⟩
      rw [hf] at HP HRR
      have hk0 : (0 : Int) ≤ (k : Int) := by omega
      have hkn' : (k : Int) < (n : Int) := by omega
      have hk5 : (k : Int) ≤ 100000 := by omega
      have hwr : IntKind.i64.wrap ((k : Int) + 1) = (k : Int) + 1 := by rw [IntKind.wrap_i64]; omega
      clear hW hcl hmcell hb1 hf
      go_wp2
      go_region_held3 (fun w' => w'.cell? ⟨bw, 2, none⟩ = some (.slice A n c) ∧ w'.cell? ⟨bw, 3, none⟩ = some (.slice (some md) n mc) ∧ w'.cell? (md.add k) = some (.int .i64 m) ∧ Below w1.heap.size w1 w')
        (first
          | exact ⟨c2, c3, cm, (Below.refl _ _).drew⟩
          | assumption
          | exact ⟨cell_below h1 c2, cell_below h1 c3, cell_below h1 cm, below_self (Below.refl _ _).drew h1⟩
          | exact ⟨cell_below h1 (by assumption : _ ∧ _ ∧ _ ∧ Below w1.heap.size w1 _).1, cell_below h1 (by assumption : _ ∧ _ ∧ _ ∧ Below w1.heap.size w1 _).2.1, cell_below h1 (by assumption : _ ∧ _ ∧ _ ∧ Below w1.heap.size w1 _).2.2.1, below_self (by assumption : _ ∧ _ ∧ _ ∧ Below w1.heap.size w1 _).2.2.2 h1⟩
          | fail)
        (first
          | (go_at_call 59; with_reducible refine (HP.out _ (by first | exact (Below.refl _ _).drew | exact (by assumption : _ ∧ _ ∧ _ ∧ Below w1.heap.size w1 _).2.2.2)).mono ?_; rintro e w3 ⟨rfl, h1⟩)
          | fail)
      all_goals (
        have hz3 : Below w1.heap.size w1 w3 := (by
          first
            | exact (by assumption : _ ∧ _ ∧ _ ∧ Below w1.heap.size w1 w3).2.2.2
            | exact below_self (by assumption : _ ∧ _ ∧ _ ∧ Below w1.heap.size w1 _).2.2.2 h1)
        have HB3 := Lib.hid (below_self HB1.out hz3)
        clear hz3
        go_wp2
        go_ret
        exact ⟨⟨_, rfl, by rw [HRR.out]; congr 1⟩, HB3.out⟩)
  · have hr : rightC xs k = decide (x = 20) := by unfold rightC; rw [hg, if_neg h21]
    have hg21 : (x == 21) = false := by simp [h21]
    have HR := Lib.hid hr
    clear h hx hg hr
    by_cases h20 : x = 20
    · subst h20
      go_enter Try.func55, Try.ntmps55
      go_wp2
      go_ret
      exact ⟨⟨_, rfl, by rw [HR.out]; rfl⟩, Below.refl _ _⟩
    · have hg20 : (x == 20) = false := by simp [h20]
      go_enter Try.func55, Try.ntmps55
      go_wp2
      go_ret
      exact ⟨⟨false, rfl, by rw [HR.out]; simp [h20]⟩, Below.refl _ _⟩
end
end Go.Proofs.Ytflbiblkphaagaa
