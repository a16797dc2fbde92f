/- Texts of one claim, one behind the other. -/
import Derived.Test.YtdgomaoikeffhaaGreatMgAp3
import Derived.Test.YtdgomaoikeffhaaGreatMgAp10
import Derived.Test.YtdgomaoikeffhaaGreatMgAp11
/- neutral's pick, sides, walked. -/
namespace Go.Proofs.YtdgomaoikeffhaaGreat
open Go.RowKit

set_option maxRecDepth 100000 in
set_option maxHeartbeats 4000000 in
theorem nuPick_any (A B : Option Addr) (n c m d : Nat) (l : List Int) (P : List Nat) (w : World) (hr : Rd w 1 A n (l.map (Value.int .i64))) (hs : Rd w 1 B m ((encN P).map (Value.int .i64))) (hP : ∀ i ∈ P, i < n) (_hn : n ≤ 100000) (hm : m ≤ 100000) :
    Calls Tryz.prog 27 #[.slice A n c, .slice B m d] w fun e w' => ∃ v, e = .returned v ∧ w'.ownsRow w.heap.size 3 1 v m ((atF l P).map (Value.int .i64)) ∧ Below w.heap.size w w' := by
  have hll : l.length = n := by simpa using hr.len1
  have hpl : P.length = m := by have := hs.len1; unfold encN at this; simpa using this
  have HLL := Lib.hid hll
  have HPL := Lib.hid hpl
  have HPI := Lib.hid hP
  have HR := Lib.hid hr
  have HS := Lib.hid hs
  have HAL := Lib.hid (show (atF l P).length = (List.replicate m (0 : Int)).length by rw [atF_len, List.length_replicate, hpl])
  clear hr hs hll hpl hP
  go_enter Tryz.func27, Tryz.ntmps27
  go_wp2_with (first
    | (refine wpList_mkFull rfl _ _ _ rfl (base := w.heap.size) (e := 3) (bytes := 8) (z := .int .i64 0) Tryz.underlying22 (by kernel_rfl) rfl (m : Int) (m : Int) m rfl rfl rfl rfl (by omega) (by unfold maxLen; omega) (Nat.le_refl _) ?_; intro w1 hown1 hg1)
    | fail)
  have HO1 : Hid (w1.ownsRow w.heap.size 3 1 (.slice (some ⟨w.heap.size, 0, none⟩) m m) m ((mixR (atF l P) (List.replicate m 0) 0).map (Value.int .i64))) := Lib.hid (by rw [mixR_zero, List.map_replicate]; exact hown1)
  have HB1 : Hid (Below w.heap.size w w1) := Lib.hid ((Below.refl _ _).grown hg1 (Nat.le_refl _) (by simp))
  obtain ⟨g, hgw⟩ : ∃ g, w.heap.size = g := ⟨_, rfl⟩
  have HGW := Lib.hid hgw
  rw [hgw] at HO1
  rw [hgw]
  clear hown1 hg1 hgw
  go_loopw [13] (fun i wr => ∃ k : Nat, k ≤ m ∧ i = .int .i64 (k : Int) ∧ wr.ownsRow g 3 1 (.slice (some ⟨g, 0, none⟩) m m) m ((mixR (atF l P) (List.replicate m 0) k).map (Value.int .i64)) ∧ Below g w wr) (fun i _ => m - (intOf i).toNat)
  case atStart => exact ⟨0, Nat.zero_le _, rfl, HO1.out, by rw [← HGW.out]; exact HB1.out⟩
  case round =>
    obtain ⟨k, hk, rfl, ho, hb⟩ := hrel
    have HO := Lib.hid ho
    have HB := Lib.hid hb
    have hbw : Below w.heap.size w wr := by rw [HGW.out]; exact hb
    by_cases hlt : k < m
    · obtain ⟨i, hi⟩ : ∃ i, P[k]? = some i := ⟨_, List.getElem?_eq_getElem (by rw [HPL.out]; exact hlt)⟩
      have hin := HPI.out i (List.mem_of_getElem? hi)
      obtain ⟨x, hx⟩ : ∃ x, l[i]? = some x := ⟨_, List.getElem?_eq_getElem (by rw [HLL.out]; exact hin)⟩
      obtain ⟨ad, rfl, hab, hcell⟩ := (HR.out.below hbw).at_ hin
      obtain ⟨bd, rfl, hbb, hbcell⟩ := (HS.out.below hbw).at_ hlt
      have cx := hcell (.int .i64 x) (by rw [List.getElem?_map, hx]; rfl)
      have cp := hbcell (.int .i64 (i : Int)) (by unfold encN; rw [List.getElem?_map, List.getElem?_map, hi]; rfl)
      have hx2 : (atF l P)[k]? = some x := by rw [atF_at hi, List.getD_eq_getElem?_getD, hx]; rfl
      have hki : (k : Int) < (m : Int) := by omega
      have hii : (i : Int) < (n : Int) := by omega
      have hi0 : (0 : Int) ≤ (i : Int) := by omega
      have fz : wr.frozen? ⟨g, k, none⟩ = false := ho.frozenAt k
      have hc : ∃ z, wr.cell? ⟨g, k, none⟩ = some z := by
        have hl : k < (mixR (atF l P) (List.replicate m 0) k).length := by rw [mixR_len HAL.out, List.length_replicate]; exact hlt
        obtain ⟨g2, c2, hv2, _, _, _, hcs2⟩ := own_at HO.out (show 0 < m by omega)
        simp only [Value.slice.injEq, Option.some.injEq, Addr.mk.injEq, and_true, true_and] at hv2
        obtain ⟨rfl, rfl⟩ := hv2
        exact ⟨_, hcs2 k (.int .i64 ((mixR (atF l P) (List.replicate m 0) k)[k])) (by rw [List.getElem?_map, List.getElem?_eq_getElem hl]; rfl)⟩
      obtain ⟨z, hc⟩ := hc
      have HS2 : Hid ((wr.setCell ⟨g, k, none⟩ (.int .i64 x)).ownsRow g 3 1 (.slice (some ⟨g, 0, none⟩) m m) m ((mixR (atF l P) (List.replicate m 0) (k + 1)).map (Value.int .i64))) := Lib.hid (by
        rw [mixR_set HAL.out (by rw [List.length_replicate]; exact hlt) hx2, List.map_set]
        exact (HO.out.stored k (.int .i64 x)).1)
      have HB2 := Lib.hid (HB.out.setCell (p := ⟨g, k, none⟩) (Nat.le_refl _) (.int .i64 x))
      clear ho hb hbw hi hx hcell hbcell hx2 hin
      go_wp2
      go_roundw
      case rel => exact ⟨k + 1, by omega, by go_num, HS2.out, HB2.out⟩
      case measure => simp [intOf]; omega
    · obtain rfl : k = m := by omega
      have HZ := Lib.hid (show mixR (atF l P) (List.replicate k 0) k = atF l P from mixR_all HAL.out (by rw [List.length_replicate]; exact Nat.le_refl _))
      go_wp2
      go_ret
      have h := HO.out
      rw [HZ.out] at h
      rw [HGW.out]
      exact ⟨_, rfl, h, HB.out⟩
set_option maxRecDepth 100000 in
set_option maxHeartbeats 2000000 in
theorem nuSides_any (x : Int) (w : World) : Calls Tryz.prog 75 #[.int .i64 x] w fun e w' => e = .returned (.tuple #[.bool (decide (sideF x = 0)), .bool (decide (sideF x = 1))]) ∧ Below w.heap.size w w' := by
  have hi : insS ([x].take 1 |>.drop 0) 0 = (decide (sideF x = 0), decide (sideF x = 1)) := by
    have h := side_in x
    simp only [List.take_succ_cons, List.take_zero, List.drop_zero]
    unfold insS
    simp only [List.any_cons, List.any_nil, Bool.or_false, ofL]
    rcases h with h | h | h <;> rw [h] <;> rfl
  have HI := Lib.hid (bkInside_any (some ⟨w.heap.size, 0, none⟩) 1 1 0 1 [x] 0 _ _ hi (by omega) (by omega) (by omega) (by omega) (w.alloc (.cells #[.int .i64 x] 3)) (Rd.new_ w [.int .i64 x] _))
  rw [show (((0 : Nat) : Int) - 1) = -1 by rfl, show ((1 : Nat) : Int) = 1 by rfl] at HI
  have HB := Lib.hid (below_new w (.cells #[.int .i64 x] 3))
  clear hi
  go_enter Tryz.func75, Tryz.ntmps75
  go_wp2_with (first
    | (go_at_call 98; refine HI.out.mono ?_; rintro e w2 ⟨rfl, hb2⟩; have HB2 := Lib.hid (below_self HB.out hb2))
    | fail)
  go_ret2
  exact ⟨rfl, HB2.out⟩
end Go.Proofs.YtdgomaoikeffhaaGreat
