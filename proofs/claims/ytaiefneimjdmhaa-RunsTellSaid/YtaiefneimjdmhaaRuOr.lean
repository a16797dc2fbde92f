/- runs.appendPlaces and runs.Order, walked. -/
import Derived.Test.YtaiefneimjdmhaaRgD
import Derived.Test.YtaiefneimjdmhaaStL
import Derived.Test.YtaiefneimjdmhaaMem3
import Derived.Test.YtaiefneimjdmhaaSpSizeP
import Derived.Test.YtaiefneimjdmhaaOwR
import Derived.Test.YtaiefneimjdmhaaHp
import Derived.Test.YtaiefneimjdmhaaOiD
import Derived.Test.YtaiefneimjdmhaaAnd1
namespace Go.Proofs.Ytaiefneimjdmhaa
open Go.RowKit
theorem prSizeB_any (lo hi : Int) (w : World) (hf : rightB (lo, hi) = true → hi ≤ 1000) :
    Calls Try.prog 44 #[.agg #[.int .i64 lo, .int .i64 hi]] w fun e w' => e = .returned (.int .i64 (sizeS (lo, hi))) ∧ Below w.heap.size w w' := by
  cases h : rightB (lo, hi) with
  | true =>
    have h' : 0 ≤ lo ∧ lo < hi := by simpa [rightB] using h
    have := hf h
    exact prSizeS_any lo hi w (by unfold Fit; omega)
  | false =>
    have HS := Lib.hid (show sizeS (lo, hi) = 0 from if_neg (by rw [h]; decide))
    clear hf
    go_enter Try.func44, Try.ntmps44
    go_wp2_with fail
    refine (prRight_any lo hi _).mono ?_
    rintro e w1 ⟨rfl, hb⟩
    have hb1 := below_self (below_new w _) hb
    go_wp2
    go_ret
    exact ⟨retI HS.out.symm, hb1⟩
set_option maxRecDepth 100000 in
set_option maxHeartbeats 2000000 in
theorem ruAppend_any (b q : Nat) (v : Value) (O : List Int) (r : Rg) (w : World) (ho : w.ownsRow b 3 1 v q (O.map (Value.int .i64))) (hb : b ≤ w.heap.size) (hq : q ≤ 10000000) (hr : rightB (r.1, r.2.1) = true → r.2.1 ≤ 1000) :
    Calls Try.prog 45 #[v, .agg #[.int .i64 r.1, .int .i64 r.2.1, .int .i64 r.2.2]] w fun e w' => ∃ v', e = .returned v' ∧ w'.ownsRow b 3 1 v' (q + (plI r).length) ((O ++ plI r).map (Value.int .i64)) ∧ Below b w w' := by
  obtain ⟨lo, hh, lev⟩ := r
  simp only at hr ⊢
  obtain ⟨A0, c0, rfl, hc0⟩ := own_form ho
  obtain ⟨bx, hbx⟩ : ∃ bx, w.heap.size = bx := ⟨_, rfl⟩
  obtain ⟨W, hW⟩ : ∃ W, w.alloc (.cells #[.int .i64 lo, .int .i64 hh, .int .i64 lev] 38) = W := ⟨_, rfl⟩
  have HO := Lib.hid (show W.ownsRow b 3 1 (.slice A0 q c0) q (O.map (Value.int .i64)) by rw [← hW]; exact ho.alloc _)
  have HB := Lib.hid (show Below b w W by rw [← hW]; exact (Below.refl b w).alloc hb _)
  have HX := Lib.hid (show W.heap[bx]? = some (.cells #[.int .i64 lo, .int .i64 hh, .int .i64 lev] 38 (0, 0)) by rw [← hW, ← hbx]; exact heap_alloc_new w _)
  have k0 := hp_cell (j := 0) HX.out rfl
  have k1 := hp_cell (j := 1) HX.out rfl
  have HRT := Lib.hid (fun W => prRight_any lo hh W)
  have hbW := hp_lt HX.out
  clear ho
  have HBS := Lib.hid (show b ≤ W.heap.size by rw [← hW]; simp; omega)
  cases hrt : rightB (lo, hh) with
  | false =>
    rw [hrt] at HRT
    have HP0 := Lib.hid (show plI (lo, hh, lev) = [] by unfold plI; rw [if_neg (by rw [hrt]; decide)])
    rw [HP0.out, List.append_nil]
    clear hrt hr
    go_enter Try.func45, Try.ntmps45
    go_wp2_with (first
      | (go_at_call 47; refine (HRT.out _).mono ?_; rintro e w2 ⟨rfl, hb2⟩)
      | fail)
    go_ret
    exact ⟨_, rfl, own_below HO.out hb2, HB.out.trans (hb2.mono HBS.out)⟩
  | true =>
    rw [hrt] at HRT
    have hr' : 0 ≤ lo ∧ lo < hh := by simpa [rightB] using hrt
    have hh1 := hr hrt
    obtain ⟨m, hm⟩ : ∃ m : Nat, hh - lo = (m : Int) := ⟨(hh - lo).toNat, by omega⟩
    have HP1 := Lib.hid (show plI (lo, hh, lev) = (List.range m).map (plK (lo, hh, lev)) by unfold plI; rw [if_pos hrt]; simp only; rw [hm, Int.toNat_natCast])
    have HPL := Lib.hid (show (plI (lo, hh, lev)).length = m by rw [HP1.out]; simp)
    have hL0 : (0 : Int) ≤ lo := hr'.1
    have hlo1 : lo < hh := hr'.2
    have hm5 : m ≤ 1000 := by omega
    rw [HPL.out]
    clear hrt hr hr'
    by_cases hp : lev % 2 = 0
    · have hbit : bits .and .i64 lev 1 = 0 := by rw [and1_i64]; omega
      have HPK := Lib.hid (fun k => show O ++ (List.range (k + 1)).map (plK (lo, hh, lev)) = (O ++ (List.range k).map (plK (lo, hh, lev))) ++ [lo + (k : Int)] by
        rw [List.range_succ, List.map_append, ← List.append_assoc]
        simp [plK, hp])
      clear hp
      go_enter Try.func45, Try.ntmps45
      go_wp2_with (first
        | (go_at_call 47; refine (HRT.out _).mono ?_; rintro e w2 ⟨rfl, hb2⟩; have hx2 := (hb2.block bx hbW).trans HX.out; have e0 := hp_cell (j := 0) hx2 rfl; have e2 := hp_cell (j := 2) hx2 rfl)
        | fail)
      have HX2 := Lib.hid hx2
      have HO2 := Lib.hid (own_below HO.out hb2)
      have HB2 := Lib.hid (HB.out.trans (hb2.mono HBS.out))
      clear hx2 hb2 e0 e2 k0 k1
      go_loopw [0, 5] (fun v t wk => ∃ k : Nat, k ≤ m ∧ t = .int .i64 (lo + (k : Int)) ∧ wk.ownsRow b 3 1 v (q + k) ((O ++ (List.range k).map (plK (lo, hh, lev))).map (Value.int .i64)) ∧ Below b w wk ∧ wk.heap[bx]? = some (.cells #[.int .i64 lo, .int .i64 hh, .int .i64 lev] 38 (0, 0))) (fun _ t _ => (hh - intOf t).toNat)
      case atStart => exact ⟨0, Nat.zero_le _, by simp, by simpa using HO2.out, HB2.out, HX2.out⟩
      case round =>
        obtain ⟨k, hk, rfl, hOk, hBk, hXk⟩ := hrel
        have e1 := hp_cell (j := 1) hXk rfl
        have HOK := Lib.hid hOk
        have HBK := Lib.hid hBk
        have HXK := Lib.hid hXk
        have HNE := Lib.hid (show u0.ownBlock ≠ some bx from fun e => by
          obtain ⟨cs, h9⟩ := own_row hOk bx e
          rw [hXk] at h9
          simp at h9)
        have hsz : b ≤ wr.heap.size := Nat.le_trans hb hBk.size
        obtain ⟨z, hz⟩ : ∃ z : Int, lo + (k : Int) = z := ⟨_, rfl⟩
        have HZ := Lib.hid hz
        rw [hz]
        clear hOk hBk hXk
        by_cases hkm : k < m
        · have hkm2 : z < hh := by omega
          have hz5 : z ≤ 1000 := by omega
          have hz0 : 0 ≤ z := by omega
          clear hz
          go_wp2_with (first
            | (at_builtin; refine wpList_app rfl _ _ _ rfl intSliceM (by decide) _ (q + k) _ rfl (HOK.out.alloc _) ⟨wr.heap.size, 0, none⟩ 1 1 [.int .i64 z] rfl rfl (cells_new wr [.int .i64 z] 3) (oneInt _ _) (by omega) (by unfold maxLen; omega) (Nat.le_trans hsz (by simp)) ?_; intro v1 w3 hown3 hg3 hat3)
            | fail)
          have HO3 : Hid (w3.ownsRow b 3 1 v1 (q + (k + 1)) ((O ++ (List.range (k + 1)).map (plK (lo, hh, lev))).map (Value.int .i64))) := Lib.hid (by rw [HPK.out k, List.map_append, HZ.out]; exact hown3)
          have HB3 := Lib.hid (below_app (HBK.out.alloc hsz _) hg3 (HOK.out.alloc _) (Nat.le_trans hsz (by simp)))
          have HX3 := Lib.hid (blk_grown (blk_alloc HXK.out _) hg3 HNE.out)
          clear hown3 hg3 hat3
          go_roundw
          case rel => exact ⟨k + 1, by omega, by have := HZ.out; congr 1; omega, HO3.out, HB3.out, HX3.out⟩
          case measure => simp [intOf]; omega
        · obtain rfl : k = m := by omega
          have hkm2 : ¬ z < hh := by omega
          obtain ⟨A9, c9, hv9, _⟩ := own_form HOK.out
          subst hv9
          clear hz
          go_wp2
          go_ret
          exact ⟨_, rfl, by rw [HP1.out]; have h := HOK.out; rw [List.map_append] at h; exact h, HBK.out⟩
    · have hp1 : lev % 2 = 1 := by omega
      have hbit : bits .and .i64 lev 1 = 1 := by rw [and1_i64]; omega
      have HPK := Lib.hid (fun k => show O ++ (List.range (k + 1)).map (plK (lo, hh, lev)) = (O ++ (List.range k).map (plK (lo, hh, lev))) ++ [hh - 1 - (k : Int)] by
        rw [List.range_succ, List.map_append, ← List.append_assoc]
        simp [plK, hp])
      clear hp hp1
      go_enter Try.func45, Try.ntmps45
      go_wp2_with (first
        | (go_at_call 47; refine (HRT.out _).mono ?_; rintro e w2 ⟨rfl, hb2⟩; have hx2 := (hb2.block bx hbW).trans HX.out; have e1 := hp_cell (j := 1) hx2 rfl; have e2 := hp_cell (j := 2) hx2 rfl)
        | fail)
      have HX2 := Lib.hid hx2
      have HO2 := Lib.hid (own_below HO.out hb2)
      have HB2 := Lib.hid (HB.out.trans (hb2.mono HBS.out))
      clear hx2 hb2 e1 e2 k0 k1
      go_loopw [0, 6] (fun v t wk => ∃ k : Nat, k ≤ m ∧ t = .int .i64 (hh - 1 - (k : Int)) ∧ wk.ownsRow b 3 1 v (q + k) ((O ++ (List.range k).map (plK (lo, hh, lev))).map (Value.int .i64)) ∧ Below b w wk ∧ wk.heap[bx]? = some (.cells #[.int .i64 lo, .int .i64 hh, .int .i64 lev] 38 (0, 0))) (fun _ t _ => (intOf t + 1).toNat)
      case atStart => exact ⟨0, Nat.zero_le _, by simp, by simpa using HO2.out, HB2.out, HX2.out⟩
      case round =>
        obtain ⟨k, hk, rfl, hOk, hBk, hXk⟩ := hrel
        have e0 := hp_cell (j := 0) hXk rfl
        have HOK := Lib.hid hOk
        have HBK := Lib.hid hBk
        have HXK := Lib.hid hXk
        have HNE := Lib.hid (show u0.ownBlock ≠ some bx from fun e => by
          obtain ⟨cs, h9⟩ := own_row hOk bx e
          rw [hXk] at h9
          simp at h9)
        have hsz : b ≤ wr.heap.size := Nat.le_trans hb hBk.size
        obtain ⟨z, hz⟩ : ∃ z : Int, hh - 1 - (k : Int) = z := ⟨_, rfl⟩
        have HZ := Lib.hid hz
        rw [hz]
        clear hOk hBk hXk
        by_cases hkm : k < m
        · have hkm2 : lo ≤ z := by omega
          have hz5 : z ≤ 1000 := by omega
          have hz0 : 0 ≤ z := by omega
          clear hz
          go_wp2_with (first
            | (at_builtin; refine wpList_app rfl _ _ _ rfl intSliceM (by decide) _ (q + k) _ rfl (HOK.out.alloc _) ⟨wr.heap.size, 0, none⟩ 1 1 [.int .i64 z] rfl rfl (cells_new wr [.int .i64 z] 3) (oneInt _ _) (by omega) (by unfold maxLen; omega) (Nat.le_trans hsz (by simp)) ?_; intro v1 w3 hown3 hg3 hat3)
            | fail)
          have HO3 : Hid (w3.ownsRow b 3 1 v1 (q + (k + 1)) ((O ++ (List.range (k + 1)).map (plK (lo, hh, lev))).map (Value.int .i64))) := Lib.hid (by rw [HPK.out k, List.map_append, HZ.out]; exact hown3)
          have HB3 := Lib.hid (below_app (HBK.out.alloc hsz _) hg3 (HOK.out.alloc _) (Nat.le_trans hsz (by simp)))
          have HX3 := Lib.hid (blk_grown (blk_alloc HXK.out _) hg3 HNE.out)
          clear hown3 hg3 hat3
          go_roundw
          case rel => exact ⟨k + 1, by omega, by have := HZ.out; congr 1; omega, HO3.out, HB3.out, HX3.out⟩
          case measure => simp [intOf]; omega
        · obtain rfl : k = m := by omega
          have hkm2 : ¬ lo ≤ z := by omega
          obtain ⟨A9, c9, hv9, _⟩ := own_form HOK.out
          subst hv9
          clear hz
          go_wp2
          go_ret
          exact ⟨_, rfl, by rw [HP1.out]; have h := HOK.out; rw [List.map_append] at h; exact h, HBK.out⟩
end Go.Proofs.Ytaiefneimjdmhaa
