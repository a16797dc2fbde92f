/- Texts of one claim, one behind the other. -/
import Derived.Laws.StructEq
import Derived.Test.YtaiefneimjdmhaaMgRo1
/- runs.appendPlaces and runs.Order, walked. -/
namespace Go.Proofs.Ytaiefneimjdmhaa
open Go.RowKit
theorem prSizeB_any (lo hi : Int) (w : World) (hf : rightB (lo, hi) = true → hi ≤ 1000) :
    Calls Try.prog 44 #[.agg #[.int .i64 lo, .int .i64 hi]] w fun e w' => e = .returned (.int .i64 (sizeS (lo, hi))) ∧ Below w.heap.size w w' := by
  cases h : rightB (lo, hi) with
  | true =>
    have h' : 0 ≤ lo ∧ lo < hi := by simpa [rightB] using h
    have := hf h
    exact prSizeS_any lo hi w (by unfold Fit; omega)
  | false =>
    have HS := Lib.hid (show sizeS (lo, hi) = 0 from if_neg (by rw [h]; decide))
    clear hf
    go_enter Try.func44, Try.ntmps44
    go_wp2_with fail
    refine (prRight_any lo hi _).mono ?_
    rintro e w1 ⟨rfl, hb⟩
    have hb1 := below_self (below_new w _) hb
    go_wp2
    go_ret
    exact ⟨retI HS.out.symm, hb1⟩
set_option maxRecDepth 100000 in
set_option maxHeartbeats 2000000 in
theorem ruAppend_any (b q : Nat) (v : Value) (O : List Int) (r : Rg) (w : World) (ho : w.ownsRow b 3 1 v q (O.map (Value.int .i64))) (hb : b ≤ w.heap.size) (hq : q ≤ 10000000) (hr : rightB (r.1, r.2.1) = true → r.2.1 ≤ 1000) :
    Calls Try.prog 45 #[v, .agg #[.int .i64 r.1, .int .i64 r.2.1, .int .i64 r.2.2]] w fun e w' => ∃ v', e = .returned v' ∧ w'.ownsRow b 3 1 v' (q + (plI r).length) ((O ++ plI r).map (Value.int .i64)) ∧ Below b w w' := by
  obtain ⟨lo, hh, lev⟩ := r
  simp only at hr ⊢
  obtain ⟨A0, c0, rfl, hc0⟩ := own_form ho
  obtain ⟨bx, hbx⟩ : ∃ bx, w.heap.size = bx := ⟨_, rfl⟩
  obtain ⟨W, hW⟩ : ∃ W, w.alloc (.cells #[.int .i64 lo, .int .i64 hh, .int .i64 lev] 38) = W := ⟨_, rfl⟩
  have HO := Lib.hid (show W.ownsRow b 3 1 (.slice A0 q c0) q (O.map (Value.int .i64)) by rw [← hW]; exact ho.alloc _)
  have HB := Lib.hid (show Below b w W by rw [← hW]; exact (Below.refl b w).alloc hb _)
  have HX := Lib.hid (show W.heap[bx]? = some (.cells #[.int .i64 lo, .int .i64 hh, .int .i64 lev] 38 (0, 0)) by rw [← hW, ← hbx]; exact heap_alloc_new w _)
  have k0 := hp_cell (j := 0) HX.out rfl
  have k1 := hp_cell (j := 1) HX.out rfl
  have HRT := Lib.hid (fun W => prRight_any lo hh W)
  have hbW := hp_lt HX.out
  clear ho
  have HBS := Lib.hid (show b ≤ W.heap.size by rw [← hW]; simp; omega)
  cases hrt : rightB (lo, hh) with
  | false =>
    rw [hrt] at HRT
    have HP0 := Lib.hid (show plI (lo, hh, lev) = [] by unfold plI; rw [if_neg (by rw [hrt]; decide)])
    rw [HP0.out, List.append_nil]
    clear hrt hr
    go_enter Try.func45, Try.ntmps45
    go_wp2_with (first
      | (go_at_call 47; refine (HRT.out _).mono ?_; rintro e w2 ⟨rfl, hb2⟩)
      | fail)
    go_ret
    exact ⟨_, rfl, own_below HO.out hb2, HB.out.trans (hb2.mono HBS.out)⟩
  | true =>
    rw [hrt] at HRT
    have hr' : 0 ≤ lo ∧ lo < hh := by simpa [rightB] using hrt
    have hh1 := hr hrt
    obtain ⟨m, hm⟩ : ∃ m : Nat, hh - lo = (m : Int) := ⟨(hh - lo).toNat, by omega⟩
    have HP1 := Lib.hid (show plI (lo, hh, lev) = (List.range m).map (plK (lo, hh, lev)) by unfold plI; rw [if_pos hrt]; simp only; rw [hm, Int.toNat_natCast])
    have HPL := Lib.hid (show (plI (lo, hh, lev)).length = m by rw [HP1.out]; simp)
    have hL0 : (0 : Int) ≤ lo := hr'.1
    have hlo1 : lo < hh := hr'.2
    have hm5 : m ≤ 1000 := by omega
    rw [HPL.out]
    clear hrt hr hr'
    by_cases hp : lev % 2 = 0
    · have hbit : bits .and .i64 lev 1 = 0 := by rw [and1_i64]; omega
      have HPK := Lib.hid (fun k => show O ++ (List.range (k + 1)).map (plK (lo, hh, lev)) = (O ++ (List.range k).map (plK (lo, hh, lev))) ++ [lo + (k : Int)] by
        rw [List.range_succ, List.map_append, ← List.append_assoc]
        simp [plK, hp])
      clear hp
      go_enter Try.func45, Try.ntmps45
      go_wp2_with (first
        | (go_at_call 47; refine (HRT.out _).mono ?_; rintro e w2 ⟨rfl, hb2⟩; have hx2 := (hb2.block bx hbW).trans HX.out; have e0 := hp_cell (j := 0) hx2 rfl; have e2 := hp_cell (j := 2) hx2 rfl)
        | fail)
      have HX2 := Lib.hid hx2
      have HO2 := Lib.hid (own_below HO.out hb2)
      have HB2 := Lib.hid (HB.out.trans (hb2.mono HBS.out))
      clear hx2 hb2 e0 e2 k0 k1
      go_loopw [0, 5] (fun v t wk => ∃ k : Nat, k ≤ m ∧ t = .int .i64 (lo + (k : Int)) ∧ wk.ownsRow b 3 1 v (q + k) ((O ++ (List.range k).map (plK (lo, hh, lev))).map (Value.int .i64)) ∧ Below b w wk ∧ wk.heap[bx]? = some (.cells #[.int .i64 lo, .int .i64 hh, .int .i64 lev] 38 (0, 0))) (fun _ t _ => (hh - intOf t).toNat)
      case atStart => exact ⟨0, Nat.zero_le _, by simp, by simpa using HO2.out, HB2.out, HX2.out⟩
      case round =>
        obtain ⟨k, hk, rfl, hOk, hBk, hXk⟩ := hrel
        have e1 := hp_cell (j := 1) hXk rfl
        have HOK := Lib.hid hOk
        have HBK := Lib.hid hBk
        have HXK := Lib.hid hXk
        have HNE := Lib.hid (show u0.ownBlock ≠ some bx from fun e => by
          obtain ⟨cs, h9⟩ := own_row hOk bx e
          rw [hXk] at h9
          simp at h9)
        have hsz : b ≤ wr.heap.size := Nat.le_trans hb hBk.size
        obtain ⟨z, hz⟩ : ∃ z : Int, lo + (k : Int) = z := ⟨_, rfl⟩
        have HZ := Lib.hid hz
        rw [hz]
        clear hOk hBk hXk
        by_cases hkm : k < m
        · have hkm2 : z < hh := by omega
          have hz5 : z ≤ 1000 := by omega
          have hz0 : 0 ≤ z := by omega
          clear hz
          go_wp2_with (first
            | (at_builtin; refine wpList_app rfl _ _ _ rfl intSliceM (by decide) _ (q + k) _ rfl (HOK.out.alloc _) ⟨wr.heap.size, 0, none⟩ 1 1 [.int .i64 z] rfl rfl (cells_new wr [.int .i64 z] 3) (oneInt _ _) (by omega) (by unfold maxLen; omega) (Nat.le_trans hsz (by simp)) ?_; intro v1 w3 hown3 hg3 hat3)
            | fail)
          have HO3 : Hid (w3.ownsRow b 3 1 v1 (q + (k + 1)) ((O ++ (List.range (k + 1)).map (plK (lo, hh, lev))).map (Value.int .i64))) := Lib.hid (by rw [HPK.out k, List.map_append, HZ.out]; exact hown3)
          have HB3 := Lib.hid (below_app (HBK.out.alloc hsz _) hg3 (HOK.out.alloc _) (Nat.le_trans hsz (by simp)))
          have HX3 := Lib.hid (blk_grown (blk_alloc HXK.out _) hg3 HNE.out)
          clear hown3 hg3 hat3
          go_roundw
          case rel => exact ⟨k + 1, by omega, by have := HZ.out; congr 1; omega, HO3.out, HB3.out, HX3.out⟩
          case measure => simp [intOf]; omega
        · obtain rfl : k = m := by omega
          have hkm2 : ¬ z < hh := by omega
          obtain ⟨A9, c9, hv9, _⟩ := own_form HOK.out
          subst hv9
          clear hz
          go_wp2
          go_ret
          exact ⟨_, rfl, by rw [HP1.out]; have h := HOK.out; rw [List.map_append] at h; exact h, HBK.out⟩
    · have hp1 : lev % 2 = 1 := by omega
      have hbit : bits .and .i64 lev 1 = 1 := by rw [and1_i64]; omega
      have HPK := Lib.hid (fun k => show O ++ (List.range (k + 1)).map (plK (lo, hh, lev)) = (O ++ (List.range k).map (plK (lo, hh, lev))) ++ [hh - 1 - (k : Int)] by
        rw [List.range_succ, List.map_append, ← List.append_assoc]
        simp [plK, hp])
      clear hp hp1
      go_enter Try.func45, Try.ntmps45
      go_wp2_with (first
        | (go_at_call 47; refine (HRT.out _).mono ?_; rintro e w2 ⟨rfl, hb2⟩; have hx2 := (hb2.block bx hbW).trans HX.out; have e1 := hp_cell (j := 1) hx2 rfl; have e2 := hp_cell (j := 2) hx2 rfl)
        | fail)
      have HX2 := Lib.hid hx2
      have HO2 := Lib.hid (own_below HO.out hb2)
      have HB2 := Lib.hid (HB.out.trans (hb2.mono HBS.out))
      clear hx2 hb2 e1 e2 k0 k1
      go_loopw [0, 6] (fun v t wk => ∃ k : Nat, k ≤ m ∧ t = .int .i64 (hh - 1 - (k : Int)) ∧ wk.ownsRow b 3 1 v (q + k) ((O ++ (List.range k).map (plK (lo, hh, lev))).map (Value.int .i64)) ∧ Below b w wk ∧ wk.heap[bx]? = some (.cells #[.int .i64 lo, .int .i64 hh, .int .i64 lev] 38 (0, 0))) (fun _ t _ => (intOf t + 1).toNat)
      case atStart => exact ⟨0, Nat.zero_le _, by simp, by simpa using HO2.out, HB2.out, HX2.out⟩
      case round =>
        obtain ⟨k, hk, rfl, hOk, hBk, hXk⟩ := hrel
        have e0 := hp_cell (j := 0) hXk rfl
        have HOK := Lib.hid hOk
        have HBK := Lib.hid hBk
        have HXK := Lib.hid hXk
        have HNE := Lib.hid (show u0.ownBlock ≠ some bx from fun e => by
          obtain ⟨cs, h9⟩ := own_row hOk bx e
          rw [hXk] at h9
          simp at h9)
        have hsz : b ≤ wr.heap.size := Nat.le_trans hb hBk.size
        obtain ⟨z, hz⟩ : ∃ z : Int, hh - 1 - (k : Int) = z := ⟨_, rfl⟩
        have HZ := Lib.hid hz
        rw [hz]
        clear hOk hBk hXk
        by_cases hkm : k < m
        · have hkm2 : lo ≤ z := by omega
          have hz5 : z ≤ 1000 := by omega
          have hz0 : 0 ≤ z := by omega
          clear hz
          go_wp2_with (first
            | (at_builtin; refine wpList_app rfl _ _ _ rfl intSliceM (by decide) _ (q + k) _ rfl (HOK.out.alloc _) ⟨wr.heap.size, 0, none⟩ 1 1 [.int .i64 z] rfl rfl (cells_new wr [.int .i64 z] 3) (oneInt _ _) (by omega) (by unfold maxLen; omega) (Nat.le_trans hsz (by simp)) ?_; intro v1 w3 hown3 hg3 hat3)
            | fail)
          have HO3 : Hid (w3.ownsRow b 3 1 v1 (q + (k + 1)) ((O ++ (List.range (k + 1)).map (plK (lo, hh, lev))).map (Value.int .i64))) := Lib.hid (by rw [HPK.out k, List.map_append, HZ.out]; exact hown3)
          have HB3 := Lib.hid (below_app (HBK.out.alloc hsz _) hg3 (HOK.out.alloc _) (Nat.le_trans hsz (by simp)))
          have HX3 := Lib.hid (blk_grown (blk_alloc HXK.out _) hg3 HNE.out)
          clear hown3 hg3 hat3
          go_roundw
          case rel => exact ⟨k + 1, by omega, by have := HZ.out; congr 1; omega, HO3.out, HB3.out, HX3.out⟩
          case measure => simp [intOf]; omega
        · obtain rfl : k = m := by omega
          have hkm2 : ¬ lo ≤ z := by omega
          obtain ⟨A9, c9, hv9, _⟩ := own_form HOK.out
          subst hv9
          clear hz
          go_wp2
          go_ret
          exact ⟨_, rfl, by rw [HP1.out]; have h := HOK.out; rw [List.map_append] at h; exact h, HBK.out⟩
end Go.Proofs.Ytaiefneimjdmhaa
/- runs.Order, walked. -/
namespace Go.Proofs.Ytaiefneimjdmhaa
open Go.RowKit
theorem sizeS_in {lo hi : Int} (h : rightB (lo, hi) = true → hi ≤ 1000) : 0 ≤ sizeS (lo, hi) ∧ sizeS (lo, hi) ≤ 1000 := by
  unfold sizeS
  split
  · rename_i hr
    have := h hr
    have hr' : 0 ≤ lo ∧ lo < hi := by simpa [rightB] using hr
    simp only
    omega
  · omega
set_option maxRecDepth 100000 in
set_option maxHeartbeats 2000000 in
theorem ruOrder_any (A : Option Addr) (n c : Nat) (l : List Rg) (w : World) (hr : Rd w 3 A n (cellsG l)) (hn : n ≤ 1000) (hb : ∀ r ∈ l, rightB (r.1, r.2.1) = true → r.2.1 ≤ 1000) :
    Calls Try.prog 27 #[.slice A n c] w fun e w' => ∃ v, e = .returned v ∧ w'.ownsRow w.heap.size 3 1 v (ordI l).length ((ordI l).map (Value.int .i64)) ∧ Below w.heap.size w w' := by
  have hl := hr.lenG
  have HL := Lib.hid hl
  have HR := Lib.hid hr
  have HBD := Lib.hid hb
  clear hl hr hb
  go_enter Try.func27, Try.ntmps27
  go_wp2
  go_loopw [3, 12] (fun v t wr => ∃ i p : Nat, i ≤ n ∧ t = .int .i64 (i : Int) ∧ v = .int .i64 (p : Int) ∧ p ≤ 1000 * i ∧ Below w.heap.size w wr) (fun _ t _ => n - (intOf t).toNat)
  case atStart => exact ⟨0, 0, Nat.zero_le _, rfl, rfl, Nat.le_refl _, Below.refl _ _⟩
  case round =>
    obtain ⟨i, p, hi, rfl, rfl, hp, hB⟩ := hrel
    have HB := Lib.hid hB
    clear hB
    by_cases hlt : i < n
    · obtain ⟨r, hrr⟩ : ∃ r, l[i]? = some r := ⟨_, List.getElem?_eq_getElem (by rw [HL.out]; exact hlt)⟩
      have hbr := HBD.out r (List.mem_of_getElem? hrr)
      obtain ⟨lo, hh, lev⟩ := r
      obtain ⟨ad, rfl, hab, d0, d1, d2⟩ := HR.out.rg hrr
      simp only at d0 d1 d2 hbr
      have c0 := cell_below HB.out d0
      have c1 := cell_below HB.out d1
      have c2 := cell_below HB.out d2
      obtain ⟨s, hs⟩ : ∃ s, sizeS (lo, hh) = s := ⟨_, rfl⟩
      have hsi := sizeS_in hbr
      rw [hs] at hsi
      have HSZ := Lib.hid (fun W => prSizeB_any lo hh W hbr)
      rw [hs] at HSZ
      have hin : (i : Int) < (n : Int) := by omega
      have hi0 : (0 : Int) ≤ (i : Int) := by omega
      have hi5 : (i : Int) ≤ 1000 := by omega
      obtain ⟨s, rfl⟩ : ∃ s' : Nat, s = (s' : Int) := ⟨s.toNat, by omega⟩
      have hp6 : (p : Int) ≤ 1000000 := by omega
      have hs6 : ¬ (268435455 - (p : Int) < (s : Int)) := by omega
      have hs7 : (s : Int) ≤ 1000 := by omega
      have hsz := HB.out.size
      clear hrr d0 d1 d2 hs hbr
      go_wp2_with (first
        | (go_at_call 44; refine (HSZ.out _).mono ?_; rintro e w2 ⟨rfl, hb2⟩)
        | fail)
      have HBA := Lib.hid (HB.out.alloc hsz (.cells #[.int .i64 lo, .int .i64 hh, .int .i64 lev] 38))
      have HB2 := Lib.hid (HBA.out.trans (hb2.mono HBA.out.size))
      go_roundw
      case rel => exact ⟨i + 1, p + s, by omega, by go_num, by go_num, by omega, HB2.out⟩
      case measure => simp [intOf]; omega
    · obtain rfl : i = n := by omega
      have hp6 : (p : Int) ≤ 1000000 := by omega
      have hp0 : (0 : Int) ≤ (p : Int) := by omega
      have hsz := HB.out.size
      go_wp2_with (first
        | (refine wpList_mk rfl _ _ _ rfl (base := wr.heap.size) intSliceM (p : Int) p rfl rfl rfl (by omega) (by unfold maxLen; omega) (Nat.le_refl _) ?_; intro v1 w1 hown1 hg1; obtain ⟨A1, c1, rfl, hc1⟩ := own_form hown1)
        | fail)
      have HO1 := Lib.hid (own_base hown1 hsz)
      have HB1 := Lib.hid (HB.out.trans ((below_make hg1).mono hsz))
      clear hown1 hg1 hc1 hp hi hsz
      go_loopw [7, 31] (fun v t wj => ∃ j : Nat, j ≤ i ∧ t = .int .i64 (j : Int) ∧ (ordI (l.take j)).length ≤ 1000 * j ∧ wj.ownsRow w.heap.size 3 1 v (ordI (l.take j)).length ((ordI (l.take j)).map (Value.int .i64)) ∧ Below w.heap.size w wj) (fun _ t _ => i - (intOf t).toNat)
      case atStart => exact ⟨0, Nat.zero_le _, rfl, Nat.zero_le _, HO1.out, HB1.out⟩
      case round =>
        obtain ⟨j, hj, rfl, hle, hO, hB⟩ := hrel
        have HO := Lib.hid hO
        have HBj := Lib.hid hB
        clear hO hB HO1 HB1
        by_cases hlt2 : j < i
        · obtain ⟨r, hrr⟩ : ∃ r, l[j]? = some r := ⟨_, List.getElem?_eq_getElem (by rw [HL.out]; exact hlt2)⟩
          have hbr := HBD.out r (List.mem_of_getElem? hrr)
          have HNX := Lib.hid (ordI_next hrr)
          have HLE := Lib.hid (plI_len r hbr)
          obtain ⟨L0, hL0⟩ : ∃ L0, ordI (l.take j) = L0 := ⟨_, rfl⟩
          rw [hL0] at HO HNX hle
          obtain ⟨ad, rfl, hab, d0, d1, d2⟩ := HR.out.rg hrr
          have c0 := cell_below HBj.out d0
          have c1 := cell_below HBj.out d1
          have c2 := cell_below HBj.out d2
          have hszj := HBj.out.size
          have HAP := Lib.hid (ruAppend_any w.heap.size L0.length u7 L0 r (wr.alloc (.cells #[.int .i64 r.1, .int .i64 r.2.1, .int .i64 r.2.2] 38)) (HO.out.alloc _) (Nat.le_trans hszj (by simp)) (by omega) hbr)
          have HBA := Lib.hid (HBj.out.alloc hszj (.cells #[.int .i64 r.1, .int .i64 r.2.1, .int .i64 r.2.2] 38))
          obtain ⟨lo, hh, lev⟩ := r
          simp only at c0 c1 c2 HAP HBA
          have hin : (j : Int) < (i : Int) := by omega
          have hi0 : (0 : Int) ≤ (j : Int) := by omega
          have hi5 : (i : Int) ≤ 1000 := by omega
          clear hrr d0 d1 d2 hbr hL0
          go_wp2_with (first
            | (go_at_call 45; refine HAP.out.mono ?_; rintro e w2 ⟨v2, rfl, ho2, hb2⟩)
            | fail)
          have HO2 := Lib.hid ho2
          have HB2 := Lib.hid (HBA.out.trans hb2)
          clear ho2 hb2
          go_roundw
          case rel => exact ⟨j + 1, by omega, by go_num, by rw [HNX.out, List.length_append]; have := HLE.out; omega, by rw [HNX.out, List.length_append]; exact HO2.out, HB2.out⟩
          case measure => simp [intOf]; omega
        · obtain rfl : j = i := by omega
          have HZ := Lib.hid (show l.take j = l from List.take_of_length_le (by rw [HL.out]; exact Nat.le_refl _))
          rw [HZ.out] at HO
          go_wp2
          go_ret
          exact ⟨_, rfl, HO.out, HBj.out⟩
end Go.Proofs.Ytaiefneimjdmhaa
/- slices.Equal at []api.Run: whether the two slices read alike. -/
namespace Go.Proofs.Ytaiefneimjdmhaa
open Go.RowKit

theorem neqU (a b : Rg) (w : World) : (binOp .neq 38 (.agg #[.int .i64 a.1, .int .i64 a.2.1, .int .i64 a.2.2]) (.agg #[.int .i64 b.1, .int .i64 b.2.1, .int .i64 b.2.2])).run Try.prog w = .ok (.bool (!(decide (a = b)))) w := by
  have u3 := Try.underlying3
  have a3 := Try.isAgg3
  have z3 := Try.sizeOf3
  have hS : Try.prog.underlying 38 = some (.struct (Try.prog.fieldsOf 38)) := by kernel_rfl
  have hp : Try.prog.stoodInHeld 38 = false := by kernel_rfl
  rw [run_neq_struct, show (10000 : Nat) = 9999 + 1 from rfl, run_equalIn_agg w 9999 38 _ _ hS hp]
  simp only [Program.fieldsOf, Try.underlying38]
  go_simp
  obtain ⟨a1, a2, a3⟩ := a
  obtain ⟨b1, b2, b3⟩ := b
  by_cases h1 : a1 = b1 <;> by_cases h2 : a2 = b2 <;> by_cases h3 : a3 = b3 <;> simp [h1, h2, h3]
theorem guardU : Try.prog.eqGuardType Try.prog.depth 38 = false := by kernel_rfl

theorem take_eq_succU {xs ys : List Rg} {k : Nat} (h : xs.take k = ys.take k) {x : Rg} (h1 : xs[k]? = some x) (h2 : ys[k]? = some x) : xs.take (k + 1) = ys.take (k + 1) := by
  rw [List.take_add_one, List.take_add_one, h, h1, h2]

set_option maxRecDepth 100000 in
set_option maxHeartbeats 1000000 in
theorem equalU_same (n : Nat) (A B : Option Addr) (c d : Nat) (xs ys : List Rg) (w : World) (hxn : xs.length = n) (hyn : ys.length = n)
    (hx : Rd w 3 A n (cellsG xs)) (hy : Rd w 3 B n (cellsG ys)) (hn : n ≤ maxLen) :
    Calls Try.prog 22 #[.slice A n c, .slice B n d] w fun e w' => e = .returned (.bool (decide (xs = ys))) ∧ ∃ q, w' = w.drewN q := by
  unfold maxLen at hn
  have HX := Lib.hid hxn
  have HY := Lib.hid hyn
  clear hxn hyn
  have hg := guardU
  go_enter Try.func22, Try.ntmps22
  go_wp2
  go_loopw [13] (fun i wr => ∃ k q : Nat, k ≤ n ∧ i = .int .i64 k ∧ wr = w.drewN q ∧ xs.take k = ys.take k) (fun i _ => n - (intOf i).toNat)
  case atStart => exact ⟨0, 0, Nat.zero_le _, rfl, rfl, rfl⟩
  case round =>
    obtain ⟨k, q, hk, rfl, rfl, ht⟩ := hrel
    have HT := Lib.hid ht
    clear ht
    by_cases hlt : k < n
    · obtain ⟨x, hxk⟩ : ∃ x, xs[k]? = some x := ⟨_, List.getElem?_eq_getElem (by rw [HX.out]; exact hlt)⟩
      obtain ⟨y, hyk⟩ : ∃ y, ys[k]? = some y := ⟨_, List.getElem?_eq_getElem (by rw [HY.out]; exact hlt)⟩
      obtain ⟨a, rfl, _, a1, a2, a3⟩ := hx.rg hxk
      obtain ⟨b, rfl, _, b1, b2, b3⟩ := hy.rg hyk
      have hq := neqU x y
      have HXK := Lib.hid hxk
      have HYK := Lib.hid hyk
      clear hxk hyk
      by_cases he : x = y
      · subst he
        simp only [decide_true, Bool.not_true] at hq
        obtain ⟨x1, x2, x3⟩ := x
        simp only at a1 a2 a3 b1 b2 b3 hq
        go_wp2
        go_quiet (fail)
        go_wp2
        go_roundw
        case rel => exact ⟨k + 1, _, by omega, by go_num, rfl, take_eq_succU HT.out HXK.out HYK.out⟩
        case measure => simp [intOf]; omega
      · have hf : decide (xs = ys) = false := decide_eq_false (fun e => he (by have h1 := HXK.out; rw [e, HYK.out] at h1; injection h1 with h1; exact h1.symm))
        rw [decide_eq_false he] at hq
        simp only [Bool.not_false] at hq
        clear he
        obtain ⟨x1, x2, x3⟩ := x
        obtain ⟨y1, y2, y3⟩ := y
        simp only at a1 a2 a3 b1 b2 b3 hq
        go_wp2
        go_quiet (fail)
        go_wp2
        go_ret
        exact ⟨retB (by simp [hf]), _, World.drewN_drewN _ _ _⟩
    · have htr : decide (xs = ys) = true := decide_eq_true (by
        have h := HT.out
        rwa [List.take_of_length_le (by rw [HX.out]; omega), List.take_of_length_le (by rw [HY.out]; omega)] at h)
      go_wp2
      go_ret
      exact ⟨retB (by simp [htr]), _, rfl⟩

theorem equalU_b (A B : Option Addr) (n m c d : Nat) (xs ys : List Rg) (w : World) (hx : Rd w 3 A n (cellsG xs)) (hy : Rd w 3 B m (cellsG ys)) (hn : n ≤ maxLen) (hm : m ≤ maxLen) :
    Calls Try.prog 22 #[.slice A n c, .slice B m d] w fun e w' => e = .returned (.bool (decide (xs = ys))) ∧ Below w.heap.size w w' := by
  have hxl : xs.length = n := by have := hx.1; rw [cellsG_len] at this; omega
  have hyl : ys.length = m := by have := hy.1; rw [cellsG_len] at this; omega
  by_cases h : n = m
  · subst h
    exact (equalU_same n A B c d xs ys w hxl hyl hx hy hn).mono fun _ _ ⟨he, q, hq⟩ => ⟨he, hq ▸ drewBelow q⟩
  · have hne : decide (xs = ys) = false := decide_eq_false (fun e => h (by rw [← hxl, ← hyl, e]))
    have h1 : ((n : Int) == m) = false := by simp; omega
    have h2 : ((n : Int) != m) = true := by simp; omega
    clear hxl hyl
    go_enter Try.func22, Try.ntmps22
    go_wp2
    go_ret
    exact ⟨retB (by simp [hne]), Below.refl _ _⟩
end Go.Proofs.Ytaiefneimjdmhaa
/- slices.Equal at []int: whether the two slices read alike; the world is as it was, but for draws. -/
namespace Go.Proofs.Ytaiefneimjdmhaa
open Go.RowKit

theorem take_eq_succ {xs ys : List Int} {k : Nat} (h : xs.take k = ys.take k) {x : Int} (h1 : xs[k]? = some x) (h2 : ys[k]? = some x) : xs.take (k + 1) = ys.take (k + 1) := by
  rw [List.take_add_one, List.take_add_one, h, h1, h2]

set_option maxRecDepth 100000 in
set_option maxHeartbeats 1000000 in
theorem equalInt_same (n : Nat) (A B : Option Addr) (c d : Nat) (xs ys : List Int) (w : World) (hxn : xs.length = n) (hyn : ys.length = n)
    (hx : Rd w 1 A n (xs.map (Value.int .i64))) (hy : Rd w 1 B n (ys.map (Value.int .i64))) (hn : n ≤ maxLen) :
    Calls Try.prog 12 #[.slice A n c, .slice B n d] w fun e w' => e = .returned (.bool (decide (xs = ys))) ∧ ∃ q, w' = w.drewN q := by
  unfold maxLen at hn
  have HX := Lib.hid hxn
  have HY := Lib.hid hyn
  clear hxn hyn
  go_enter Try.func12, Try.ntmps12
  go_wp2
  go_loopw [13] (fun i wr => ∃ k q : Nat, k ≤ n ∧ i = .int .i64 k ∧ wr = w.drewN q ∧ xs.take k = ys.take k) (fun i _ => n - (intOf i).toNat)
  case atStart => exact ⟨0, 0, Nat.zero_le _, rfl, rfl, rfl⟩
  case round =>
    obtain ⟨k, q, hk, rfl, rfl, ht⟩ := hrel
    have HT := Lib.hid ht
    clear ht
    by_cases hlt : k < n
    · obtain ⟨x, hxk⟩ : ∃ x, xs[k]? = some x := ⟨_, List.getElem?_eq_getElem (by rw [HX.out]; exact hlt)⟩
      obtain ⟨y, hyk⟩ : ∃ y, ys[k]? = some y := ⟨_, List.getElem?_eq_getElem (by rw [HY.out]; exact hlt)⟩
      obtain ⟨a, rfl, _, ha⟩ := hx.at_ hlt
      obtain ⟨b, rfl, _, hb⟩ := hy.at_ hlt
      have ca : w.cell? (a.add k) = some (.int .i64 x) := ha _ (by rw [List.getElem?_map, hxk]; rfl)
      have cb : w.cell? (b.add k) = some (.int .i64 y) := hb _ (by rw [List.getElem?_map, hyk]; rfl)
      have HXK := Lib.hid hxk
      have HYK := Lib.hid hyk
      clear hxk hyk ha hb
      by_cases he : x = y
      · subst he
        go_wp2
        go_quiet (fail)
        go_wp2
        go_roundw
        case rel => exact ⟨k + 1, _, by omega, by go_num, rfl, take_eq_succ HT.out HXK.out HYK.out⟩
        case measure => simp [intOf]; omega
      · have hne : (x == y) = false := by simpa using he
        have hne' : (x != y) = true := by simpa using he
        have hf : decide (xs = ys) = false := decide_eq_false (fun e => he (by have h1 := HXK.out; rw [e, HYK.out] at h1; injection h1 with h1; exact h1.symm))
        clear he
        go_wp2
        go_quiet (fail)
        go_wp2
        go_ret
        exact ⟨retB (by simp [hf]), _, World.drewN_drewN _ _ _⟩
    · have hkn : k = n := by omega
      have htr : decide (xs = ys) = true := decide_eq_true (by
        have h := HT.out
        rwa [List.take_of_length_le (by rw [HX.out]; omega), List.take_of_length_le (by rw [HY.out]; omega)] at h)
      clear hkn
      go_wp2
      go_ret
      exact ⟨retB (by simp [htr]), _, rfl⟩

theorem equalInt_any (A B : Option Addr) (n m c d : Nat) (xs ys : List Int) (w : World) (hx : Rd w 1 A n (xs.map (Value.int .i64))) (hy : Rd w 1 B m (ys.map (Value.int .i64))) (hn : n ≤ maxLen) (hm : m ≤ maxLen) :
    Calls Try.prog 12 #[.slice A n c, .slice B m d] w fun e w' => e = .returned (.bool (decide (xs = ys))) ∧ ∃ q, w' = w.drewN q := by
  have hxl : xs.length = n := by simpa using hx.len1
  have hyl : ys.length = m := by simpa using hy.len1
  by_cases h : n = m
  · subst h
    exact equalInt_same n A B c d xs ys w hxl hyl hx hy hn
  · have hne : decide (xs = ys) = false := decide_eq_false (fun e => h (by rw [← hxl, ← hyl, e]))
    have h1 : ((n : Int) == m) = false := by simp; omega
    have h2 : ((n : Int) != m) = true := by simp; omega
    clear hxl hyl
    go_enter Try.func12, Try.ntmps12
    go_wp2
    go_ret
    exact ⟨retB (by simp [hne]), 0, rfl⟩
theorem equalInt_b (A B : Option Addr) (n m c d : Nat) (xs ys : List Int) (w : World) (hx : Rd w 1 A n (xs.map (Value.int .i64))) (hy : Rd w 1 B m (ys.map (Value.int .i64))) (hn : n ≤ maxLen) (hm : m ≤ maxLen) :
    Calls Try.prog 12 #[.slice A n c, .slice B m d] w fun e w' => e = .returned (.bool (decide (xs = ys))) ∧ Below w.heap.size w w' :=
  (equalInt_any A B n m c d xs ys w hx hy hn hm).mono fun _ _ ⟨he, q, hq⟩ => ⟨he, hq ▸ drewBelow q⟩
end Go.Proofs.Ytaiefneimjdmhaa
/- naskhlaw30.awake. -/
namespace Go.Proofs.Ytaiefneimjdmhaa
open Go.RowKit
theorem eqlU (a b c : Int) (w : World) : (binOp .eql 38 (.agg #[.int .i64 a, .int .i64 b, .int .i64 c]) (.agg #[.int .i64 a, .int .i64 b, .int .i64 c])).run Try.prog w = .ok (.bool true) w := by
  have u3 := Try.underlying3
  have a3 := Try.isAgg3
  have z3 := Try.sizeOf3
  have hS : Try.prog.underlying 38 = some (.struct (Try.prog.fieldsOf 38)) := by kernel_rfl
  have hp : Try.prog.stoodInHeld 38 = false := by kernel_rfl
  rw [run_eql_struct, show (10000 : Nat) = 9999 + 1 from rfl, run_equalIn_agg w 9999 38 _ _ hS hp]
  simp only [Program.fieldsOf, Try.underlying38]
  go_simp
theorem log_awake : logR [0, 1, 1] 3 = [(0, 1, 0), (1, 3, 1)] := by decide +kernel
theorem ord_awake : ordI [(0, 1, 0), (1, 3, 1)] = [0, 2, 1] := by decide +kernel
set_option maxRecDepth 100000 in
set_option maxHeartbeats 2000000 in
theorem awakeRu_any (w : World) : Calls Try.prog 21 #[] w fun e w' => e = .returned (.bool true) ∧ Below w.heap.size w w' := by
  have HV := Lib.hid (ruLogical_any (some ⟨w.heap.size, 0, none⟩) 3 3 [0, 1, 1] _ (Rd.new_ w [.int .i64 0, .int .i64 1, .int .i64 1] 3) (by omega))
  rw [log_awake] at HV
  have HB1 := Lib.hid (below_new w (.cells #[.int .i64 0, .int .i64 1, .int .i64 1] 3))
  have HOR := Lib.hid (fun (A : Option Addr) (c : Nat) (W : World) (h : Rd W 3 A 2 (cellsG [(0, 1, 0), (1, 3, 1)])) => ruOrder_any A 2 c [(0, 1, 0), (1, 3, 1)] W h (by omega) (by
    intro r hr _
    simp at hr
    rcases hr with rfl | rfl <;> decide))
  rw [ord_awake] at HOR
  have hq := eqlU 1 3 1
  have hg := guardU
  go_enter Try.func21, Try.ntmps21
  go_wp2_with (first
    | (go_at_call 23; refine HV.out.mono ?_; rintro e w3 ⟨v3, rfl, hv3, hb3⟩; obtain ⟨g3, c3, rfl, _, _⟩ := hv3.form (by simp); obtain ⟨_, c3', e3, hc3⟩ := own_form hv3; have HV3 := Lib.hid (Rd.of_own hv3); have HB3 := Lib.hid (below_self HB1.out hb3); have q0 := (hv3.cellAt 3 (by simp)).trans (show (cellsG [(0, 1, 0), (1, 3, 1)])[3]? = some (.int .i64 1) from rfl); have q1 := (hv3.cellAt 4 (by simp)).trans (show (cellsG [(0, 1, 0), (1, 3, 1)])[4]? = some (.int .i64 3) from rfl); have q2 := (hv3.cellAt 5 (by simp)).trans (show (cellsG [(0, 1, 0), (1, 3, 1)])[5]? = some (.int .i64 1) from rfl); clear hv3 hb3 e3)
    | (go_at_call 27; refine (HOR.out _ _ w3 HV3.out).mono ?_; rintro e w4 ⟨v4, rfl, hv4, hb4⟩; obtain ⟨A4, c4, rfl, _⟩ := own_form hv4; have HV4 := Lib.hid hv4; have HB4 := Lib.hid (below_self HB3.out hb4); clear hv4 hb4)
    | (go_at_call 12; refine (equalInt_b A4 (some ⟨w4.heap.size, 0, none⟩) 3 3 c4 3 [0, 2, 1] [0, 2, 1] (w4.alloc (.cells #[.int .i64 0, .int .i64 2, .int .i64 1] 3)) ((Rd.of_own HV4.out).alloc _) (Rd.new_ w4 [.int .i64 0, .int .i64 2, .int .i64 1] _) (by unfold maxLen; omega) (by unfold maxLen; omega)).mono ?_; rintro e w5 ⟨rfl, hb5⟩; have HB5 := Lib.hid (below_self HB4.out (below_self (below_new w4 _) hb5)); clear hb5)
    | fail)
  go_ret
  exact ⟨rfl, HB5.out⟩
end Go.Proofs.Ytaiefneimjdmhaa
/- A row of runs of the call's own: its cells, an exchange. -/
namespace Go.Proofs.Ytaiefneimjdmhaa
open Go.RowKit

theorem cellsG_set {l : List Rg} {k : Nat} (h : k < l.length) (s : Rg) : (((cellsG l).set (k * 3) (.int .i64 s.1)).set (k * 3 + 1) (.int .i64 s.2.1)).set (k * 3 + 2) (.int .i64 s.2.2) = cellsG (l.set k s) := by
  induction l generalizing k with
  | nil => simp at h
  | cons t l ih =>
    have hc : ∀ (u : Rg) (m : List Rg), cellsG (u :: m) = .int .i64 u.1 :: .int .i64 u.2.1 :: .int .i64 u.2.2 :: cellsG m := fun _ _ => rfl
    cases k with
    | zero => simp [hc]
    | succ k =>
      have e0 : (k + 1) * 3 = k * 3 + 1 + 1 + 1 := by omega
      have e1 : (k + 1) * 3 + 1 = (k * 3 + 1) + 1 + 1 + 1 := by omega
      have e2 : (k + 1) * 3 + 2 = (k * 3 + 2) + 1 + 1 + 1 := by omega
      rw [e2, e1, e0, hc, List.set_cons_succ, List.set_cons_succ, List.set_cons_succ, List.set_cons_succ, List.set_cons_succ, List.set_cons_succ, List.set_cons_succ, List.set_cons_succ,
        List.set_cons_succ, ih (by simpa using h), List.set_cons_succ, hc]
/-- A row of runs of the call's own. -/
def RuW (w : World) (base g n cap : Nat) (ys : List Rg) : Prop := w.ownsRow base 38 3 (.slice (some ⟨g, 0, none⟩) n cap) n (cellsG ys)
theorem RuW.len {w : World} {base g n cap : Nat} {ys : List Rg} (h : RuW w base g n cap ys) : ys.length = n := by
  have := h.1
  rw [cellsG_len] at this
  omega
theorem RuW.at_ {w : World} {base g n cap k : Nat} {ys : List Rg} {s : Rg} (h : RuW w base g n cap ys) (hk : ys[k]? = some s) :
    w.cell? ⟨g, k * 3, none⟩ = some (.int .i64 s.1) ∧ w.cell? ⟨g, k * 3 + 1, none⟩ = some (.int .i64 s.2.1) ∧ w.cell? ⟨g, k * 3 + 2, none⟩ = some (.int .i64 s.2.2) ∧
    w.frozen? ⟨g, k * 3, none⟩ = false ∧ w.frozen? ⟨g, k * 3 + 1, none⟩ = false ∧ w.frozen? ⟨g, k * 3 + 2, none⟩ = false := by
  have hl := (List.getElem?_eq_some_iff.1 hk).1
  have hn := h.len
  obtain ⟨e0, e1, e2⟩ := cellsG_at hk
  have h' := h
  unfold RuW at h'
  exact ⟨by rw [h'.cellAt (k * 3) (by omega)]; exact e0, by rw [h'.cellAt (k * 3 + 1) (by omega)]; exact e1, by rw [h'.cellAt (k * 3 + 2) (by omega)]; exact e2, h'.frozenAt _, h'.frozenAt _, h'.frozenAt _⟩
def putG (w : World) (g k : Nat) (s : Rg) : World := ((w.setCell ⟨g, k * 3, none⟩ (.int .i64 s.1)).setCell ⟨g, k * 3 + 1, none⟩ (.int .i64 s.2.1)).setCell ⟨g, k * 3 + 2, none⟩ (.int .i64 s.2.2)
theorem RuW.put {w : World} {base g n cap k : Nat} {ys : List Rg} (h : RuW w base g n cap ys) (hk : k < n) (s : Rg) : RuW (putG w g k s) base g n cap (ys.set k s) := by
  have := (((h.stored (k * 3) (.int .i64 s.1)).1.stored (k * 3 + 1) (.int .i64 s.2.1)).1.stored (k * 3 + 2) (.int .i64 s.2.2)).1
  rw [cellsG_set (by rw [h.len]; exact hk)] at this
  exact this
theorem RuW.low {w w' : World} {base g n cap : Nat} {ys : List Rg} (h : RuW w base g n cap ys) (hb : Below w.heap.size w w') : RuW w' base g n cap ys := own_below h hb
theorem RuW.base {w : World} {base g n cap : Nat} {ys : List Rg} (h : RuW w base g n cap ys) : base ≤ g := (h.lt g rfl).1
theorem below_putG {w0 w : World} {base g k : Nat} (h : Below base w0 w) (hg : base ≤ g) (s : Rg) : Below base w0 (putG w g k s) :=
  ((h.setCell (p := ⟨g, k * 3, none⟩) hg _).setCell (p := ⟨g, k * 3 + 1, none⟩) hg _).setCell (p := ⟨g, k * 3 + 2, none⟩) hg _
theorem swap_list (a mm r : List Rg) (x y : Rg) : ((a ++ (x :: mm ++ [y]) ++ r).set a.length y).set (a.length + (mm.length + 1)) x = (a ++ [y]) ++ mm ++ (x :: r) := by
  have e1 : (a ++ (x :: mm ++ [y]) ++ r).set a.length y = (a ++ [y]) ++ mm ++ (y :: r) := by
    rw [List.append_assoc, List.set_append_right _ _ (Nat.le_refl _), Nat.sub_self]
    simp
  rw [e1, List.set_append_right _ _ (by simp)]
  simp
theorem two_endsG {m : List Rg} (h : 1 < m.length) : ∃ x mm y, m = x :: mm ++ [y] := by
  cases m with
  | nil => simp at h
  | cons x l =>
    refine ⟨x, l.dropLast, l.getLast (by intro e; subst e; simp at h), ?_⟩
    rw [List.cons_append, List.dropLast_concat_getLast]
end Go.Proofs.Ytaiefneimjdmhaa
/- Orders as mathematics: parts turned round, level by level; what each place's inverse is. No function of the program. -/
namespace Go.Proofs.Ytaiefneimjdmhaa
open Go.RowKit

/-- Each longest part whose places are so, turned round: what stands ahead is kept, the last one first. -/
def revR {α : Type} (p : α → Bool) : List α → List α → List α
  | acc, [] => acc
  | acc, x :: l => if p x = true then revR p (x :: acc) l else acc ++ x :: revR p [] l
theorem revR_perm {α : Type} (p : α → Bool) : ∀ (l acc : List α), (revR p acc l).Perm (acc ++ l)
  | [], acc => by simp [revR]
  | x :: l, acc => by
    rw [revR]
    split
    · exact (revR_perm p l (x :: acc)).trans (by simpa using (List.perm_middle (a := x) (l₁ := acc) (l₂ := l)).symm)
    · exact List.Perm.append_left acc ((revR_perm p l []).cons x)
theorem revR_all {α : Type} {p : α → Bool} : ∀ (l acc : List α), (∀ x ∈ l, p x = true) → revR p acc l = l.reverse ++ acc
  | [], acc, _ => rfl
  | x :: l, acc, h => by
    rw [revR, if_pos (h x (by simp)), revR_all l (x :: acc) fun y hy => h y (by simp [hy])]
    simp
theorem revR_none {α : Type} {p : α → Bool} : ∀ (l : List α), (∀ x ∈ l, p x = false) → revR p [] l = l
  | [], _ => rfl
  | x :: l, h => by
    rw [revR, if_neg (by rw [h x (by simp)]; decide), revR_none l fun y hy => h y (by simp [hy])]
    rfl
def heldF (x : Int) : Int := min (max x 0) 126
/-- Whether an odd level is at most a level. -/
def oddB (ls : List Int) (v : Int) : Bool := ls.any fun x => decide (x % 2 = 1 ∧ x ≤ v)
def visA (ls : List Int) : Nat → List Nat → List Nat
  | 0, o => o
  | v + 1, o => visA ls v (if oddB ls ((v + 1 : Nat) : Int) = true then revR (fun i => decide (((v + 1 : Nat) : Int) ≤ ls.getD i 0)) [] o else o)
def mostF : List Int → Int
  | [] => 0
  | x :: l => max x (mostF l)
/-- In which order places are seen. -/
def visF (ls : List Int) : List Nat := visA (ls.map heldF) (mostF (ls.map heldF)).toNat (List.range ls.length)
theorem visA_perm (ls : List Int) : ∀ (v : Nat) (o : List Nat), (visA ls v o).Perm o
  | 0, o => .refl o
  | v + 1, o => by
    rw [visA]
    refine (visA_perm ls v _).trans ?_
    split
    · exact revR_perm _ o []
    · exact .refl o
theorem vis_perm (ls : List Int) : (visF ls).Perm (List.range ls.length) := visA_perm _ _ _
theorem vis_len (ls : List Int) : (visF ls).length = ls.length := by rw [(vis_perm ls).length_eq, List.length_range]
theorem visA_stay {ls : List Int} : ∀ (v : Nat) (o : List Nat), oddB ls v = false → visA ls v o = o
  | 0, o, _ => rfl
  | v + 1, o, h => by
    rw [visA, if_neg (by rw [h]; decide), visA_stay v o]
    rw [Bool.eq_false_iff] at h ⊢
    intro h2
    apply h
    unfold oddB at h2 ⊢
    rw [List.any_eq_true] at h2 ⊢
    obtain ⟨x, hx, hd⟩ := h2
    have hd := of_decide_eq_true hd
    exact ⟨x, hx, decide_eq_true ⟨hd.1, by omega⟩⟩
/-- Where no level is odd nothing is turned. -/
theorem vis_even {ls : List Int} (h : ∀ x ∈ ls, heldF x % 2 = 0) : visF ls = List.range ls.length := by
  unfold visF
  rw [visA_stay]
  rw [Bool.eq_false_iff]
  intro h2
  unfold oddB at h2
  rw [List.any_eq_true] at h2
  obtain ⟨x, hx, hd⟩ := h2
  have hd := of_decide_eq_true hd
  obtain ⟨y, hy, rfl⟩ := List.mem_map.1 hx
  have := h y hy
  omega
theorem most_same {v : Int} (hv : 0 ≤ v) : ∀ n : Nat, mostF (List.replicate (n + 1) v) = v
  | 0 => by simp [mostF]; omega
  | n + 1 => by
    rw [List.replicate_succ, mostF, most_same hv n]
    omega
/-- Where all are odd, and the same, all is turned. -/
theorem vis_odd {v : Int} (hv : v % 2 = 1) (h0 : 0 ≤ v) (h1 : v ≤ 126) (n : Nat) : visF (List.replicate n v) = (List.range n).reverse := by
  cases n with
  | zero => rfl
  | succ n =>
    have hh : (List.replicate (n + 1) v).map heldF = List.replicate (n + 1) v := by
      rw [List.map_replicate]
      congr 1
      unfold heldF
      omega
    unfold visF
    rw [hh, most_same h0, List.length_replicate]
    obtain ⟨k, hk⟩ : ∃ k : Nat, v.toNat = k + 1 := ⟨v.toNat - 1, by omega⟩
    have hkv : ((k + 1 : Nat) : Int) = v := by omega
    have ho : oddB (List.replicate (n + 1) v) ((k + 1 : Nat) : Int) = true := by
      unfold oddB
      rw [List.any_eq_true]
      exact ⟨v, by simp, decide_eq_true ⟨hv, by omega⟩⟩
    have hno : oddB (List.replicate (n + 1) v) (k : Int) = false := by
      rw [Bool.eq_false_iff]
      intro h2
      unfold oddB at h2
      rw [List.any_eq_true] at h2
      obtain ⟨x, hx, hd⟩ := h2
      have hd := of_decide_eq_true hd
      have := (List.mem_replicate.1 hx).2
      omega
    rw [hk, visA, if_pos ho, visA_stay _ _ hno, revR_all, List.append_nil]
    intro x hx
    rw [List.mem_range] at hx
    apply decide_eq_true
    rw [List.getD_eq_getElem?_getD, List.getElem?_replicate, if_pos hx]
    simp
    omega
/-- Where a place stands. -/
def posF (x : Nat) : List Nat → Nat
  | [] => 0
  | y :: l => if y = x then 0 else posF x l + 1
theorem posF_mem {x : Nat} : ∀ {o : List Nat}, x ∈ o → o[posF x o]? = some x
  | [], h => by cases h
  | y :: l, h => by
    rw [posF]
    by_cases hy : y = x
    · rw [if_pos hy, hy]; rfl
    · rw [if_neg hy, List.getElem?_cons_succ]
      exact posF_mem ((List.mem_cons.1 h).resolve_left fun e => hy e.symm)
theorem posF_at {x : Nat} : ∀ {o : List Nat} {i : Nat}, o.Nodup → o[i]? = some x → posF x o = i
  | [], _, _, h => by simp at h
  | y :: l, 0, _, h => by
    obtain rfl := Option.some.inj h
    rw [posF, if_pos rfl]
  | y :: l, i + 1, hn, h => by
    rw [List.nodup_cons] at hn
    rw [List.getElem?_cons_succ] at h
    have hxl := List.mem_of_getElem? h
    rw [posF, if_neg (fun e => hn.1 (by rw [e]; exact hxl)), posF_at hn.2 h]
def invF (o : List Nat) : List Nat := (List.range o.length).map fun i => posF i o
theorem invF_len (o : List Nat) : (invF o).length = o.length := by simp [invF]
section
variable {o : List Nat} {n : Nat} (h : o.Perm (List.range n))
include h
theorem perm_len : o.length = n := by rw [h.length_eq, List.length_range]
theorem perm_nodup : o.Nodup := h.nodup_iff.2 List.nodup_range
theorem perm_mem {x : Nat} : x ∈ o ↔ x < n := by rw [h.mem_iff, List.mem_range]
theorem inv_at {i x : Nat} (hi : o[i]? = some x) : (invF o)[x]? = some i := by
  have hx : x < o.length := by rw [perm_len h]; exact (perm_mem h).1 (List.mem_of_getElem? hi)
  unfold invF
  rw [List.getElem?_map, List.getElem?_range hx]
  simp only [Option.map_some]
  rw [posF_at (perm_nodup h) hi]
theorem at_inv {i x : Nat} (hi : (invF o)[i]? = some x) : o[x]? = some i := by
  have hl : i < o.length := by rw [← invF_len]; exact (List.getElem?_eq_some_iff.1 hi).1
  unfold invF at hi
  rw [List.getElem?_map, List.getElem?_range hl] at hi
  simp only [Option.map_some] at hi
  obtain rfl := Option.some.inj hi
  exact posF_mem ((perm_mem h).2 (by rw [← perm_len h]; exact hl))
theorem inv_perm : (invF o).Perm (List.range n) := by
  have hl := perm_len h
  have hnd : (invF o).Nodup := by
    unfold invF
    rw [List.Nodup, List.pairwise_map]
    refine List.Pairwise.imp_of_mem (fun {a b} ha hb hlt => ?_) (List.pairwise_lt_range (n := o.length))
    intro e
    rw [List.mem_range] at ha hb
    have e1 := posF_mem (o := o) ((perm_mem h).2 (show a < n by omega))
    have e2 := posF_mem (o := o) ((perm_mem h).2 (show b < n by omega))
    rw [e, e2] at e1
    have := Option.some.inj e1
    omega
  refine (List.perm_ext_iff_of_nodup hnd List.nodup_range).2 fun x => ?_
  rw [List.mem_range]
  constructor
  · intro hx
    obtain ⟨i, hi⟩ := List.getElem?_of_mem hx
    have := (List.getElem?_eq_some_iff.1 (at_inv h hi)).1
    omega
  · intro hx
    have hx2 : x < o.length := by omega
    exact List.mem_of_getElem? (inv_at h (List.getElem?_eq_getElem hx2))
theorem inv_inv : invF (invF o) = o := by
  apply List.ext_getElem?
  intro i
  by_cases hi : i < o.length
  · rw [List.getElem?_eq_getElem hi]
    exact inv_at (inv_perm h) (inv_at h (List.getElem?_eq_getElem hi))
  · rw [List.getElem?_eq_none (by rw [invF_len, invF_len]; omega), List.getElem?_eq_none (by omega)]
/-- What is seen by an order, and by its inverse again. -/
theorem app_inv {l : List Int} (hl : l.length = n) : (invF o).map (fun i => (o.map fun i => l.getD i 0).getD i 0) = l := by
  apply List.ext_getElem?
  intro i
  by_cases hi : i < n
  · have hi2 : i < (invF o).length := by rw [invF_len, perm_len h]; exact hi
    obtain ⟨x, hx⟩ : ∃ x, (invF o)[i]? = some x := ⟨_, List.getElem?_eq_getElem hi2⟩
    have e := at_inv h hx
    rw [List.getElem?_map, hx]
    simp only [Option.map_some]
    rw [List.getD_eq_getElem?_getD, List.getElem?_map, e]
    simp only [Option.map_some, Option.getD_some]
    rw [List.getD_eq_getElem?_getD, List.getElem?_eq_getElem (by omega)]
    rfl
  · rw [List.getElem?_eq_none (by rw [List.length_map, invF_len, perm_len h]; omega), List.getElem?_eq_none (by omega)]
end
end Go.Proofs.Ytaiefneimjdmhaa
/- Runs as mathematics: the places of runs as they are seen are in the order in which places are seen. No function of the program. -/
namespace Go.Proofs.Ytaiefneimjdmhaa
open Go.RowKit

theorem revR_app {α : Type} {p : α → Bool} : ∀ (a acc l : List α), (∀ x ∈ a, p x = true) → revR p acc (a ++ l) = revR p (a.reverse ++ acc) l
  | [], _, _, _ => rfl
  | x :: a, acc, l, h => by
    rw [List.cons_append, revR, if_pos (h x (by simp)), revR_app a (x :: acc) l fun y hy => h y (by simp [hy])]
    simp
theorem revR_off {α : Type} {p : α → Bool} : ∀ (a acc l : List α), a ≠ [] → (∀ x ∈ a, p x = false) → revR p acc (a ++ l) = acc ++ a ++ revR p [] l
  | [], _, _, h, _ => absurd rfl h
  | [x], acc, l, _, h => by
    rw [List.cons_append, revR, if_neg (by rw [h x (by simp)]; decide)]
    simp
  | x :: y :: a, acc, l, _, h => by
    rw [List.cons_append, revR, if_neg (by rw [h x (by simp)]; decide), revR_off (y :: a) [] l (by simp) fun z hz => h z (by simp [hz])]
    simp
/-- A run's places, turned round or not. -/
structure Rn where
  lo : Nat
  hi : Nat
  lev : Int
def plR (r : Rn) : List Nat := (List.range (r.hi - r.lo)).map fun k => r.lo + k
def blR (t : Int → Bool) (r : Rn) : List Nat := if t r.lev = true then (plR r).reverse else plR r
theorem blR_mem {t : Int → Bool} {r : Rn} {i : Nat} : i ∈ blR t r ↔ i ∈ plR r := by
  unfold blR
  split
  · exact List.mem_reverse
  · exact Iff.rfl
theorem blR_ne {t : Int → Bool} {r : Rn} (h : r.lo < r.hi) : blR t r ≠ [] := by
  intro e
  have : r.lo ∈ blR t r := by
    rw [blR_mem, plR, List.mem_map]
    exact ⟨0, by rw [List.mem_range]; omega, by omega⟩
  rw [e] at this
  cases this
def flR (t : Int → Bool) (R : List Rn) : List Nat := R.flatMap (blR t)
theorem flR_app (t : Int → Bool) (a b : List Rn) : flR t (a ++ b) = flR t a ++ flR t b := by simp [flR]
theorem flR_cons (t : Int → Bool) (r : Rn) (b : List Rn) : flR t (r :: b) = blR t r ++ flR t b := by simp [flR]
def turT (v : Int) (t : Int → Bool) (L : Int) : Bool := if v ≤ L then !(t L) else t L
theorem blR_tur {v : Int} {t : Int → Bool} {r : Rn} (h : v ≤ r.lev) : blR (turT v t) r = (blR t r).reverse := by
  unfold blR turT
  rw [if_pos h]
  cases t r.lev <;> simp
theorem blR_same {v : Int} {t : Int → Bool} {r : Rn} (h : ¬ v ≤ r.lev) : blR (turT v t) r = blR t r := by
  unfold blR turT
  rw [if_neg h]
/-- Turning runs, and each one's places, turns the places. -/
theorem rev_runs {v : Int} {t : Int → Bool} {p : Nat → Bool} : ∀ (R acc : List Rn), (∀ r ∈ R, r.lo < r.hi ∧ ∀ i ∈ plR r, p i = decide (v ≤ r.lev)) → (∀ r ∈ acc, v ≤ r.lev) → revR p (flR (turT v t) acc) (flR t R) = flR (turT v t) (revR (fun r => decide (v ≤ r.lev)) acc R)
  | [], acc, _, _ => by simp [revR, flR]
  | r :: R, acc, h, ha => by
    obtain ⟨h1, h2⟩ := h r (by simp)
    have hR : ∀ r ∈ R, r.lo < r.hi ∧ ∀ i ∈ plR r, p i = decide (v ≤ r.lev) := fun x hx => h x (by simp [hx])
    rw [flR_cons, revR]
    by_cases hv : v ≤ r.lev
    · rw [if_pos (decide_eq_true hv), revR_app _ _ _ (fun i hi => by rw [h2 i (blR_mem.1 hi)]; exact decide_eq_true hv), ← blR_tur hv, ← flR_cons]
      exact rev_runs R (r :: acc) hR (fun x hx => by
        rcases List.mem_cons.1 hx with rfl | hx
        · exact hv
        · exact ha x hx)
    · rw [if_neg (by rw [decide_eq_false hv]; decide), revR_off _ _ _ (blR_ne h1) (fun i hi => by rw [h2 i (blR_mem.1 hi)]; exact decide_eq_false hv), flR_app, flR_cons, blR_same hv, List.append_assoc]
      congr 2
      exact rev_runs R [] hR (by simp)
/-- Runs as they are seen. -/
def visB (ls : List Int) : Nat → List Rn → List Rn
  | 0, R => R
  | v + 1, R => visB ls v (if oddB ls ((v + 1 : Nat) : Int) = true then revR (fun r => decide (((v + 1 : Nat) : Int) ≤ r.lev)) [] R else R)
def turA (ls : List Int) : Nat → (Int → Bool) → Int → Bool
  | 0, t => t
  | v + 1, t => turA ls v (if oddB ls ((v + 1 : Nat) : Int) = true then turT ((v + 1 : Nat) : Int) t else t)
theorem vis_runs (ls : List Int) : ∀ (v : Nat) (t : Int → Bool) (R : List Rn), (∀ r ∈ R, r.lo < r.hi ∧ ∀ i ∈ plR r, ls.getD i 0 = r.lev) → visA ls v (flR t R) = flR (turA ls v t) (visB ls v R)
  | 0, _, _, _ => rfl
  | v + 1, t, R, h => by
    rw [visA, visB, turA]
    by_cases ho : oddB ls ((v + 1 : Nat) : Int) = true
    · rw [if_pos ho, if_pos ho, if_pos ho]
      have h1 := rev_runs (v := ((v + 1 : Nat) : Int)) (t := t) (p := fun i => decide (((v + 1 : Nat) : Int) ≤ ls.getD i 0)) R [] (fun r hr => ⟨(h r hr).1, fun i hi => by simp only [(h r hr).2 i hi]⟩) (by simp)
      have h2 : flR (turT ((v + 1 : Nat) : Int) t) [] = [] := rfl
      rw [h2] at h1
      rw [h1]
      exact vis_runs ls v _ _ fun r hr => h r (by
        have := (revR_perm (fun r : Rn => decide (((v + 1 : Nat) : Int) ≤ r.lev)) R []).mem_iff.1 hr
        simpa using this)
    · rw [if_neg ho, if_neg ho, if_neg ho]
      exact vis_runs ls v t R h
/-- Above all levels nothing is turned. -/
theorem visA_top {ls : List Int} {v : Nat} (h : ∀ x ∈ ls, x ≤ v) (o : List Nat) : ∀ k, visA ls (v + k) o = visA ls v o
  | 0 => rfl
  | k + 1 => by
    rw [← Nat.add_assoc, visA]
    have : revR (fun i => decide (((v + k + 1 : Nat) : Int) ≤ ls.getD i 0)) [] o = o := by
      refine revR_none o fun i _ => decide_eq_false ?_
      rw [List.getD_eq_getElem?_getD]
      rcases hi : ls[i]? with _ | x
      · simp; omega
      · have := h x (List.mem_of_getElem? hi)
        simp
        omega
    rw [this]
    split <;> exact visA_top h o k
theorem most_le : ∀ {ls : List Int} {x : Int}, x ∈ ls → x ≤ mostF ls
  | y :: l, x, h => by
    rw [mostF]
    rcases List.mem_cons.1 h with rfl | h
    · omega
    · have := most_le h
      omega
theorem most_nonneg : ∀ ls : List Int, 0 ≤ mostF ls
  | [] => Int.le_refl 0
  | x :: l => by
    have := most_nonneg l
    rw [mostF]
    omega
theorem most_top {n : Int} (hn : 0 ≤ n) : ∀ {ls : List Int}, (∀ x ∈ ls, x ≤ n) → mostF ls ≤ n
  | [], _ => hn
  | x :: l, h => by
    rw [mostF]
    have := most_top hn fun y hy => h y (List.mem_cons_of_mem _ hy)
    have := h x (by simp)
    omega
/-- The order of places, from the greatest level of all. -/
theorem vis_126 {ls : List Int} (h : ∀ x ∈ ls, 0 ≤ x ∧ x ≤ 126) : visF ls = visA ls 126 (List.range ls.length) := by
  have hm : ls.map heldF = ls := by
    rw [List.map_congr_left (g := id) fun x hx => by
      have := h x hx
      unfold heldF
      simp only [id]
      omega]
    exact List.map_id ls
  unfold visF
  rw [hm]
  have h1 := most_nonneg ls
  have h2 := most_top (by decide : (0 : Int) ≤ 126) fun x hx => (h x hx).2
  have h3 := visA_top (ls := ls) (v := (mostF ls).toNat) (fun x hx => by have := most_le hx; omega) (List.range ls.length) (126 - (mostF ls).toNat)
  rw [show (mostF ls).toNat + (126 - (mostF ls).toNat) = 126 by omega] at h3
  exact h3.symm
theorem oddB_mono {ls : List Int} {a b : Int} (hab : a ≤ b) (h : oddB ls a = true) : oddB ls b = true := by
  unfold oddB at h ⊢
  rw [List.any_eq_true] at h ⊢
  obtain ⟨x, hx, hd⟩ := h
  have hd := of_decide_eq_true hd
  exact ⟨x, hx, decide_eq_true ⟨hd.1, by omega⟩⟩
/-- How often a level's runs are turned: as often as there are levels from the least odd one up to it. -/
theorem tur_at {ls : List Int} {low : Nat} (hlow : ∀ v : Nat, oddB ls v = true ↔ low ≤ v) (L : Nat) : ∀ (v : Nat) (t : Int → Bool), turA ls v t L = (if low ≤ min v L ∧ 1 ≤ min v L ∧ (min v L - low) % 2 = 0 then !(t L) else t L) ∨ low = 0
  | 0, t => by
    left
    rw [turA, if_neg (by omega)]
  | v + 1, t => by
    rcases tur_at hlow L v (if oddB ls ((v + 1 : Nat) : Int) = true then turT ((v + 1 : Nat) : Int) t else t) with h | h
    · by_cases h0 : low = 0
      · exact .inr h0
      left
      rw [turA, h]
      by_cases ho : low ≤ v + 1
      · rw [if_pos ((hlow (v + 1)).2 ho)]
        unfold turT
        by_cases hv : v + 1 ≤ L
        · rw [if_pos (show ((v + 1 : Nat) : Int) ≤ (L : Int) by omega)]
          have e1 : min v L = v := by omega
          have e2 : min (v + 1) L = v + 1 := by omega
          rw [e1, e2]
          by_cases hc : (v + 1 - low) % 2 = 0
          · rw [if_neg (by omega), if_pos (by omega)]
          · rw [if_pos (by omega), if_neg (by omega)]
            simp
        · rw [if_neg (show ¬ ((v + 1 : Nat) : Int) ≤ (L : Int) by omega)]
          have e1 : min v L = L := by omega
          have e2 : min (v + 1) L = L := by omega
          rw [e1, e2]
      · rw [if_neg (fun h => ho ((hlow (v + 1)).1 h)), if_neg (by omega), if_neg (by omega)]
    · exact .inr h
end Go.Proofs.Ytaiefneimjdmhaa
/- Rows that lie in one another: parts turned level by level, put together from within. No function of the program. -/
namespace Go.Proofs.Ytaiefneimjdmhaa
open Go.RowKit

section
variable {α : Type}
theorem revR_sep {p : α → Bool} {x : α} (hx : p x = false) (b : List α) : ∀ (a acc : List α), revR p acc (a ++ x :: b) = revR p acc a ++ x :: revR p [] b
  | [], acc => by
    rw [List.nil_append, revR, revR, if_neg (by rw [hx]; decide)]
  | y :: a, acc => by
    rw [List.cons_append, revR, revR]
    split
    · exact revR_sep hx b a (y :: acc)
    · rw [revR_sep hx b a []]
      simp
/-- Turned twice a list is as it was. -/
theorem revR_twice {p : α → Bool} : ∀ (l acc : List α), (∀ x ∈ acc, p x = true) → revR p [] (revR p acc l) = acc.reverse ++ l
  | [], acc, h => by rw [revR, revR_all _ _ h]
  | x :: l, acc, h => by
    rw [revR]
    by_cases hx : p x = true
    · rw [if_pos hx, revR_twice l (x :: acc) (by
        intro y hy
        rcases List.mem_cons.1 hy with rfl | hy
        · exact hx
        · exact h y hy)]
      simp
    · have hx : p x = false := by simpa using hx
      rw [if_neg (by rw [hx]; decide), revR_app _ _ _ h, List.append_nil, revR, if_neg (by rw [hx]; decide), revR_twice l [] (by simp)]
      rfl
/-- Turned at each level from v + d down to v + 1. -/
def wnF (lv : α → Nat) : Nat → Nat → List α → List α
  | 0, _, o => o
  | d + 1, v, o => revR (fun x => decide (v + 1 ≤ lv x)) [] (wnF lv d (v + 1) o)
theorem wn_perm (lv : α → Nat) : ∀ (d v : Nat) (o : List α), (wnF lv d v o).Perm o
  | 0, _, o => .refl o
  | d + 1, v, o => by
    rw [wnF]
    exact (by simpa using revR_perm (fun x => decide (v + 1 ≤ lv x)) (wnF lv d (v + 1) o) [] : (revR _ [] _).Perm _).trans (wn_perm lv d (v + 1) o)
theorem wn_nil (lv : α → Nat) (d v : Nat) : wnF lv d v [] = [] := (wn_perm lv d v []).eq_nil
theorem wn_one (lv : α → Nat) (d v : Nat) (x : α) : wnF lv d v [x] = [x] := List.perm_singleton.1 (wn_perm lv d v [x])
theorem wn_sep {lv : α → Nat} {x : α} (b : List α) : ∀ (d v : Nat) (a : List α), lv x ≤ v → wnF lv d v (a ++ x :: b) = wnF lv d v a ++ x :: wnF lv d v b
  | 0, _, _, _ => rfl
  | d + 1, v, a, h => by
    rw [wnF, wnF, wnF, wn_sep b d (v + 1) a (by omega), revR_sep (p := fun x => decide (v + 1 ≤ lv x)) (x := x) (decide_eq_false (by omega))]
/-- A row as it is seen: from the left where its level is even. -/
def rowF (lv : α → Nat) (v : Nat) (l : List α) : List α := if v % 2 = 1 then (wnF lv (126 - v) v l).reverse else wnF lv (126 - v) v l
theorem row_one (lv : α → Nat) (v : Nat) (x : α) : rowF lv v [x] = [x] := by
  unfold rowF
  rw [wn_one]
  split <;> rfl
theorem wn_up {lv : α → Nat} {v : Nat} (hv : v < 126) {l : List α} (h : ∀ x ∈ l, v + 1 ≤ lv x) : wnF lv (126 - v) v l = (wnF lv (126 - (v + 1)) (v + 1) l).reverse := by
  obtain ⟨d, hd⟩ : ∃ d, 126 - v = d + 1 := ⟨125 - v, by omega⟩
  rw [hd, show 126 - (v + 1) = d by omega, wnF, revR_all, List.append_nil]
  intro x hx
  exact decide_eq_true (h x ((wn_perm lv d (v + 1) l).mem_iff.1 hx))
/-- A row of a greater level is one of less level as well. -/
theorem row_up {lv : α → Nat} {v : Nat} (hv : v < 126) {l : List α} (h : ∀ x ∈ l, v + 1 ≤ lv x) : rowF lv v l = rowF lv (v + 1) l := by
  unfold rowF
  rw [wn_up hv h]
  by_cases ho : v % 2 = 1
  · rw [if_pos ho, if_neg (by omega), List.reverse_reverse]
  · rw [if_neg ho, if_pos (by omega)]
theorem row_down {lv : α → Nat} {l : List α} {v : Nat} : ∀ (k : Nat), v + k ≤ 126 → (∀ x ∈ l, v + k ≤ lv x) → rowF lv v l = rowF lv (v + k) l
  | 0, _, _ => rfl
  | k + 1, hk, h => by
    rw [row_down k (by omega) fun x hx => by have := h x hx; omega]
    rw [row_up (show v + k < 126 by omega) (fun x hx => by have := h x hx; omega)]
    rfl
theorem row_less {lv : α → Nat} {l : List α} {u v : Nat} (hu : u ≤ v) (hv : v ≤ 126) (h : ∀ x ∈ l, v ≤ lv x) : rowF lv u l = rowF lv v l := by
  have := row_down (lv := lv) (l := l) (v := u) (v - u) (by omega) (fun x hx => by have := h x hx; omega)
  rwa [show u + (v - u) = v by omega] at this
theorem row_split {lv : α → Nat} {v : Nat} {a b : List α} (h : wnF lv (126 - v) v (a ++ b) = wnF lv (126 - v) v a ++ wnF lv (126 - v) v b) : rowF lv v (a ++ b) = if v % 2 = 1 then rowF lv v b ++ rowF lv v a else rowF lv v a ++ rowF lv v b := by
  unfold rowF
  rw [h]
  by_cases ho : v % 2 = 1
  · simp [ho]
  · simp [ho]
/-- A row of a greater level behind one whose last place is of its own level. -/
theorem row_join {lv : α → Nat} {u t : Nat} {a b : List α} {x : α} (hx : lv x = u) (hu : u ≤ t) (ht : t ≤ 126) (hb : ∀ y ∈ b, t ≤ lv y) : rowF lv u ((a ++ [x]) ++ b) = if u % 2 = 1 then rowF lv t b ++ rowF lv u (a ++ [x]) else rowF lv u (a ++ [x]) ++ rowF lv t b := by
  rw [row_split, row_less hu ht hb]
  rw [List.append_assoc, List.singleton_append, wn_sep b _ _ a (by omega), wn_sep [] _ _ a (by omega), wn_nil]
  simp
/-- A place of its own level behind a row. -/
theorem row_put {lv : α → Nat} {u : Nat} {a : List α} {x : α} (hx : lv x = u) : rowF lv u (a ++ [x]) = if u % 2 = 1 then x :: rowF lv u a else rowF lv u a ++ [x] := by
  rw [row_split, row_one]
  · split <;> rfl
  · rw [wn_sep [] _ _ a (by omega), wn_one, wn_nil]
end

/-! The rows: the last one first. -/
structure TnR (α : Type) where
  lev : Nat
  seq : List α
def TnR.join {α : Type} (u t : TnR α) : TnR α := ⟨u.lev, if u.lev % 2 = 1 then t.seq ++ u.seq else u.seq ++ t.seq⟩
/-- Rows of a greater level end. -/
def tnPop {α : Type} (v : Nat) : TnR α → List (TnR α) → List (TnR α)
  | t, [] => if v < t.lev then [⟨v, t.seq⟩] else [t]
  | t, u :: R => if v < t.lev then (if v ≤ u.lev then tnPop v (u.join t) R else ⟨v, t.seq⟩ :: u :: R) else t :: u :: R
def tnTop {α : Type} (r : TnR α) : List (TnR α) → List (TnR α)
  | [] => [r]
  | u :: R => if u.lev = r.lev then u.join r :: R else r :: u :: R
def tnPut {α : Type} (r : TnR α) : List (TnR α) → List (TnR α)
  | [] => [r]
  | t :: R => tnTop r (tnPop r.lev t R)
def tnEnd {α : Type} : TnR α → List (TnR α) → TnR α
  | t, [] => t
  | t, u :: R => tnEnd (u.join t) R
def tnAll {α : Type} (lv : α → Nat) : List α → List (TnR α) → List (TnR α)
  | [], R => R
  | x :: l, R => tnAll lv l (tnPut ⟨lv x, [x]⟩ R)
/-- What a row is of. -/
structure TnT {α : Type} (lv : α → Nat) (b : List α) (t : TnR α) : Prop where
  ne : b ≠ []
  top : t.lev ≤ 126
  all : ∀ x ∈ b, t.lev ≤ lv x
  seq : t.seq = rowF lv t.lev b
/-- What rows are of, the last one first: each ends with a place of its own level. -/
inductive TnO {α : Type} (lv : α → Nat) : List α → List (TnR α) → Prop
  | nil : TnO lv [] []
  | cons {l b a : List α} {x : α} {R : List (TnR α)} {t : TnR α} (h : TnO lv l R) (ht : TnT lv b t) (hb : b = a ++ [x]) (hx : lv x = t.lev) (hu : ∀ u ∈ R.head?, u.lev < t.lev) : TnO lv (l ++ b) (t :: R)
section
variable {α : Type} {lv : α → Nat}
theorem TnT.join {a b : List α} {x : α} {u t : TnR α} (hu : TnT lv (a ++ [x]) u) (hx : lv x = u.lev) (ht : TnT lv b t) (h : u.lev ≤ t.lev) : TnT lv ((a ++ [x]) ++ b) (u.join t) where
  ne := by simp
  top := hu.top
  all := by
    intro y hy
    have hj : (u.join t).lev = u.lev := rfl
    rw [hj]
    rcases List.mem_append.1 hy with hy | hy
    · exact hu.all y hy
    · have := ht.all y hy; omega
  seq := by
    have hj : (u.join t).lev = u.lev := rfl
    rw [hj, row_join hx h ht.top ht.all, ← hu.seq, ← ht.seq]
    rfl
theorem TnT.less {b : List α} {t : TnR α} {v : Nat} (ht : TnT lv b t) (h : v ≤ t.lev) : TnT lv b ⟨v, t.seq⟩ where
  ne := ht.ne
  top := Nat.le_trans h ht.top
  all := fun x hx => Nat.le_trans h (ht.all x hx)
  seq := by
    rw [ht.seq]
    exact (row_less h ht.top ht.all).symm
theorem TnT.one {x : α} (h : lv x ≤ 126) : TnT lv [x] ⟨lv x, [x]⟩ where
  ne := by simp
  top := h
  all := by simp
  seq := (row_one lv (lv x) x).symm
theorem TnT.put {b : List α} {x : α} {t : TnR α} (ht : TnT lv b t) (h : t.lev = lv x) : TnT lv (b ++ [x]) (t.join ⟨lv x, [x]⟩) where
  ne := by simp
  top := ht.top
  all := by
    intro y hy
    have hj : (t.join ⟨lv x, [x]⟩).lev = t.lev := rfl
    rw [hj]
    rcases List.mem_append.1 hy with hy | hy
    · exact ht.all y hy
    · simp at hy; rw [hy, h]; exact Nat.le_refl _
  seq := by
    have hj : (t.join ⟨lv x, [x]⟩).lev = t.lev := rfl
    rw [hj, row_put h.symm, ← ht.seq]
    unfold TnR.join
    simp only
    split <;> rfl
theorem tnPop_ok {v : Nat} : ∀ {R : List (TnR α)} {l b : List α} {t : TnR α}, TnO lv l R → TnT lv b t → (∀ u ∈ R.head?, u.lev < t.lev) → v < t.lev → ∃ t2 R2 l2 b2, tnPop v t R = t2 :: R2 ∧ l ++ b = l2 ++ b2 ∧ TnO lv l2 R2 ∧ TnT lv b2 t2 ∧ (∀ u ∈ R2.head?, u.lev < t2.lev) ∧ t2.lev = v
  | [], l, b, t, h, ht, hu, hv => ⟨_, _, l, b, by rw [tnPop, if_pos hv], rfl, h, ht.less (Nat.le_of_lt hv), by simp, rfl⟩
  | u :: R, _, b, t, h, ht, hu, hv => by
    have hut := hu u rfl
    cases h with
    | @cons l bu a x _ _ h2 hb2 hba hx hu2 =>
      subst hba
      by_cases hvu : v ≤ u.lev
      · have hj := hb2.join hx ht (Nat.le_of_lt hut)
        have hju : (u.join t).lev = u.lev := rfl
        by_cases hvl : v < u.lev
        · obtain ⟨t2, R2, l2, b2, e1, e2, e3⟩ := tnPop_ok (v := v) h2 hj (by rw [hju]; exact hu2) (by rw [hju]; exact hvl)
          exact ⟨t2, R2, l2, b2, by rw [tnPop, if_pos hv, if_pos hvu, e1], by rw [← e2]; simp, e3⟩
        · refine ⟨u.join t, R, l, a ++ [x] ++ b, ?_, by simp, h2, hj, by rw [hju]; exact hu2, by rw [hju]; omega⟩
          rw [tnPop, if_pos hv, if_pos hvu]
          cases R with
          | nil => rw [tnPop, if_neg (by rw [hju]; exact hvl)]
          | cons r R => rw [tnPop, if_neg (by rw [hju]; exact hvl)]
      · exact ⟨_, _, _, _, by rw [tnPop, if_pos hv, if_neg hvu], rfl, .cons h2 hb2 rfl hx hu2, ht.less (Nat.le_of_lt hv), by intro w hw; simp at hw; subst hw; simp only; omega, rfl⟩
theorem tnPut_ok {x : α} {l : List α} {R : List (TnR α)} (h : TnO lv l R) (hx : lv x ≤ 126) : TnO lv (l ++ [x]) (tnPut ⟨lv x, [x]⟩ R) := by
  have hr : ∀ {l : List α} {R : List (TnR α)}, TnO lv l R → (∀ u ∈ R.head?, u.lev < lv x) → TnO lv (l ++ [x]) (⟨lv x, [x]⟩ :: R) := fun h hu => .cons (a := []) h (.one hx) rfl rfl hu
  cases h with
  | nil => exact hr .nil (by simp)
  | @cons l b a y R t h2 ht hb hy hu =>
    rw [tnPut]
    by_cases hv : lv x < t.lev
    · obtain ⟨t2, R2, l2, b2, e1, e2, e3, e4, e5, e6⟩ := tnPop_ok (v := lv x) h2 ht hu hv
      rw [e1, tnTop, if_pos e6, e2, List.append_assoc]
      have hj : (t2.join ⟨lv x, [x]⟩).lev = t2.lev := rfl
      exact .cons e3 (e4.put e6) rfl (by rw [hj, e6]) (by rw [hj]; exact e5)
    · have e1 : tnPop (lv x) t R = t :: R := by
        cases R with
        | nil => rw [tnPop, if_neg hv]
        | cons u R => rw [tnPop, if_neg hv]
      rw [e1, tnTop]
      by_cases he : t.lev = lv x
      · rw [if_pos he, List.append_assoc]
        have hj : (t.join ⟨lv x, [x]⟩).lev = t.lev := rfl
        exact .cons h2 (ht.put he) rfl (by rw [hj, he]) (by rw [hj]; exact hu)
      · rw [if_neg he]
        exact hr (.cons h2 ht hb hy hu) (by intro w hw; simp at hw; subst hw; omega)
theorem tnAll_ok : ∀ {k l : List α} {R : List (TnR α)}, TnO lv l R → (∀ x ∈ k, lv x ≤ 126) → TnO lv (l ++ k) (tnAll lv k R)
  | [], l, R, h, _ => by simpa [tnAll] using h
  | x :: k, l, R, h, hk => by
    have := tnAll_ok (k := k) (tnPut_ok h (hk x (by simp))) fun y hy => hk y (by simp [hy])
    rw [tnAll]
    simpa using this
theorem tnEnd_ok : ∀ {R : List (TnR α)} {l b : List α} {t : TnR α}, TnO lv l R → TnT lv b t → (∀ u ∈ R.head?, u.lev < t.lev) → TnT lv (l ++ b) (tnEnd t R)
  | [], _, b, t, h, ht, _ => by cases h; exact ht
  | u :: R, _, b, t, h, ht, hu => by
    have hut := hu u rfl
    cases h with
    | @cons l bu a x _ _ h2 hb2 hba hx hu2 =>
      subst hba
      rw [tnEnd, List.append_assoc]
      exact tnEnd_ok h2 (hb2.join hx ht (Nat.le_of_lt hut)) hu2
/-- All rows together are the places turned at each level. -/
theorem tn_all {k : List α} (hk : ∀ x ∈ k, lv x ≤ 126) : (k = [] ∧ tnAll lv k [] = []) ∨ ∃ t R, tnAll lv k [] = t :: R ∧ (tnEnd t R).seq = wnF lv 126 0 k := by
  have h := tnAll_ok (k := k) (l := []) (.nil (lv := lv)) hk
  rw [List.nil_append] at h
  cases hR : tnAll lv k [] with
  | nil =>
    rw [hR] at h
    cases h
    exact .inl ⟨rfl, rfl⟩
  | cons t R =>
    rw [hR] at h
    cases h with
    | @cons l b a x _ _ h2 ht hb hx hu =>
      have he := tnEnd_ok h2 ht hu
      refine .inr ⟨t, R, rfl, ?_⟩
      rw [he.seq, ← row_less (Nat.zero_le _) he.top he.all, rowF, if_neg (by decide), Nat.sub_zero]
end
/-! From 126 on down to the least odd level. -/
section
variable {α : Type} (lv : α → Nat)
def pasF (low : Nat) : Nat → List α → List α
  | 0, o => o
  | v + 1, o => if low ≤ v + 1 then pasF low v (revR (fun x => decide (v + 1 ≤ lv x)) [] o) else o
theorem pas_wn (v : Nat) : ∀ (d : Nat) (o : List α), pasF lv 1 v (wnF lv d v o) = pasF lv 1 (v + d) o
  | 0, o => rfl
  | d + 1, o => by
    have := pas_wn (v + 1) d o
    rw [pasF, if_pos (by omega)] at this
    rw [wnF, this]
    congr 1
    omega
theorem wn_pas (o : List α) : wnF lv 126 0 o = pasF lv 1 126 o := by
  obtain ⟨n, hn⟩ : ∃ n : Nat, n = 126 := ⟨126, rfl⟩
  rw [← hn]
  have := pas_wn lv 0 n o
  rwa [pasF, Nat.zero_add] at this
theorem pas_perm (low : Nat) : ∀ (v : Nat) (o : List α), (pasF lv low v o).Perm o
  | 0, o => .refl o
  | v + 1, o => by
    rw [pasF]
    split
    · exact (pas_perm low v _).trans (by simpa using revR_perm (fun x => decide (v + 1 ≤ lv x)) o [])
    · exact .refl o
theorem revR_congr2 {p q : α → Bool} : ∀ {l acc : List α}, (∀ x ∈ l, p x = q x) → revR p acc l = revR q acc l
  | [], _, _ => rfl
  | x :: l, acc, h => by
    rw [revR, revR, h x (by simp), revR_congr2 (acc := x :: acc) fun y hy => h y (by simp [hy]), revR_congr2 (acc := []) fun y hy => h y (by simp [hy])]
theorem pas_even : ∀ (j : Nat) (o : List α), (∀ x ∈ o, lv x < 2 * j → lv x % 2 = 0) → pasF lv 1 (2 * j) o = o
  | 0, o, _ => rfl
  | j + 1, o, h => by
    rw [show 2 * (j + 1) = (2 * j + 1) + 1 by omega, pasF, if_pos (by omega), pasF, if_pos (by omega)]
    have e : revR (fun x => decide (2 * j + 1 + 1 ≤ lv x)) [] o = revR (fun x => decide (2 * j + 1 ≤ lv x)) [] o := revR_congr2 fun x hx => by
      have := h x hx
      by_cases h1 : 2 * j + 1 + 1 ≤ lv x
      · rw [decide_eq_true h1, decide_eq_true (by omega)]
      · rw [decide_eq_false h1, decide_eq_false (by omega)]
    rw [e, revR_twice _ _ (by simp), List.reverse_nil, List.nil_append]
    exact pas_even j o fun x hx hl => h x hx (by omega)
/-- Below the least odd level turning all comes to nothing. -/
theorem pas_low {low : Nat} (hl : low % 2 = 1) : ∀ (v : Nat) (o : List α), low ≤ v → (∀ x ∈ o, lv x % 2 = 1 → low ≤ lv x) → pasF lv 1 v o = pasF lv low v o
  | 0, _, h, _ => by omega
  | v + 1, o, h, ho => by
    rw [pasF, if_pos (by omega), pasF, if_pos h]
    have ho2 : ∀ x ∈ revR (fun x => decide (v + 1 ≤ lv x)) [] o, lv x % 2 = 1 → low ≤ lv x := fun x hx => ho x (by simpa using (revR_perm (fun x => decide (v + 1 ≤ lv x)) o []).mem_iff.1 hx)
    by_cases hv : low ≤ v
    · exact pas_low hl v _ hv ho2
    · obtain ⟨j, hj⟩ : ∃ j, v = 2 * j := ⟨v / 2, by omega⟩
      rw [hj, pas_even]
      · cases j with
        | zero => rfl
        | succ j =>
          rw [show 2 * (j + 1) = (2 * j + 1) + 1 by omega, pasF, if_neg (by omega)]
      · intro x hx hlx
        rw [hj] at ho2
        have := ho2 x hx
        omega
end
end Go.Proofs.Ytaiefneimjdmhaa
/- Three rows of integers of the call's own, apart. No function of the program. -/
namespace Go.Proofs.Ytaiefneimjdmhaa
open Go.RowKit

/-- Places as integers, as they lie. -/
def natV (l : List Nat) : List Value := l.map fun i => .int .i64 ((i : Nat) : Int)
theorem natV_len (l : List Nat) : (natV l).length = l.length := by simp [natV]
theorem natV_app (a b : List Nat) : natV (a ++ b) = natV a ++ natV b := by simp [natV]
theorem natV_at {l : List Nat} {i p : Nat} (h : l[i]? = some p) : (natV l)[i]? = some (.int .i64 (p : Int)) := by simp [natV, h]
theorem natV_one (l : List Nat) : ∀ u ∈ natV l, u.oneCell' = true := by
  intro u hu
  simp [natV] at hu
  obtain ⟨i, _, rfl⟩ := hu
  rfl
theorem natV_ints (l : List Nat) : natV l = (l.map fun i => ((i : Nat) : Int)).map (Value.int .i64) := by simp [natV]
def Apt (a b : Value) : Prop := ∀ g, a.ownBlock = some g → b.ownBlock ≠ some g
theorem Apt.turn {a b : Value} (h : Apt a b) : Apt b a := fun g h1 h2 => h g h2 h1
theorem Apt.none_ {a b : Value} (h : a.ownBlock = none) : Apt a b := fun g h1 => by rw [h] at h1; cases h1
theorem Apt.kept {a b : Value} (h : Apt a b) : b.ownBlock = none ∨ b.ownBlock ≠ a.ownBlock := by
  cases hb : b.ownBlock with
  | none => exact .inl rfl
  | some g => exact .inr (fun e => h g e.symm hb)
structure R3 (w0 w : World) (a : Value) (l : List Nat) (b : Value) (m : List Nat) (c : Value) (n : List Nat) : Prop where
  ra : w.ownsRow w0.heap.size 3 1 a l.length (natV l)
  rb : w.ownsRow w0.heap.size 3 1 b m.length (natV m)
  rc : w.ownsRow w0.heap.size 3 1 c n.length (natV n)
  ab : Apt a b
  ac : Apt a c
  bc : Apt b c
  low : Below w0.heap.size w0 w
section
variable {w0 w w' : World} {a b c a' : Value} {l m n l' : List Nat}
theorem R3.rot (h : R3 w0 w a l b m c n) : R3 w0 w b m c n a l := ⟨h.rb, h.rc, h.ra, h.bc, h.ab.turn, h.ac.turn, h.low⟩
theorem R3.nil_ : R3 w w (.slice none 0 0) [] (.slice none 0 0) [] (.slice none 0 0) [] := ⟨⟨rfl, .inl ⟨rfl, rfl⟩⟩, ⟨rfl, .inl ⟨rfl, rfl⟩⟩, ⟨rfl, .inl ⟨rfl, rfl⟩⟩, .none_ rfl, .none_ rfl, .none_ rfl, Below.refl _ _⟩
theorem R3.lowr (h : R3 w0 w a l b m c n) (hb : Below w.heap.size w w') : R3 w0 w' a l b m c n := ⟨own_below h.ra hb, own_below h.rb hb, own_below h.rc hb, h.ab, h.ac, h.bc, h.low.trans (hb.mono h.low.size)⟩
theorem R3.alloc (h : R3 w0 w a l b m c n) (o : Obj) : R3 w0 (w.alloc o) a l b m c n := h.lowr (below_new w o)
theorem R3.drewN (h : R3 w0 w a l b m c n) (q : Nat) : R3 w0 (w.drewN q) a l b m c n := h.lowr (drewBelow q)
theorem apt_new {v : Value} {z : List Value} {k : Nat} (hv : w.ownsRow w0.heap.size 3 1 v k z) (hat : a'.ownBlock = a.ownBlock ∨ a'.ownBlock = some w.heap.size) (h : Apt a v) : Apt a' v := by
  intro g h1 h2
  rcases hat with e | e
  · exact h g (by rw [← e]; exact h1) h2
  · rw [e] at h1
    have := (hv.lt g h2).2
    have : w.heap.size = g := by simpa using h1
    omega
/-- The first row grows. -/
theorem R3.grow (h : R3 w0 w a l b m c n) (hg : w.grownBy w' a.ownBlock) (ho : w'.ownsRow w0.heap.size 3 1 a' l'.length (natV l')) (hat : a'.ownBlock = a.ownBlock ∨ a'.ownBlock = some w.heap.size) : R3 w0 w' a' l' b m c n :=
  ⟨ho, h.rb.kept hg h.ab.kept, h.rc.kept hg h.ac.kept, apt_new h.rb hat h.ab, apt_new h.rc hat h.ac, h.bc, below_app h.low hg h.ra h.low.size⟩
/-- The first row's head. -/
theorem R3.head {g k cap : Nat} (h : R3 w0 w (.slice (some ⟨g, 0, none⟩) k cap) l b m c n) {j : Nat} (hk : l.length = k) (hj : j ≤ k) (hl : l' = l.take j) : R3 w0 w (.slice (some ⟨g, 0, none⟩) j cap) l' b m c n := by
  subst hl
  subst hk
  refine ⟨?_, h.rb, h.rc, h.ab, h.ac, h.bc, h.low⟩
  have h1 := headM (m := j) h.ra hj
  rw [Nat.mul_one] at h1
  have e : (l.take j).length = j := by rw [List.length_take]; omega
  rw [e]
  rw [show natV (l.take j) = (natV l).take j by simp [natV, List.map_take]]
  exact h1
/-- The first row grows by some. -/
theorem R3.more {e : List Nat} (h : R3 w0 w a l b m c n) (hg : w.grownBy w' a.ownBlock) {k : Nat} (hk : l.length + e.length = k) (ho : w'.ownsRow w0.heap.size 3 1 a' k (natV l ++ natV e)) (hat : a'.ownBlock = a.ownBlock ∨ a'.ownBlock = some w.heap.size) : R3 w0 w' a' (l ++ e) b m c n :=
  h.grow hg (by rw [natV_app, List.length_append, hk]; exact ho) hat
end
end Go.Proofs.Ytaiefneimjdmhaa
