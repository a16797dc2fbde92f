/- runs.Order, walked. -/
import Derived.Test.YtaiefneimjdmhaaRuOr
import Derived.Test.YtaiefneimjdmhaaSpBlk
namespace Go.Proofs.Ytaiefneimjdmhaa
open Go.RowKit
theorem sizeS_in {lo hi : Int} (h : rightB (lo, hi) = true → hi ≤ 1000) : 0 ≤ sizeS (lo, hi) ∧ sizeS (lo, hi) ≤ 1000 := by
  unfold sizeS
  split
  · rename_i hr
    have := h hr
    have hr' : 0 ≤ lo ∧ lo < hi := by simpa [rightB] using hr
    simp only
    omega
  · omega
set_option maxRecDepth 100000 in
set_option maxHeartbeats 2000000 in
theorem ruOrder_any (A : Option Addr) (n c : Nat) (l : List Rg) (w : World) (hr : Rd w 3 A n (cellsG l)) (hn : n ≤ 1000) (hb : ∀ r ∈ l, rightB (r.1, r.2.1) = true → r.2.1 ≤ 1000) :
    Calls Try.prog 27 #[.slice A n c] w fun e w' => ∃ v, e = .returned v ∧ w'.ownsRow w.heap.size 3 1 v (ordI l).length ((ordI l).map (Value.int .i64)) ∧ Below w.heap.size w w' := by
  have hl := hr.lenG
  have HL := Lib.hid hl
  have HR := Lib.hid hr
  have HBD := Lib.hid hb
  clear hl hr hb
  go_enter Try.func27, Try.ntmps27
  go_wp2
  go_loopw [3, 12] (fun v t wr => ∃ i p : Nat, i ≤ n ∧ t = .int .i64 (i : Int) ∧ v = .int .i64 (p : Int) ∧ p ≤ 1000 * i ∧ Below w.heap.size w wr) (fun _ t _ => n - (intOf t).toNat)
  case atStart => exact ⟨0, 0, Nat.zero_le _, rfl, rfl, Nat.le_refl _, Below.refl _ _⟩
  case round =>
    obtain ⟨i, p, hi, rfl, rfl, hp, hB⟩ := hrel
    have HB := Lib.hid hB
    clear hB
    by_cases hlt : i < n
    · obtain ⟨r, hrr⟩ : ∃ r, l[i]? = some r := ⟨_, List.getElem?_eq_getElem (by rw [HL.out]; exact hlt)⟩
      have hbr := HBD.out r (List.mem_of_getElem? hrr)
      obtain ⟨lo, hh, lev⟩ := r
      obtain ⟨ad, rfl, hab, d0, d1, d2⟩ := HR.out.rg hrr
      simp only at d0 d1 d2 hbr
      have c0 := cell_below HB.out d0
      have c1 := cell_below HB.out d1
      have c2 := cell_below HB.out d2
      obtain ⟨s, hs⟩ : ∃ s, sizeS (lo, hh) = s := ⟨_, rfl⟩
      have hsi := sizeS_in hbr
      rw [hs] at hsi
      have HSZ := Lib.hid (fun W => prSizeB_any lo hh W hbr)
      rw [hs] at HSZ
      have hin : (i : Int) < (n : Int) := by omega
      have hi0 : (0 : Int) ≤ (i : Int) := by omega
      have hi5 : (i : Int) ≤ 1000 := by omega
      obtain ⟨s, rfl⟩ : ∃ s' : Nat, s = (s' : Int) := ⟨s.toNat, by omega⟩
      have hp6 : (p : Int) ≤ 1000000 := by omega
      have hs6 : ¬ (268435455 - (p : Int) < (s : Int)) := by omega
      have hs7 : (s : Int) ≤ 1000 := by omega
      have hsz := HB.out.size
      clear hrr d0 d1 d2 hs hbr
      go_wp2_with (first
        | (go_at_call 44; refine (HSZ.out _).mono ?_; rintro e w2 ⟨rfl, hb2⟩)
        | fail)
      have HBA := Lib.hid (HB.out.alloc hsz (.cells #[.int .i64 lo, .int .i64 hh, .int .i64 lev] 38))
      have HB2 := Lib.hid (HBA.out.trans (hb2.mono HBA.out.size))
      go_roundw
      case rel => exact ⟨i + 1, p + s, by omega, by go_num, by go_num, by omega, HB2.out⟩
      case measure => simp [intOf]; omega
    · obtain rfl : i = n := by omega
      have hp6 : (p : Int) ≤ 1000000 := by omega
      have hp0 : (0 : Int) ≤ (p : Int) := by omega
      have hsz := HB.out.size
      go_wp2_with (first
        | (refine wpList_mk rfl _ _ _ rfl (base := wr.heap.size) intSliceM (p : Int) p rfl rfl rfl (by omega) (by unfold maxLen; omega) (Nat.le_refl _) ?_; intro v1 w1 hown1 hg1; obtain ⟨A1, c1, rfl, hc1⟩ := own_form hown1)
        | fail)
      have HO1 := Lib.hid (own_base hown1 hsz)
      have HB1 := Lib.hid (HB.out.trans ((below_make hg1).mono hsz))
      clear hown1 hg1 hc1 hp hi hsz
      go_loopw [7, 31] (fun v t wj => ∃ j : Nat, j ≤ i ∧ t = .int .i64 (j : Int) ∧ (ordI (l.take j)).length ≤ 1000 * j ∧ wj.ownsRow w.heap.size 3 1 v (ordI (l.take j)).length ((ordI (l.take j)).map (Value.int .i64)) ∧ Below w.heap.size w wj) (fun _ t _ => i - (intOf t).toNat)
      case atStart => exact ⟨0, Nat.zero_le _, rfl, Nat.zero_le _, HO1.out, HB1.out⟩
      case round =>
        obtain ⟨j, hj, rfl, hle, hO, hB⟩ := hrel
        have HO := Lib.hid hO
        have HBj := Lib.hid hB
        clear hO hB HO1 HB1
        by_cases hlt2 : j < i
        · obtain ⟨r, hrr⟩ : ∃ r, l[j]? = some r := ⟨_, List.getElem?_eq_getElem (by rw [HL.out]; exact hlt2)⟩
          have hbr := HBD.out r (List.mem_of_getElem? hrr)
          have HNX := Lib.hid (ordI_next hrr)
          have HLE := Lib.hid (plI_len r hbr)
          obtain ⟨L0, hL0⟩ : ∃ L0, ordI (l.take j) = L0 := ⟨_, rfl⟩
          rw [hL0] at HO HNX hle
          obtain ⟨ad, rfl, hab, d0, d1, d2⟩ := HR.out.rg hrr
          have c0 := cell_below HBj.out d0
          have c1 := cell_below HBj.out d1
          have c2 := cell_below HBj.out d2
          have hszj := HBj.out.size
          have HAP := Lib.hid (ruAppend_any w.heap.size L0.length u7 L0 r (wr.alloc (.cells #[.int .i64 r.1, .int .i64 r.2.1, .int .i64 r.2.2] 38)) (HO.out.alloc _) (Nat.le_trans hszj (by simp)) (by omega) hbr)
          have HBA := Lib.hid (HBj.out.alloc hszj (.cells #[.int .i64 r.1, .int .i64 r.2.1, .int .i64 r.2.2] 38))
          obtain ⟨lo, hh, lev⟩ := r
          simp only at c0 c1 c2 HAP HBA
          have hin : (j : Int) < (i : Int) := by omega
          have hi0 : (0 : Int) ≤ (j : Int) := by omega
          have hi5 : (i : Int) ≤ 1000 := by omega
          clear hrr d0 d1 d2 hbr hL0
          go_wp2_with (first
            | (go_at_call 45; refine HAP.out.mono ?_; rintro e w2 ⟨v2, rfl, ho2, hb2⟩)
            | fail)
          have HO2 := Lib.hid ho2
          have HB2 := Lib.hid (HBA.out.trans hb2)
          clear ho2 hb2
          go_roundw
          case rel => exact ⟨j + 1, by omega, by go_num, by rw [HNX.out, List.length_append]; have := HLE.out; omega, by rw [HNX.out, List.length_append]; exact HO2.out, HB2.out⟩
          case measure => simp [intOf]; omega
        · obtain rfl : j = i := by omega
          have HZ := Lib.hid (show l.take j = l from List.take_of_length_le (by rw [HL.out]; exact Nat.le_refl _))
          rw [HZ.out] at HO
          go_wp2
          go_ret
          exact ⟨_, rfl, HO.out, HBj.out⟩
end Go.Proofs.Ytaiefneimjdmhaa
