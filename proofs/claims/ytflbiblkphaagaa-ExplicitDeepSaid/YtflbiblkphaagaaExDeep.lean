/- naskhlaw22.ExplicitDeep, walked. -/
import Derived.Test.YtflbiblkphaagaaExA
import Derived.Test.YtflbiblkphaagaaExDp
namespace Go.Proofs.Ytflbiblkphaagaa
open Go.RowKit

theorem rem_nat {k n : Nat} : Int.tmod (k : Int) (n : Int) = ((k % n : Nat) : Int) := (Int.ofNat_tmod k n).symm
set_option maxRecDepth 100000 in
set_option maxHeartbeats 4000000 in
theorem explicitDeep_any (m : Nat) (A : Option Addr) (n c : Nat) (ks : List Bool) (w : World) (hr : Rd w 1 A n (ks.map Value.bool)) (hn : n ≤ maxLen) (hm : m ≤ 255) :
    Calls Try.prog 10 #[.int .u8 (m : Int), .slice A n c] w fun e w' => e = .returned (.bool true) ∧ Below w.heap.size w w' := by
  unfold maxLen at hn
  have hlen : ks.length = n := by have := hr.1; simp at this; omega
  have HL := Lib.hid hlen
  have HR := Lib.hid hr
  have hm' : (m : Int) ≤ 255 := by omega
  have hm0 : (0 : Int) ≤ (m : Int) := by omega
  have HO0 : Hid (w.ownsRow w.heap.size 3 1 (.slice none 0 0) 0 ((dpA ks 0).map (Value.int .i64))) := Lib.hid ⟨rfl, .inl ⟨rfl, rfl⟩⟩
  clear hr hlen
  go_enter Try.func10, Try.ntmps10
  go_wp2_with fail
  go_loopw [15, 5] (fun i v wr => ∃ k : Nat, k ≤ m ∧ i = .int .i64 (k : Int) ∧ wr.ownsRow w.heap.size 3 1 v k ((dpA ks k).map (Value.int .i64)) ∧ Below w.heap.size w wr) (fun i _ _ => m - (intOf i).toNat)
  case atStart => exact ⟨0, Nat.zero_le _, rfl, HO0.out, Below.refl _ _⟩
  case round =>
    obtain ⟨k, hk, rfl, hO, hB⟩ := hrel
    have HO := Lib.hid hO
    have HB := Lib.hid hB
    obtain ⟨V, cv, rfl, hcv⟩ := own_form hO
    by_cases hlt : k < m
    · have hkm : (k : Int) < (m : Int) := by omega
      have hk0 : (0 : Int) ≤ (k : Int) := by omega
      have hk5 : (k : Int) ≤ 255 := by omega
      clear hO hB
      obtain ⟨x, hx⟩ : ∃ x, (if 0 < ks.length ∧ ks.getD (k % ks.length) false = true then (20 : Int) else 19) = x := ⟨_, rfl⟩
      have HST := Lib.hid (show dpA ks (k + 1) = dpA ks k ++ [x] by rw [dpA_step, hx])
      by_cases hn0 : 0 < n
      · have hd : decide ((0 : Int) < (n : Int)) = true := by simp; omega
        have hj : k % n < n := Nat.mod_lt _ hn0
        have hrem := rem_nat (k := k) (n := n)
        obtain ⟨j, hjj⟩ : ∃ j, k % n = j := ⟨_, rfl⟩
        rw [hjj] at hj hrem
        obtain ⟨b, hb⟩ : ∃ b, ks[j]? = some b := ⟨_, List.getElem?_eq_getElem (by rw [HL.out]; exact hj)⟩
        have hRd := HR.out.below HB.out
        obtain ⟨ad, rfl, hab, hcell⟩ := hRd.at_ hj
        have cx := hcell _ (by rw [List.getElem?_map, hb]; rfl)
        have hjn : (j : Int) < (n : Int) := by omega
        have hj0 : (0 : Int) ≤ (j : Int) := by omega
        have hn0' : (0 : Int) < (n : Int) := by omega
        have hnz : ¬ (n : Int) = 0 := by omega
        have hxb : x = if b = true then 20 else 19 := by
          rw [← hx, HL.out, hjj, List.getD_eq_getElem?_getD, hb]
          simp [hn0]
        clear hcell hb hx hRd
        cases b with
        | true =>
          have hx20 : x = 20 := by rw [hxb]; rfl
          go_wp2_with (at_builtin; refine wpList_app rfl _ _ _ rfl intSliceM (by decide) _ k _ rfl (HO.out.alloc _) ⟨wr.heap.size, 0, none⟩ 1 1 [.int .i64 20] rfl rfl (cells_new wr [_] _) (oneInt _ _) (by omega) (by unfold maxLen; omega) (Nat.le_trans HB.out.size (by simp)) ?_; intro v1 w3 hown3 hg3 hat3)
          have HB3 := Lib.hid (below_app (below_self HB.out (below_new wr _)) hg3 (HO.out.alloc _) (Nat.le_trans HB.out.size (by simp)))
          rw [show ((dpA ks k).map (Value.int .i64)) ++ [.int .i64 20] = (dpA ks (k + 1)).map (Value.int .i64) by rw [HST.out, hx20]; simp] at hown3
          have HO3 := Lib.hid hown3
          clear hown3 hg3 hat3
          go_wp2_with fail
          go_roundw
          case rel => exact ⟨k + 1, by omega, by go_num, HO3.out, HB3.out⟩
          case measure => simp [intOf]; omega
        | false =>
          have hx19 : x = 19 := by rw [hxb]; rfl
          go_wp2_with (at_builtin; refine wpList_app rfl _ _ _ rfl intSliceM (by decide) _ k _ rfl (HO.out.alloc _) ⟨wr.heap.size, 0, none⟩ 1 1 [.int .i64 19] rfl rfl (cells_new wr [_] _) (oneInt _ _) (by omega) (by unfold maxLen; omega) (Nat.le_trans HB.out.size (by simp)) ?_; intro v1 w3 hown3 hg3 hat3)
          have HB3 := Lib.hid (below_app (below_self HB.out (below_new wr _)) hg3 (HO.out.alloc _) (Nat.le_trans HB.out.size (by simp)))
          rw [show ((dpA ks k).map (Value.int .i64)) ++ [.int .i64 19] = (dpA ks (k + 1)).map (Value.int .i64) by rw [HST.out, hx19]; simp] at hown3
          have HO3 := Lib.hid hown3
          clear hown3 hg3 hat3
          go_wp2_with fail
          go_roundw
          case rel => exact ⟨k + 1, by omega, by go_num, HO3.out, HB3.out⟩
          case measure => simp [intOf]; omega
      · obtain rfl : n = 0 := by omega
        have hx19 : x = 19 := by rw [← hx, HL.out]; rfl
        go_wp2_with (at_builtin; refine wpList_app rfl _ _ _ rfl intSliceM (by decide) _ k _ rfl (HO.out.alloc _) ⟨wr.heap.size, 0, none⟩ 1 1 [.int .i64 19] rfl rfl (cells_new wr [_] _) (oneInt _ _) (by omega) (by unfold maxLen; omega) (Nat.le_trans HB.out.size (by simp)) ?_; intro v1 w3 hown3 hg3 hat3)
        have HB3 := Lib.hid (below_app (below_self HB.out (below_new wr _)) hg3 (HO.out.alloc _) (Nat.le_trans HB.out.size (by simp)))
        rw [show ((dpA ks k).map (Value.int .i64)) ++ [.int .i64 19] = (dpA ks (k + 1)).map (Value.int .i64) by rw [HST.out, hx19]; simp] at hown3
        have HO3 := Lib.hid hown3
        clear hown3 hg3 hat3
        go_wp2_with fail
        go_roundw
        case rel => exact ⟨k + 1, by omega, by go_num, HO3.out, HB3.out⟩
        case measure => simp [intOf]; omega
    · obtain rfl : k = m := by omega
      clear hO hB
      have HO0 : Hid (wr.ownsRow w.heap.size 3 1 (.slice V k cv) (k + 0) ((dpB ks k 0).map (Value.int .i64))) := Lib.hid (by rw [dpB_zero]; exact HO.out)
      have HBz := Lib.hid HB.out
      go_wp2_with fail
      go_loopw [36, 5] (fun i v ws => ∃ j : Nat, j ≤ k ∧ i = .int .i64 (j : Int) ∧ ws.ownsRow w.heap.size 3 1 v (k + j) ((dpB ks k j).map (Value.int .i64)) ∧ Below w.heap.size w ws) (fun i _ _ => k - (intOf i).toNat)
      case atStart => exact ⟨0, Nat.zero_le _, rfl, HO0.out, HBz.out⟩
      case round =>
        obtain ⟨j, hj, rfl, hO2, hB2⟩ := hrel
        clear HO HB HO0 HBz
        have HO := Lib.hid hO2
        have HB := Lib.hid hB2
        obtain ⟨V2, cv2, rfl, hcv2⟩ := own_form hO2
        clear hO2 hB2
        by_cases hlt2 : j < k
        · have hjk : (j : Int) < (k : Int) := by omega
          have hj0 : (0 : Int) ≤ (j : Int) := by omega
          have hj5 : (j : Int) ≤ 255 := by omega
          go_wp2_with (at_builtin; refine wpList_app rfl _ _ _ rfl intSliceM (by decide) _ (k + j) _ rfl (HO.out.alloc _) ⟨wr.heap.size, 0, none⟩ 1 1 [.int .i64 22] rfl rfl (cells_new wr [_] _) (oneInt _ _) (by omega) (by unfold maxLen; omega) (Nat.le_trans HB.out.size (by simp)) ?_; intro v1 w3 hown3 hg3 hat3)
          have HB3 := Lib.hid (below_app (below_self HB.out (below_new wr _)) hg3 (HO.out.alloc _) (Nat.le_trans HB.out.size (by simp)))
          rw [show ((dpB ks k j).map (Value.int .i64)) ++ [.int .i64 22] = (dpB ks k (j + 1)).map (Value.int .i64) by rw [dpB_step]; simp] at hown3
          have HO3 := Lib.hid hown3
          clear hown3 hg3 hat3
          go_wp2_with fail
          go_roundw
          case rel => exact ⟨j + 1, by omega, by go_num, HO3.out, HB3.out⟩
          case measure => simp [intOf]; omega
        · obtain rfl : j = k := by omega
          go_wp2_with (at_builtin; refine wpList_app rfl _ _ _ rfl intSliceM (by decide) _ (j + j) _ rfl (HO.out.alloc _) ⟨wr.heap.size, 0, none⟩ 1 1 [.int .i64 0] rfl rfl (cells_new wr [_] _) (oneInt _ _) (by omega) (by unfold maxLen; omega) (Nat.le_trans HB.out.size (by simp)) ?_; intro v1 w3 hown3 hg3 hat3)
          have HB3 := Lib.hid (below_app (below_self HB.out (below_new wr _)) hg3 (HO.out.alloc _) (Nat.le_trans HB.out.size (by simp)))
          rw [show ((dpB ks j j).map (Value.int .i64)) ++ [.int .i64 0] = (dpL ks j).map (Value.int .i64) by unfold dpL; simp] at hown3
          have HO3 := Lib.hid hown3
          clear hown3 hg3 hat3
          obtain ⟨V3, cv3, rfl, hcv3⟩ := own_form HO3.out
          have HLV := Lib.hid (exLevels_any V3 (j + j + 1) cv3 (dpL ks j) 0 w3 (Rd.of_own HO3.out) (by omega) hcv3)
          have hb0 : baseL 0 = 0 := by decide
          rw [hb0] at HLV
          clear hb0
          obtain ⟨N, hN⟩ : ∃ N, j + j + 1 = N := ⟨_, rfl⟩
          rw [hN] at HLV
          have hNi : (N : Int) = 2 * (j : Int) + 1 := by omega
          rw [hN]
          go_wp2_with fail
          refine HLV.out.mono ?_
          rintro e w4 ⟨⟨ga, gb, rfl, hra, hrb⟩, hb4⟩
          have HRA := Lib.hid hra
          have HB4 := Lib.hid (HB3.out.trans (hb4.mono HB3.out.size))
          clear hrb hb4
          have clast : w4.cell? ⟨ga, 2 * j, none⟩ = some (.int .i64 0) := by
            obtain ⟨ad, hae, hab, hcell⟩ := hra.at_ (show 2 * j < N by omega)
            obtain rfl := Option.some.inj hae
            have := hcell _ (by rw [List.getElem?_map, lvL_get (show 2 * j < N by omega)]; rfl)
            rw [addNew, dp_last] at this
            exact this
          clear hra
          have HN := Lib.hid hN
          go_wp2_with fail
          clear clast hNi
          go_loopw [65] (fun i ws => ∃ q : Nat, q ≤ j ∧ i = .int .i64 (q : Int) ∧ Rd ws 1 (some ⟨ga, 0, none⟩) N ((lvL (dpL ks j) 0 N).map (Value.int .i64)) ∧ Below w.heap.size w ws) (fun i _ => j - (intOf i).toNat)
          case atStart => exact ⟨0, Nat.zero_le _, rfl, HRA.out, HB4.out⟩
          case round =>
            obtain ⟨q, hq, rfl, hR2, hB2⟩ := hrel
            have HB5 := Lib.hid hB2
            have HR5 := Lib.hid hR2
            have hNN := HN.out
            by_cases hlt3 : q < j
            · obtain ⟨ad, hae, hab, hcell⟩ := hR2.at_ (show q < N by omega)
              obtain rfl := Option.some.inj hae
              have cq := hcell _ (by rw [List.getElem?_map, lvL_get (show q < N by omega)]; rfl)
              obtain ⟨p, hp⟩ : ∃ p, 2 * j - 1 - q = p := ⟨_, rfl⟩
              obtain ⟨ad, hae, hab, hcell⟩ := hR2.at_ (show p < N by omega)
              obtain rfl := Option.some.inj hae
              have cp := hcell _ (by rw [List.getElem?_map, lvL_get (show p < N by omega)]; rfl)
              rw [addNew] at cp cq
              rw [← hp, ← dp_sym hlt3, hp] at cp
              obtain ⟨y, hy⟩ : ∃ y, (exA (dpL ks j) 0 q).1 = y := ⟨_, rfl⟩
              rw [hy] at cp cq
              have hqj : (q : Int) < (j : Int) := by omega
              have hq0 : (0 : Int) ≤ (q : Int) := by omega
              have hpi : 2 * (j : Int) - 1 - (q : Int) = (p : Int) := by omega
              have hp0 : (0 : Int) ≤ (p : Int) := by omega
              have hpN : (p : Int) < (N : Int) := by omega
              have hqN : (q : Int) < (N : Int) := by omega
              have hy2 : (y != y) = false := by simp
              clear hcell hy hp hR2 hB2 hNN
              go_wp2_with fail
              go_quiet (fail)
              have HB6 := Lib.hid (below_drewN HB5.out nq)
              have HR6 := Lib.hid (HR5.out.drewN nq)
              go_wp2_with fail
              go_roundw
              case rel => exact ⟨q + 1, by omega, by go_num, HR6.out, HB6.out⟩
              case measure => simp [intOf]; omega
            · obtain rfl : q = j := by omega
              clear hR2 hB2 hNN
              go_wp2_with fail
              refine (awakeEx_any _).mono ?_
              rintro e w9 ⟨rfl, hb9⟩
              have HB9 := Lib.hid (HB5.out.trans (hb9.mono HB5.out.size))
              clear hb9
              go_wp2
              go_ret
              exact ⟨rfl, HB9.out⟩
end Go.Proofs.Ytflbiblkphaagaa
