/- accent's end and falls, walked. -/
import Derived.BigQuiet
import Derived.Deep.DeepCutAuto
import Derived.Deep.CutBlock
import Derived.Test.YtbnjflkafdkcpaaAcE
import Derived.Test.YtbnjflkafdkcpaaMem3
import Derived.Test.YtbnjflkafdkcpaaSpBlk
namespace Go.Proofs.Ytbnjflkafdkcpaa
open Go.RowKit

set_option maxRecDepth 100000 in
set_option maxHeartbeats 1500000 in
theorem acEnd_any (A B : Option Addr) (n c d k : Nat) (ls : List Int) (ms : List Bool) (w : World) (hr : Rd w 1 A n (ls.map (Value.int .i64))) (hs : Rd w 1 B n (ms.map Value.bool)) (hk : k < n) (hn : n ≤ 100000) :
    Calls Try.prog 40 #[.slice A n c, .slice B n d, .int .i64 (k : Int)] w fun e w' => e = .returned (.int .i64 ((hiA ls ms k : Nat) : Int)) ∧ ∃ q, w' = w.drewN q := by
  have hll : ls.length = n := by simpa using hr.len1
  have hml : ms.length = n := by simpa using hs.len1
  have HLL := Lib.hid hll
  have HML := Lib.hid hml
  have HR := Lib.hid hr
  have HS := Lib.hid hs
  obtain ⟨x, hx⟩ : ∃ x, ls[k]? = some x := ⟨_, List.getElem?_eq_getElem (by omega)⟩
  obtain ⟨ad, rfl, _, hcell⟩ := hr.at_ hk
  obtain ⟨bd, rfl, _, _⟩ := hs.at_ hk
  have cx := hcell (.int .i64 x) (by rw [List.getElem?_map, hx]; rfl)
  have hxd : ls.getD k 0 = x := by rw [List.getD_eq_getElem?_getD, hx]; rfl
  have HCX := Lib.hid cx
  have HH := Lib.hid (show hiA ls ms k = extA ls ms x n (k + 1) by unfold hiA; rw [hxd, hll])
  have hkn : (k : Int) < (n : Int) := by omega
  obtain ⟨k1, hk1e⟩ : ∃ k1, k + 1 = k1 := ⟨_, rfl⟩
  have hk1 : (k : Int) + 1 = (k1 : Int) := by omega
  rw [hk1e] at HH
  have HK1 := Lib.hid hk1e
  clear hr hs hll hml hx hcell cx hxd hk1e
  go_enter Try.func40, Try.ntmps40
  go_wp2_with fail
  go_loopw [7] (fun i wi => ∃ j f q : Nat, i = .int .i64 (j : Int) ∧ k1 ≤ j ∧ j ≤ n ∧ n ≤ f + j ∧ hiA ls ms k = extA ls ms x f j ∧ wi = w.drewN q) (fun i _ => n - (intOf i).toNat)
  case atStart => exact ⟨k1, n, 0, by first | rfl | simp [hk1], Nat.le_refl _, by have := HK1.out; omega, by omega, HH.out, rfl⟩
  case round =>
    obtain ⟨j, f, q, rfl, hj1, hj2, hf, hh, rfl⟩ := hrel
    have HHI := Lib.hid hh
    have cx := HCX.out
    clear hh
    by_cases hgo : j < n ∧ ms.getD j false = true ∧ ls.getD j 0 = x
    · obtain ⟨g1, g2, g3⟩ := hgo
      have hlj : ls[j]? = some x := by
        rw [List.getD_eq_getElem?_getD, List.getElem?_eq_getElem (by rw [HLL.out]; exact g1)] at g3
        rw [List.getElem?_eq_getElem (by rw [HLL.out]; exact g1)]
        exact congrArg some g3
      have hmj : ms[j]? = some true := by
        rw [List.getD_eq_getElem?_getD, List.getElem?_eq_getElem (by rw [HML.out]; exact g1)] at g2
        rw [List.getElem?_eq_getElem (by rw [HML.out]; exact g1)]
        exact congrArg some g2
      have e1 := HR.out.news j (.int .i64 x) (by rw [List.getElem?_map, hlj]; rfl)
      have e2 := HS.out.news j (.bool true) (by rw [List.getElem?_map, hmj]; rfl)
      have hji : (j : Int) < (n : Int) := by omega
      have hjd : decide ((j : Int) < (n : Int)) = true := decide_eq_true hji
      have hjd2 : decide (j < n) = true := decide_eq_true g1
      obtain ⟨f', rfl⟩ : ∃ f', f = f' + 1 := ⟨f - 1, by omega⟩
      have HN := Lib.hid (HHI.out.trans (show extA ls ms x (f' + 1) j = extA ls ms x f' (j + 1) by rw [extA, if_pos ⟨by rw [HLL.out]; exact g1, g2, g3⟩]))
      clear g2 g3 hlj hmj
      go_wp2
      go_quiet (fail)
      go_wp2
      go_roundw
      case rel => exact ⟨j + 1, f', _, by go_num, by omega, by omega, by omega, HN.out, rfl⟩
      case measure => simp [intOf]; omega
    · have HE := Lib.hid (show hiA ls ms k = j by
        rw [HHI.out]
        cases f with
        | zero => rfl
        | succ f => rw [extA, if_neg (by rw [HLL.out]; exact hgo)])
      by_cases g1 : j < n
      · obtain ⟨y, hy⟩ : ∃ y, ls[j]? = some y := ⟨_, List.getElem?_eq_getElem (by rw [HLL.out]; exact g1)⟩
        obtain ⟨mb, hmb⟩ : ∃ mb, ms[j]? = some mb := ⟨_, List.getElem?_eq_getElem (by rw [HML.out]; exact g1)⟩
        have e1 := HR.out.news j (.int .i64 y) (by rw [List.getElem?_map, hy]; rfl)
        have e2 := HS.out.news j (.bool mb) (by rw [List.getElem?_map, hmb]; rfl)
        have hyd : ls.getD j 0 = y := by rw [List.getD_eq_getElem?_getD, hy]; rfl
        have hmd : ms.getD j false = mb := by rw [List.getD_eq_getElem?_getD, hmb]; rfl
        rw [hyd, hmd] at hgo
        have hji : (j : Int) < (n : Int) := by omega
        have hjd : decide ((j : Int) < (n : Int)) = true := decide_eq_true hji
        have hjd2 : decide (j < n) = true := decide_eq_true g1
        clear hy hmb hyd hmd
        cases mb with
        | false =>
          clear hgo
          go_wp2
          go_quiet (fail)
          go_wp2
          go_ret
          exact ⟨by rw [HE.out]; rfl, _, World.drewN_drewN _ _ _⟩
        | true =>
          have hyx : (y == x) = false := by
            have : ¬ y = x := fun e => hgo ⟨g1, rfl, e⟩
            simp [this]
          clear hgo
          go_wp2
          go_quiet (fail)
          go_wp2
          go_ret
          exact ⟨by rw [HE.out]; rfl, _, World.drewN_drewN _ _ _⟩
      · have hji : ¬ (j : Int) < (n : Int) := by omega
        have hjd : decide ((j : Int) < (n : Int)) = false := decide_eq_false hji
        have hjd2 : decide (j < n) = false := decide_eq_false g1
        clear hgo
        go_wp2
        go_quiet (fail)
        go_wp2
        go_ret
        exact ⟨by rw [HE.out]; rfl, _, World.drewN_drewN _ _ _⟩
set_option maxRecDepth 100000 in
set_option maxHeartbeats 1500000 in
theorem acFalls_any (A : Option Addr) (n c : Nat) (l : List Int) (w : World) (hr : Rd w 1 A n (l.map (Value.int .i64))) (hn : n ≤ 100000) (hb : ∀ x ∈ l, 0 ≤ x ∧ x ≤ 100000) :
    Calls Try.prog 27 #[.slice A n c] w fun e w' => e = .returned (.bool (fallW l)) ∧ w' = w := by
  have hl : l.length = n := by simpa using hr.len1
  have HL := Lib.hid hl
  have HR := Lib.hid hr
  have HB := Lib.hid hb
  clear hl hr hb
  go_enter Try.func27, Try.ntmps27
  go_wp2
  go_loopw [7] (fun i wr => ∃ k : Nat, k ≤ n ∧ i = .int .i64 (k : Int) ∧ (∀ j, j < k → l.getD j 0 = l.getD 0 0 - (j : Int)) ∧ wr = w) (fun i _ => n - (intOf i).toNat)
  case atStart => exact ⟨0, Nat.zero_le _, rfl, fun j hj => by omega, rfl⟩
  case round =>
    obtain ⟨k, hk, rfl, hall, rfl⟩ := hrel
    have HALL := Lib.hid hall
    clear hall
    by_cases hlt : k < n
    · obtain ⟨x, hx⟩ : ∃ x, l[k]? = some x := ⟨_, List.getElem?_eq_getElem (by rw [HL.out]; exact hlt)⟩
      obtain ⟨y, hy⟩ : ∃ y, l[0]? = some y := ⟨_, List.getElem?_eq_getElem (by rw [HL.out]; omega)⟩
      obtain ⟨ad, rfl, _, hcell⟩ := HR.out.at_ hlt
      have cx := hcell (.int .i64 x) (by rw [List.getElem?_map, hx]; rfl)
      have cy := HR.out.news 0 (.int .i64 y) (by rw [List.getElem?_map, hy]; rfl)
      have cy' : wr.cell? ad = some (.int .i64 y) := by simpa [Addr.add] using cy
      have hxd : l.getD k 0 = x := by rw [List.getD_eq_getElem?_getD, hx]; rfl
      have hyd : l.getD 0 0 = y := by rw [List.getD_eq_getElem?_getD, hy]; rfl
      have hyb := HB.out y (List.mem_of_getElem? hy)
      have HX := Lib.hid hxd
      have HY := Lib.hid hyd
      have hki : (k : Int) < (n : Int) := by omega
      have hn0 : (0 : Int) < (n : Int) := by omega
      clear hx hy hcell hxd hyd
      by_cases hxy : x = y - (k : Int)
      · have HN := Lib.hid (show ∀ j, j < k + 1 → l.getD j 0 = l.getD 0 0 - (j : Int) from fun j hj => by
          by_cases e : j = k
          · subst e; rw [HX.out, HY.out]; exact hxy
          · exact HALL.out j (by omega))
        have g : (x != y - (k : Int)) = false := by simp [hxy]
        clear hxy
        go_wp2
        go_roundw
        case rel => exact ⟨k + 1, by omega, by go_num, HN.out, by first | rfl | trivial⟩
        case measure => simp [intOf]; omega
      · have g : (x != y - (k : Int)) = true := by simp [hxy]
        have HN := Lib.hid (show fallW l = false by
          refine decide_eq_false fun h => ?_
          have := h k (by rw [HL.out]; exact hlt)
          rw [HX.out, HY.out] at this
          exact hxy this)
        clear hxy
        go_wp2
        go_ret
        exact ⟨by rw [HN.out]; rfl, by first | rfl | trivial⟩
    · obtain rfl : k = n := by omega
      have HN := Lib.hid (show fallW l = true from decide_eq_true fun j hj => HALL.out j (by rw [HL.out] at hj; exact hj))
      go_wp2
      go_ret
      exact ⟨by rw [HN.out]; rfl, by first | rfl | trivial⟩
end Go.Proofs.Ytbnjflkafdkcpaa
