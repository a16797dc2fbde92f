/- naskhlaw07: awake, PropsApart, PropsNobody. -/
import Derived.Test.YtmjpblpdmhblbaaDoorPpK
namespace Go.Proofs.YtmjpblpdmhblbaaDoor
open Go.RowKit

set_option maxRecDepth 100000 in
set_option maxHeartbeats 1000000 in
theorem awakePp_any (w : World) (hZ : ZerosAt w) : Calls Tryd.prog 13 #[] w fun e w' => e = .returned (.bool true) ∧ Below w.heap.size w w' := by
  have HZ := Lib.hid hZ
  have H1 := Lib.hid (show classF 1575 = 2 by decide +kernel)
  have H2 := Lib.hid (show joinF 1575 = 2 by decide +kernel)
  have H3 := Lib.hid (show classF 97 = 0 by decide +kernel)
  have H4 := Lib.hid (show digF 1637 = (5, 2) by decide)
  have H5 := Lib.hid (show decide (classF 1614 ∈ ([8] : List Int)) = true by decide +kernel)
  have H6 := Lib.hid (show ctlF 8207 = true by decide +kernel)
  clear hZ
  go_enter Tryd.func13, Tryd.ntmps13
  go_wp2_with fail
  refine (prNew_any _).mono ?_
  rintro e w1 ⟨⟨b, rfl, hP⟩, hb1⟩
  have HP := Lib.hid hP
  clear hP
  go_wp2_with fail
  refine (ppDigit_any b 1637 5 2 H4.out _ HP.out (HZ.out.below hb1)).mono ?_
  rintro e w2 ⟨rfl, rfl⟩
  have hbz := Below.refl w1.heap.size w1
  go_wp2_with (first
    | (go_at_call 9; with_reducible refine (ppClass_any b 1575 2 H1.out _ (HP.out.below hbz)).mono ?_; rintro e w3 ⟨rfl, h9⟩; replace hbz := below_self hbz h9; clear h9)
    | (go_at_call 9; with_reducible refine (ppClass_any b 97 0 H3.out _ (HP.out.below hbz)).mono ?_; rintro e w3 ⟨rfl, h9⟩; replace hbz := below_self hbz h9; clear h9)
    | (go_at_call 11; with_reducible refine (ppJoin_any b 1575 2 H2.out _ (HP.out.below hbz)).mono ?_; rintro e w3 ⟨rfl, h9⟩; replace hbz := below_self hbz h9; clear h9)
    | (go_at_call 15; with_reducible refine (ppMark_gen _ 1614 _ _ (tells_any b 1614 _ (HP.out.below hbz))).mono ?_; rintro e w3 ⟨rfl, h9⟩; replace hbz := below_self hbz h9; clear h9; rw [H5.out])
    | (go_at_call 17; with_reducible refine (ppControl_any b 8207 _ (HP.out.below hbz)).mono ?_; rintro e w3 ⟨rfl, h9⟩; replace hbz := below_self hbz h9; clear h9; rw [H6.out])
    | fail)
  go_ret
  exact ⟨rfl, below_self hb1 hbz⟩

set_option maxRecDepth 100000 in
set_option maxHeartbeats 1000000 in
theorem propsApart_any (c : Int) (w : World) (hZ : ZerosAt w) : Calls Tryd.prog 4 #[.int .i64 c] w fun e w' => e = .returned (.bool true) ∧ Below w.heap.size w w' := by
  obtain ⟨d, k, hd⟩ : ∃ d k, digF c = (d, k) := ⟨_, _, rfl⟩
  obtain ⟨m, hm⟩ : ∃ m, decide (classF c ∈ ([8] : List Int)) = m := ⟨_, rfl⟩
  obtain ⟨s, hs⟩ : ∃ s, decide (classF c ∈ ([0, 1, 2] : List Int)) = s := ⟨_, rfl⟩
  obtain ⟨q, hq⟩ : ∃ q, ctlF c = q := ⟨_, rfl⟩
  have hms : (m && s) = false := by rw [← hm, ← hs]; exact apart1 c
  have hkq : 0 < k → q = false := fun h => by rw [← hq]; exact apart2 c (by rw [hd]; exact h)
  have HD := Lib.hid hd
  have HM := Lib.hid hm
  have HS := Lib.hid hs
  have HQ := Lib.hid hq
  have HK := Lib.hid hkq
  have HZ := Lib.hid hZ
  have hcase : m = false ∨ (m = true ∧ s = false) := by cases m <;> simp_all
  clear hd hm hs hq hkq hms hZ
  go_enter Tryd.func4, Tryd.ntmps4
  go_wp2_with fail
  refine (prNew_any _).mono ?_
  rintro e w1 ⟨⟨b, rfl, hP⟩, hb1⟩
  have HP := Lib.hid hP
  clear hP
  go_wp2_with fail
  refine (ppDigit_any b c d k HD.out _ HP.out (HZ.out.below hb1)).mono ?_
  rintro e w2 ⟨rfl, rfl⟩
  have hbz := Below.refl w1.heap.size w1
  have hkc : (0 < k ∧ q = false) ∨ k ≤ 0 := by
    by_cases h : 0 < k
    · exact .inl ⟨h, HK.out h⟩
    · exact .inr (by omega)
  rcases hcase with rfl | ⟨rfl, rfl⟩ <;> rcases hkc with ⟨hk, rfl⟩ | hk
  all_goals (
    go_wp2_with (first
      | (go_at_call 15; with_reducible refine (ppMark_gen _ c _ _ (tells_any b c _ (HP.out.below hbz))).mono ?_; rintro e w3 ⟨rfl, h9⟩; replace hbz := below_self hbz h9; clear h9; rw [HM.out])
      | (go_at_call 16; with_reducible refine (ppStrong_gen _ c _ _ (tells_any b c _ (HP.out.below hbz))).mono ?_; rintro e w3 ⟨rfl, h9⟩; replace hbz := below_self hbz h9; clear h9; rw [HS.out])
      | (go_at_call 17; with_reducible refine (ppControl_any b c _ (HP.out.below hbz)).mono ?_; rintro e w3 ⟨rfl, h9⟩; replace hbz := below_self hbz h9; clear h9; rw [HQ.out])
      | (go_at_call 13; with_reducible refine (awakePp_any _ (HZ.out.below (below_self hb1 hbz))).mono ?_; rintro e w3 ⟨rfl, h9⟩; replace hbz := below_self hbz h9; clear h9)
      | fail)
    go_ret
    exact ⟨rfl, below_self hb1 hbz⟩)

set_option maxRecDepth 100000 in
set_option maxHeartbeats 1000000 in
theorem propsNobody_any (c : Int) (w : World) (hZ : ZerosAt w) : Calls Tryd.prog 5 #[.int .i64 c] w fun e w' => e = .returned (.bool true) ∧ Below w.heap.size w w' := by
  have hb0 := below_new w (.cells #[.pointer none, .pointer none] 40)
  have HN1 := Lib.hid (show NoProp (w.alloc (.cells #[.pointer none, .pointer none] 40)) (.pointer none) from .inl rfl)
  have HN2 := Lib.hid (show NoProp (w.alloc (.cells #[.pointer none, .pointer none] 40)) (.pointer (some ⟨w.heap.size, 0, none⟩)) from .inr ⟨_, rfl, by rw [World.cell?_alloc_at _ _ _ _ rfl]; rfl⟩)
  have HZ := Lib.hid (hZ.below hb0)
  have H1 := Lib.hid (show decide ((13 : Int) ∈ ([8] : List Int)) = false by decide)
  have H2 := Lib.hid (show decide ((13 : Int) ∈ ([0, 1, 2] : List Int)) = false by decide)
  clear hZ
  go_enter Tryd.func5, Tryd.ntmps5
  have hbz := Below.refl (w.alloc (.cells #[.pointer none, .pointer none] 40)).heap.size (w.alloc (.cells #[.pointer none, .pointer none] 40))
  have HB0 := Lib.hid hb0
  clear hb0
  go_wp2_with (first
    | (go_at_call 14; with_reducible refine (ppDigit_no (HN1.out.below hbz) c).mono ?_; rintro e w3 ⟨rfl, rfl⟩)
    | (go_at_call 14; with_reducible refine (ppDigit_no (HN2.out.below hbz) c).mono ?_; rintro e w3 ⟨rfl, rfl⟩)
    | (go_at_call 9; with_reducible refine (ppClass_no (HN1.out.below hbz) c).mono ?_; rintro e w3 ⟨rfl, rfl⟩)
    | (go_at_call 9; with_reducible refine (ppClass_no (HN2.out.below hbz) c).mono ?_; rintro e w3 ⟨rfl, rfl⟩)
    | (go_at_call 11; with_reducible refine (ppJoin_no (HN1.out.below hbz) c).mono ?_; rintro e w3 ⟨rfl, rfl⟩)
    | (go_at_call 11; with_reducible refine (ppJoin_no (HN2.out.below hbz) c).mono ?_; rintro e w3 ⟨rfl, rfl⟩)
    | (go_at_call 17; with_reducible refine (ppControl_no (HN1.out.below hbz) c).mono ?_; rintro e w3 ⟨rfl, rfl⟩)
    | (go_at_call 17; with_reducible refine (ppControl_no (HN2.out.below hbz) c).mono ?_; rintro e w3 ⟨rfl, rfl⟩)
    | (go_at_call 15; with_reducible refine (ppMark_gen _ c 13 _ (tells_no c _ (HN1.out.below hbz))).mono ?_; rintro e w3 ⟨rfl, h9⟩; replace hbz := below_self hbz h9; clear h9; rw [H1.out])
    | (go_at_call 16; with_reducible refine (ppStrong_gen _ c 13 _ (tells_no c _ (HN2.out.below hbz))).mono ?_; rintro e w3 ⟨rfl, h9⟩; replace hbz := below_self hbz h9; clear h9; rw [H2.out])
    | (go_at_call 13; with_reducible refine (awakePp_any _ (HZ.out.below hbz)).mono ?_; rintro e w3 ⟨rfl, h9⟩; replace hbz := below_self hbz h9; clear h9)
    | fail)
  go_ret
  exact ⟨rfl, below_self HB0.out hbz⟩
end Go.Proofs.YtmjpblpdmhblbaaDoor
