/- naskhlaw07.awake. -/
import Derived.Test.YtfobhnpmaooalaaDoorPpK
namespace Go.Proofs.YtfobhnpmaooalaaDoor
open Go.RowKit

set_option maxRecDepth 100000 in
set_option maxHeartbeats 1000000 in
theorem awakePp_any (w : World) (hZ : ZerosAt w) : Calls Tryd.prog 14 #[] w fun e w' => e = .returned (.bool true) ∧ Below w.heap.size w w' := by
  have HZ := Lib.hid hZ
  have H1 := Lib.hid (show classF 1575 = 2 by decide +kernel)
  have H2 := Lib.hid (show joinF 1575 = 2 by decide +kernel)
  have H3 := Lib.hid (show classF 97 = 0 by decide +kernel)
  have H4 := Lib.hid (show digF 1637 = (5, 2) by decide)
  have H5 := Lib.hid (show decide (classF 1614 ∈ ([8] : List Int)) = true by decide +kernel)
  have H6 := Lib.hid (show ctlF 8207 = true by decide +kernel)
  clear hZ
  go_enter Tryd.func14, Tryd.ntmps14
  go_wp2_with fail
  refine (prNew_any _).mono ?_
  rintro e w1 ⟨⟨b, rfl, hP⟩, hb1⟩
  have HP := Lib.hid hP
  clear hP
  go_wp2_with fail
  refine (ppDigit_any b 1637 5 2 H4.out _ HP.out (HZ.out.below hb1)).mono ?_
  rintro e w2 ⟨rfl, rfl⟩
  have hbz := Below.refl w1.heap.size w1
  go_wp2_with (first
    | (go_at_call 10; with_reducible refine (ppClass_any b 1575 2 H1.out _ (HP.out.below hbz)).mono ?_; rintro e w3 ⟨rfl, h9⟩; replace hbz := below_self hbz h9; clear h9)
    | (go_at_call 10; with_reducible refine (ppClass_any b 97 0 H3.out _ (HP.out.below hbz)).mono ?_; rintro e w3 ⟨rfl, h9⟩; replace hbz := below_self hbz h9; clear h9)
    | (go_at_call 12; with_reducible refine (ppJoin_any b 1575 2 H2.out _ (HP.out.below hbz)).mono ?_; rintro e w3 ⟨rfl, h9⟩; replace hbz := below_self hbz h9; clear h9)
    | (go_at_call 31; with_reducible refine (ppMark_gen _ 1614 _ _ (tells_any b 1614 _ (HP.out.below hbz))).mono ?_; rintro e w3 ⟨rfl, h9⟩; replace hbz := below_self hbz h9; clear h9; rw [H5.out])
    | (go_at_call 32; with_reducible refine (ppControl_any b 8207 _ (HP.out.below hbz)).mono ?_; rintro e w3 ⟨rfl, h9⟩; replace hbz := below_self hbz h9; clear h9; rw [H6.out])
    | fail)
  go_ret
  exact ⟨rfl, below_self hb1 hbz⟩
end Go.Proofs.YtfobhnpmaooalaaDoor
