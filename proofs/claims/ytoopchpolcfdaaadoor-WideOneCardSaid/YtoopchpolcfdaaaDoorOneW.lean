/- naskhlaw01.WideOne returns true at every number. -/
import Derived.Test.YtoopchpolcfdaaaDoorAwakeW
namespace Go.Proofs.YtoopchpolcfdaaaDoor
open Go.RowKit

set_option maxHeartbeats 1000000 in
theorem wideOne_any (c : Int) (w : World) (hs : Stretches w) :
    Calls Tryd.prog 5 #[.int .i64 c] w fun e w' => e = .returned (.bool true) ∧ Below w.heap.size w w' := by
  go_enter Tryd.func5, Tryd.ntmps5
  go_wp2_with fail
  refine (whole_any c _).mono ?_
  rintro e w' ⟨rfl, rfl⟩
  go_wp2_with fail
  refine (refWhole_any c _).mono ?_
  rintro e w' ⟨rfl, rfl⟩
  generalize wholeB c = b
  go_wp2_with fail
  refine (size_any c _ hs).mono ?_
  rintro e w1 ⟨rfl, hb1⟩
  go_wp2_with fail
  refine (refSize_any c _).mono ?_
  rintro e w' ⟨rfl, rfl⟩
  generalize sizeW c = z
  go_wp2_with fail
  refine (awakeW_any _ (hs.below hb1)).mono ?_
  rintro e w2 ⟨rfl, hb⟩
  have hb2 := below_self hb1 hb
  clear hb
  go_wp2
  go_ret
  exact ⟨rfl, hb2⟩
end Go.Proofs.YtoopchpolcfdaaaDoor
