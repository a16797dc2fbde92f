/- naskhlaw02.NarrowOne returns true at every number. -/
import Derived.Test.YtoopchpolcfdaaaDoorAwakeN
namespace Go.Proofs.YtoopchpolcfdaaaDoor
open Go.RowKit

set_option maxHeartbeats 1000000 in
theorem narrowOne_any (c : Int) (w : World) (hs : TabN w) :
    Calls Tryd.prog 10 #[.int .i64 c] w fun e w' => e = .returned (.bool true) ∧ Below w.heap.size w w' := by
  go_enter Tryd.func10, Tryd.ntmps10
  go_wp2_with fail
  refine (sizeN_any c _ hs.lasts).mono ?_
  rintro e w' ⟨rfl, rfl⟩
  go_wp2_with fail
  refine (refSizeN_any c _).mono ?_
  rintro e w' ⟨rfl, rfl⟩
  generalize sizeN c = z
  go_wp2_with fail
  refine (awakeN_any _ hs).mono ?_
  rintro e w2 ⟨rfl, hb⟩
  go_wp2
  go_ret
  exact ⟨rfl, hb⟩
end Go.Proofs.YtoopchpolcfdaaaDoor
