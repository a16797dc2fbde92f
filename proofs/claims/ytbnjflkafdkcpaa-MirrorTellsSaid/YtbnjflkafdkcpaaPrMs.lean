/- The mirrors, as the program lays them. -/
import Derived.Test.YtbnjflkafdkcpaaPrNw
namespace Go.Proofs.Ytbnjflkafdkcpaa
open Go.RowKit

set_option maxRecDepth 100000 in
set_option maxHeartbeats 1000000 in
theorem mirrors_any (w : World) : Calls Try.prog 42 #[] w fun e w' => (∃ A, e = .returned (.slice A 51 51) ∧ Rd w' 2 A 51 (cellsS mirL)) ∧ Below w.heap.size w w' := by
  go_enter Try.func42, Try.ntmps42
  go_wp2
  go_ret
  exact ⟨⟨_, rfl, rd_new2 w mirL _⟩, below_new _ _⟩
end Go.Proofs.Ytbnjflkafdkcpaa
