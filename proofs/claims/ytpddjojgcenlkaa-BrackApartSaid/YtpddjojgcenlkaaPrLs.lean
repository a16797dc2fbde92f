/- The lists of brackets and of what is the same, as they are laid. -/
import Derived.Test.YtpddjojgcenlkaaPrD
import Derived.Test.YtpddjojgcenlkaaMem3
import Derived.Test.YtpddjojgcenlkaaPartsD
namespace Go.Proofs.Ytpddjojgcenlkaa
open Go.RowKit

theorem rd_new2 (w : World) (l : List Sp) (T : TypeId) : Rd (w.alloc (.cells (cellsS l).toArray T)) 2 (some ⟨w.heap.size, 0, none⟩) l.length (cellsS l) :=
  ⟨cellsS_len l, fun _ => ⟨_, rfl, by simp, cells_new w _ T⟩⟩
set_option maxRecDepth 100000 in
set_option maxHeartbeats 1000000 in
theorem alike_any (w : World) : Calls Try.prog 38 #[] w fun e w' => (∃ A, e = .returned (.slice A 2 2) ∧ Rd w' 2 A 2 (cellsS aliL)) ∧ Below w.heap.size w w' := by
  go_enter Try.func38, Try.ntmps38
  go_wp2
  go_ret
  exact ⟨⟨_, rfl, rd_new2 w aliL _⟩, below_new _ _⟩
set_option maxRecDepth 100000 in
set_option maxHeartbeats 1000000 in
theorem brackets_any (w : World) : Calls Try.prog 23 #[] w fun e w' => (∃ A, e = .returned (.slice A 43 43) ∧ Rd w' 2 A 43 (cellsS braL)) ∧ Below w.heap.size w w' := by
  go_enter Try.func23, Try.ntmps23
  go_wp2
  go_ret
  exact ⟨⟨_, rfl, rd_new2 w braL _⟩, below_new _ _⟩
end Go.Proofs.Ytpddjojgcenlkaa
