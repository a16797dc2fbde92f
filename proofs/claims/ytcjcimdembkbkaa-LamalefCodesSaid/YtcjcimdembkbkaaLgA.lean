/- The given ligatures in memory. -/
import Derived.Test.YtcjcimdembkbkaaFmD
namespace Go.Proofs.Ytcjcimdembkbkaa
open Go.RowKit
theorem rd_newG (w : World) (l : List Rg) (T : TypeId) : Rd (w.alloc (.cells (cellsG l).toArray T)) 3 (some ⟨w.heap.size, 0, none⟩) l.length (cellsG l) :=
  ⟨cellsG_len l, fun _ => ⟨_, rfl, by simp, cells_new w _ T⟩⟩
set_option maxRecDepth 1000000 in
set_option maxHeartbeats 4000000 in
theorem ligatures_any (w : World) : Calls Try.prog 61 #[] w fun e w' => (∃ A, e = .returned (.slice A 4 4) ∧ Rd w' 3 A 4 (cellsG ligL)) ∧ Below w.heap.size w w' := by
  go_enter Try.func61, Try.ntmps61
  go_wp2
  go_ret
  exact ⟨⟨_, rfl, rd_newG w ligL _⟩, below_new _ _⟩
end Go.Proofs.Ytcjcimdembkbkaa
