/- A list of pairs, as it is laid. -/
import Derived.Test.YtbnjflkafdkcpaaPrD
import Derived.Test.YtbnjflkafdkcpaaMem3
import Derived.Test.YtbnjflkafdkcpaaPartsD
namespace Go.Proofs.Ytbnjflkafdkcpaa
open Go.RowKit

theorem rd_new2 (w : World) (l : List Sp) (T : TypeId) : Rd (w.alloc (.cells (cellsS l).toArray T)) 2 (some ⟨w.heap.size, 0, none⟩) l.length (cellsS l) :=
  ⟨cellsS_len l, fun _ => ⟨_, rfl, by simp, cells_new w _ T⟩⟩
end Go.Proofs.Ytbnjflkafdkcpaa
