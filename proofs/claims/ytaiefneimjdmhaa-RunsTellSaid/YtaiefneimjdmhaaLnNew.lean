/- A new line in memory. No function of the program. -/
import Derived.Test.YtaiefneimjdmhaaTnM2
namespace Go.Proofs.Ytaiefneimjdmhaa
open Go.RowKit
/-- No box of a caller's own. -/
def NoX : Nat → Obj → Prop := fun _ _ => False
/-- A new line. -/
theorem lnAt_new {T E : TypeId} {b n : Nat} {w w1 : World} (ho : w1.ownsRow b 3 1 (.slice (some ⟨b, 0, none⟩) n n) n ((List.replicate n (0 : Int)).map (Value.int .i64))) (hb : Below b w w1) (hbs : b ≤ w1.heap.size) : LnAt T E NoX b w1.heap.size n [] w (w1.alloc (.cells #[.slice none 0 0, .slice (some ⟨b, 0, none⟩) n n] T)) := by
  have hlt := (ho.lt b rfl).2
  refine ⟨⟨.slice none 0 0, b, List.replicate n 0, heap_alloc_new w1 _, ⟨rfl, .inl ⟨rfl, rfl⟩⟩, ho.alloc _, ?_, by simp [Value.ownBlock], by omega, by simp [Value.ownBlock], fun k o h => h.elim⟩, hb.alloc hbs _, hbs⟩
  exact ⟨by simp, by simp, by simp, by simp, by simp, by simp⟩
end Go.Proofs.Ytaiefneimjdmhaa
