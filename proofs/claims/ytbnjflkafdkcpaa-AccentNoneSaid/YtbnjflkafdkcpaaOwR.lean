/- The block of a row has its elements' type. No function of the program. -/
import Derived.Test.YtbnjflkafdkcpaaMem2
namespace Go.Proofs.Ytbnjflkafdkcpaa
open Go.RowKit

section
variable {w : World}
theorem own_typ {e : TypeId} {base size n c g : Nat} {xs : List Value} (h : w.ownsRow base e size (.slice (some ⟨g, 0, none⟩) n c) n xs) : ∃ cs, w.heap[g]? = some (.cells cs e (0, 0)) := by
  rcases h.2 with ⟨h', _⟩ | ⟨g', cap', cur, h', _, hg, _⟩
  · simp at h'
  · simp only [Value.slice.injEq, Option.some.injEq, Addr.mk.injEq, and_true] at h'
    obtain ⟨rfl, _⟩ := h'
    exact ⟨cur, hg⟩
/-- The block of a row has its elements' type. -/
theorem own_row {e : TypeId} {base size n : Nat} {v : Value} {xs : List Value} (h : w.ownsRow base e size v n xs) : ∀ x, v.ownBlock = some x → ∃ cs, w.heap[x]? = some (.cells cs e (0, 0)) := by
  intro x hx
  rcases h.2 with ⟨rfl, _⟩ | ⟨g', cap', cur, rfl, _, hg, _⟩
  · cases hx
  · have : g' = x := by simpa [Value.ownBlock] using hx
    subst this
    exact ⟨cur, hg⟩
end
end Go.Proofs.Ytbnjflkafdkcpaa
