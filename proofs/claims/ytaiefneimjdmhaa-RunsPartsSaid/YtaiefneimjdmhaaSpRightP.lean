/- prRight_any. -/
import Derived.Test.YtaiefneimjdmhaaSpD
namespace Go.Proofs.Ytaiefneimjdmhaa
open Go.RowKit

theorem prRight_any (lo hi : Int) (w : World) :
    Calls Try.prog 47 #[.agg #[.int .i64 lo, .int .i64 hi]] w fun e w' => e = .returned (.bool (rightB (lo, hi))) ∧ Below w.heap.size w w' := by
  have hc : lo < 0 ∨ (0 ≤ lo ∧ lo < hi) ∨ (0 ≤ lo ∧ hi ≤ lo) := by omega
  rcases hc with h | ⟨h, h'⟩ | ⟨h, h'⟩ <;>
    (go_enter Try.func47, Try.ntmps47
     go_wp2
     go_ret
     refine ⟨retB ?_, below_new _ _⟩
     simp [rightB]
     try omega)

end Go.Proofs.Ytaiefneimjdmhaa
