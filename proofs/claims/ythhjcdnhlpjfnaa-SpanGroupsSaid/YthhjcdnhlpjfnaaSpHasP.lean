/- prHas_any. -/
import Derived.Test.YthhjcdnhlpjfnaaSpD
namespace Go.Proofs.Ythhjcdnhlpjfnaa
open Go.RowKit

theorem prHas_any (lo hi p : Int) (w : World) :
    Calls Try.prog 39 #[.agg #[.int .i64 lo, .int .i64 hi], .int .i64 p] w fun e w' => e = .returned (.bool (hasB (lo, hi) p)) ∧ Below w.heap.size w w' := by
  have hc : p < lo ∨ (lo ≤ p ∧ p < hi) ∨ (lo ≤ p ∧ hi ≤ p) := by omega
  rcases hc with h | ⟨h, h'⟩ | ⟨h, h'⟩ <;>
    (go_enter Try.func39, Try.ntmps39
     go_wp2
     go_ret
     refine ⟨retB ?_, below_new _ _⟩
     simp [hasB]
     try omega)

end Go.Proofs.Ythhjcdnhlpjfnaa
