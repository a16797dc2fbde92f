/- Numbers that came in are well formed as keys. -/
import Derived.Test.YtbnjflkafdkcpaaOpenI
namespace Go.Proofs.Ytbnjflkafdkcpaa
open Go.RowKit
theorem wf_of_fit {x : Int} (h : Fit x) : (Lit.int .i64 x).wf = true := by
  unfold Fit at h
  simp [Lit.wf, IntKind.min, IntKind.max, IntKind.signed, IntKind.bits]
  omega
end Go.Proofs.Ytbnjflkafdkcpaa
