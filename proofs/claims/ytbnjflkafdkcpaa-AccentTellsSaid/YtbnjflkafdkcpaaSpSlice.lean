/- The slice type of spans. -/
import Derived.Test.YtbnjflkafdkcpaaSpD
namespace Go.Proofs.Ytbnjflkafdkcpaa
open Go.RowKit
theorem spanSlice : SliceOf Try.prog 29 31 2 16 := .mk_ (z := .agg #[.int .i64 0, .int .i64 0]) Try.underlying29 (by kernel_rfl) rfl
end Go.Proofs.Ytbnjflkafdkcpaa
