/- The slice type of pairs. -/
import Derived.Test.YtpddjojgcenlkaaMem
namespace Go.Proofs.Ytpddjojgcenlkaa
open Go.RowKit
theorem pairSliceR : SliceOf Try.prog 25 27 2 16 := .mk_ (z := .agg #[.int .i64 0, .int .i64 0]) Try.underlying25 (by kernel_rfl) rfl
end Go.Proofs.Ytpddjojgcenlkaa
