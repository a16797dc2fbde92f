/- The slice type of spans. -/
import Derived.Test.YtnmefomipldalaaSpD
namespace Go.Proofs.Ytnmefomipldalaa
open Go.RowKit
theorem spanSlice : SliceOf Try.prog 55 31 2 16 := .mk_ (z := .agg #[.int .i64 0, .int .i64 0]) Try.underlying55 (by kernel_rfl) rfl
end Go.Proofs.Ytnmefomipldalaa
