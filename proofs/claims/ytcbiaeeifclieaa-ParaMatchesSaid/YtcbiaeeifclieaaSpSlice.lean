/- The slice type of spans. -/
import Derived.Test.YtcbiaeeifclieaaSpD
namespace Go.Proofs.Ytcbiaeeifclieaa
open Go.RowKit
theorem spanSlice : SliceOf Try.prog 47 33 2 16 := .mk_ (z := .agg #[.int .i64 0, .int .i64 0]) Try.underlying47 (by kernel_rfl) rfl
end Go.Proofs.Ytcbiaeeifclieaa
