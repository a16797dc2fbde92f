/- The slice type of spans. -/
import Derived.Test.YtaiefneimjdmhaaSpD
namespace Go.Proofs.Ytaiefneimjdmhaa
open Go.RowKit
theorem spanSlice : SliceOf Try.prog 42 36 2 16 := .mk_ (z := .agg #[.int .i64 0, .int .i64 0]) Try.underlying42 (by kernel_rfl) rfl
end Go.Proofs.Ytaiefneimjdmhaa
