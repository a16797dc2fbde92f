/- The slice type of spans. -/
import Derived.Test.YtpllgonjhljjkaaSpD
namespace Go.Proofs.Ytpllgonjhljjkaa
open Go.RowKit
theorem spanSlice : SliceOf Try.prog 89 35 2 16 := .mk_ (z := .agg #[.int .i64 0, .int .i64 0]) Try.underlying89 (by kernel_rfl) rfl
end Go.Proofs.Ytpllgonjhljjkaa
