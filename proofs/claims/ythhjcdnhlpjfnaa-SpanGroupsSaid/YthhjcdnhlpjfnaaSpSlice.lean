/- The slice type of spans. -/
import Derived.Test.YthhjcdnhlpjfnaaSpD
namespace Go.Proofs.Ythhjcdnhlpjfnaa
open Go.RowKit
theorem spanSlice : SliceOf Try.prog 22 27 2 16 := .mk_ (z := .agg #[.int .i64 0, .int .i64 0]) Try.underlying22 (by kernel_rfl) rfl
end Go.Proofs.Ythhjcdnhlpjfnaa
