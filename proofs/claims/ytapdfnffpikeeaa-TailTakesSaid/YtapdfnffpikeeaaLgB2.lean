/- Two numbers in memory. -/
import Derived.Test.YtapdfnffpikeeaaLgB
namespace Go.Proofs.Ytapdfnffpikeeaa
open Go.RowKit
theorem rdNew2 (w : World) (a b : Int) (t : TypeId) : Rd (w.alloc (.cells #[.int .i64 a, .int .i64 b] t)) 1 (some ⟨w.heap.size, 0, none⟩) 2 (([a, b] : List Int).map (Value.int .i64)) := Rd.new_ w [.int .i64 a, .int .i64 b] t
theorem pick_min (xs : List Int) (h : xs.length ≤ 1000) : pickF 9223372036854775807 xs = (0, false) ∧ pickF (-9223372036854775808 - 1) xs = (0, false) :=
  ⟨if_pos (.inr (by omega)), if_pos (.inl (by omega))⟩
end Go.Proofs.Ytapdfnffpikeeaa
