/- The reference's flags and Bits of options. -/
import Derived.Test.YtcdogkabdhbjmaaDoorOpR3
import Derived.Test.YtcdogkabdhbjmaaDoorOpB
import Derived.StillTailTactics
namespace Go.Proofs.YtcdogkabdhbjmaaDoor
open Go.RowKit

set_option maxRecDepth 100000 in
set_option maxHeartbeats 4000000 in
theorem refFlags_any (o : Opt) (w : World) :
    Calls Tryd.prog 35 #[.agg #[.int .i64 o.d, .int .i64 o.l, .int .i64 o.t, .int .i64 o.g, .bool o.b0, .bool o.b1, .bool o.b2, .bool o.b3, .bool o.b4, .bool o.b5, .bool o.b6, .bool o.b7, .bool o.b8, .bool o.b9]] w fun e w' => (∃ g, e = .returned (.slice (some ⟨g, 0, none⟩) 10 10) ∧ Rd w' 1 (some ⟨g, 0, none⟩) 10 (o.flags.map Value.bool)) ∧ Below w.heap.size w w' := by
  obtain ⟨d, l, t, g, b0, b1, b2, b3, b4, b5, b6, b7, b8, b9⟩ := o
  simp only
  go_enter Tryd.func35, Tryd.ntmps35
  go_wp2
  go_ret
  refine ⟨⟨_, rfl, ?_⟩, below_self (below_new _ _) (below_new _ _)⟩
  have := rdBools (w.alloc (.cells #[.int .i64 d, .int .i64 l, .int .i64 t, .int .i64 g, .bool b0, .bool b1, .bool b2, .bool b3, .bool b4, .bool b5, .bool b6, .bool b7, .bool b8, .bool b9] 23)) [b0, b1, b2, b3, b4, b5, b6, b7, b8, b9] 4
  simpa [Opt.flags] using this
end Go.Proofs.YtcdogkabdhbjmaaDoor
