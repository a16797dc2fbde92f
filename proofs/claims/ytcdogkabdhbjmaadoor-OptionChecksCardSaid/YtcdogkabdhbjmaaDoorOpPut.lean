/- Options: kinds put into options. -/
import Derived.Test.YtcdogkabdhbjmaaDoorOpSet
import Derived.StillTailTactics
namespace Go.Proofs.YtcdogkabdhbjmaaDoor
open Go.RowKit

set_option maxRecDepth 100000 in
set_option maxHeartbeats 4000000 in
theorem opPut_any (q0 q1 q2 q3 : Int) (b : Nat) (o : Opt) (w : World) (hO : OptAt w b o) :
    Calls Tryd.prog 37 #[.agg #[.int .i64 q0, .int .i64 q1, .int .i64 q2, .int .i64 q3], .pointer (some ⟨b, 0, none⟩)] w fun e w' => e = .returned (.tuple #[]) ∧ OptAt w' b { o with d := q0, l := q1, t := q2, g := q3 } ∧ ∀ B ww, B ≤ b → B ≤ w.heap.size → Below B ww w → Below B ww w' := by
  have hO1 := hO.below (below_new w (.cells #[.int .i64 q0, .int .i64 q1, .int .i64 q2, .int .i64 q3] 47))
  obtain ⟨⟨k0, k1, k2, k3⟩, _⟩ := FourAt.new_ w q0 q1 q2 q3 47
  have c0 := hO1.1 0 _ rfl
  have c1 := hO1.1 1 _ rfl
  have c2 := hO1.1 2 _ rfl
  have c3 := hO1.1 3 _ rfl
  have f0 := hO1.2 0
  have f1 := hO1.2 1
  have f2 := hO1.2 2
  have f3 := hO1.2 3
  have hl := cell_lt c0
  simp only at hl
  have HO := Lib.hid hO1
  clear hO hO1
  go_enter Tryd.func37, Tryd.ntmps37
  go_wp2
  go_region
  go_wp2
  go_end0
  exact ⟨rfl, ((((HO.out.set0 q0).set1 q1).set2 q2).set3 q3).below (Below.refl _ _).drew, fun B ww hB hw h => (below_setB (below_setB (below_setB (below_setB (h.alloc hw _) hB _ _) hB _ _) hB _ _) hB _ _).drew⟩
end Go.Proofs.YtcdogkabdhbjmaaDoor
