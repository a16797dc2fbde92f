/- Both stacks in memory: the program's, and the reference's. -/
import Derived.Test.YtflbiblkphaagaaRsP3
import Derived.Test.YtflbiblkphaagaaRsP4
import Derived.Test.YtflbiblkphaagaaStkP3
import Derived.Test.YtflbiblkphaagaaStkP4
import Derived.Test.YtflbiblkphaagaaFew
namespace Go.Proofs.Ytflbiblkphaagaa
open Go.RowKit

structure TwoSt (w : World) (g b : Nat) (s : Stk) : Prop where
  p : StkAt w g s
  r : RsAt w b s
  sep : g + 1 < b
section
variable {w w' : World} {g b : Nat} {s t : Stk}
theorem TwoSt.low (h : TwoSt w g b s) (hb : Below w.heap.size w w') : TwoSt w' g b s := ⟨h.p.low hb, h.r.low hb, h.sep⟩
/-- Behind a call of the program's stack and one of the reference's. -/
theorem TwoSt.step {w1 w2 : World} (h : TwoSt w g b s) (h1 : StkAt w1 g t) (k1 : Kept w w1 [g]) (h2 : RsAt w2 b t) (k2 : Kept w1 w2 [b]) : TwoSt w2 g b t ∧ Kept w w2 [g, b] :=
  ⟨⟨h1.keep k2 (by have := h.sep; simp; omega), h2, h.sep⟩, (k1.moreS (by simp)).trans (k2.moreS (by simp))⟩
theorem TwoSt.ref1 {w1 : World} (h : TwoSt w g b s) (k1 : Kept w w1 [g]) : RsAt w1 b s := h.r.keep k1 (by have := h.sep; simp; omega)
/-- The other order. -/
theorem TwoSt.step2 {w1 w2 : World} (h : TwoSt w g b s) (h1 : RsAt w1 b t) (k1 : Kept w w1 [b]) (h2 : StkAt w2 g t) (k2 : Kept w1 w2 [g]) : TwoSt w2 g b t ∧ Kept w w2 [g, b] :=
  ⟨⟨h2, h1.keep k2 (by have := h.sep; simp; omega), h.sep⟩, (k1.moreS (by simp)).trans (k2.moreS (by simp))⟩
theorem TwoSt.prog1 {w1 : World} (h : TwoSt w g b s) (k1 : Kept w w1 [b]) : StkAt w1 g s := h.p.keep k1 (by have := h.sep; simp; omega)
end
end Go.Proofs.Ytflbiblkphaagaa
