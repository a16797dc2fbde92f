/- The row of naskhlaw26.NeutralBounds: for every slice of codes and every direction the call returns true and the arguments read as they did. No condition. -/
import Derived.Test.YtpddjojgcenlkaaGreatRows
import Derived.OpenShut
import Derived.Lib.SmallJoins
import Derived.Test.YtpddjojgcenlkaaGreatMgNu13
import Derived.Test.YtpddjojgcenlkaaGreatMgNu23
import Derived.Test.YtpddjojgcenlkaaGreatMgNu30
namespace Go.Proofs.YtpddjojgcenlkaaGreat
open Go.ChangeShapes Go.WideShapes Go.ChangeAt Go.RowKit Go.Joins

set_option maxRecDepth 100000 in
theorem neutralBounds_walk {H : Type} {enc : TypeId × Value → H} : LawWalkP H enc 3 Tryz.f3 := by
  intro W base args ds p hval hA
  rw [Tryz.params3] at hA hval
  obtain ⟨v0, v1, d0, d1, p0, p1, rfl, rfl, rfl, h0, h1⟩ := trodAll_two hA
  have k0 := hval 0 22 v0 rfl rfl
  have k1 := hval 1 3 v1 rfl rfl
  obtain ⟨A, n, c, l, rfl, hnc, hc, hr, _, _⟩ := open_ints_ k0 h0
  obtain ⟨d, rfl, rfl, rfl, _⟩ := open_int Tryz.underlying3 k1 h1
  exact neutralBounds_any A n c l d W hr hnc (Nat.le_trans hnc hc)

set_option maxRecDepth 100000 in
theorem neutralBounds_lifted (os : Os) (started : os.Started) (H : Type) (enc : TypeId × Value → H) :
    ReturnsInHanded {} Tryz.checked os 3 .any (Rows.neutralBoundsSpec.pre6 enc Tryz.checked.prog Tryz.f3 [] false) (Rows.neutralBoundsSpec.post enc Tryz.prog Tryz.f3 false true false false) :=
  law_lifted_p started Rows.neutralBoundsSpec 3 Tryz.f3 4 rfl (fun ds h => by rw [Tryz.params3] at h; match ds, h with | [d0, d1], _ => rfl) Tryz.func3 (by kernel_rfl) rfl Tryz.underlying4
    (fun t ht => by
      rw [Tryz.params3] at ht
      have hall : ([22, 3].all fun u => Tryz.prog.readableRec u && decide (u < Tryz.prog.types.size)) = true := by kernel_rfl
      have := List.all_eq_true.1 hall t (by simpa using ht)
      simpa using this)
    (ChangeSpec.witness6 (enc := enc) (C := Tryz.checked) (os := os) false ⟨#[], #[.slice none 0 0, .int .i64 0], []⟩ 8 (by kernel_rfl) (by kernel_rfl) (by kernel_rfl) (by kernel_rfl)) neutralBounds_walk

theorem neutralBounds_holds : Rows.NeutralBoundsSaid :=
  OpenClaim.holds_of_wide 3 Tryz.f3 rfl rfl rfl rfl rfl rfl rfl ⟨rfl, rfl, rfl, rfl, rfl⟩ rfl rfl rfl rfl rfl (by kernel_rfl) Tryz.func3 (by kernel_rfl)
    (of_decide_eq_true (by kernel_rfl)) (by unfold Func.isWrapper; first | (rw [if_pos (by decide +kernel)]; kernel_rfl) | (rw [if_neg (by decide +kernel)]; exact ⟨rfl, rfl⟩))
    (fun os started H enc _ => neutralBounds_lifted os started H enc)
#print axioms neutralBounds_holds
end Go.Proofs.YtpddjojgcenlkaaGreat
