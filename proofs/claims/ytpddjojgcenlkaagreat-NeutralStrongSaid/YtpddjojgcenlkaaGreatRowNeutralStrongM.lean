/- The row of naskhlaw26.NeutralStrong: for every slice of codes and every direction the call returns true and the arguments read as they did. No condition. -/
import Derived.Test.YtpddjojgcenlkaaGreatRows
import Derived.OpenShut
import Derived.Lib.SmallJoins
import Derived.Test.YtpddjojgcenlkaaGreatMgNu13
import Derived.Test.YtpddjojgcenlkaaGreatMgNu23
import Derived.Test.YtpddjojgcenlkaaGreatMgNu30
namespace Go.Proofs.YtpddjojgcenlkaaGreat
open Go.ChangeShapes Go.WideShapes Go.ChangeAt Go.RowKit Go.Joins

set_option maxRecDepth 100000 in
theorem neutralStrong_walk {H : Type} {enc : TypeId × Value → H} : LawWalkP H enc 4 Tryz.f4 := by
  intro W base args ds p hval hA
  rw [Tryz.params4] at hA hval
  obtain ⟨v0, v1, d0, d1, p0, p1, rfl, rfl, rfl, h0, h1⟩ := trodAll_two hA
  have k0 := hval 0 22 v0 rfl rfl
  have k1 := hval 1 3 v1 rfl rfl
  obtain ⟨A, n, c, l, rfl, hnc, hc, hr, _, _⟩ := open_ints_ k0 h0
  obtain ⟨d, rfl, rfl, rfl, _⟩ := open_int Tryz.underlying3 k1 h1
  exact neutralStrong_any A n c l d W hr hnc (Nat.le_trans hnc hc)

set_option maxRecDepth 100000 in
theorem neutralStrong_lifted (os : Os) (started : os.Started) (H : Type) (enc : TypeId × Value → H) :
    ReturnsInHanded {} Tryz.checked os 4 .any (Rows.neutralStrongSpec.pre6 enc Tryz.checked.prog Tryz.f4 [] false) (Rows.neutralStrongSpec.post enc Tryz.prog Tryz.f4 false true false false) :=
  law_lifted_p started Rows.neutralStrongSpec 4 Tryz.f4 4 rfl (fun ds h => by rw [Tryz.params4] at h; match ds, h with | [d0, d1], _ => rfl) Tryz.func4 (by kernel_rfl) rfl Tryz.underlying4
    (fun t ht => by
      rw [Tryz.params4] at ht
      have hall : ([22, 3].all fun u => Tryz.prog.readableRec u && decide (u < Tryz.prog.types.size)) = true := by kernel_rfl
      have := List.all_eq_true.1 hall t (by simpa using ht)
      simpa using this)
    (ChangeSpec.witness6 (enc := enc) (C := Tryz.checked) (os := os) false ⟨#[], #[.slice none 0 0, .int .i64 0], []⟩ 8 (by kernel_rfl) (by kernel_rfl) (by kernel_rfl) (by kernel_rfl)) neutralStrong_walk

theorem neutralStrong_holds : Rows.NeutralStrongSaid :=
  OpenClaim.holds_of_wide 4 Tryz.f4 rfl rfl rfl rfl rfl rfl rfl ⟨rfl, rfl, rfl, rfl, rfl⟩ rfl rfl rfl rfl rfl (by kernel_rfl) Tryz.func4 (by kernel_rfl)
    (of_decide_eq_true (by kernel_rfl)) (by unfold Func.isWrapper; first | (rw [if_pos (by decide +kernel)]; kernel_rfl) | (rw [if_neg (by decide +kernel)]; exact ⟨rfl, rfl⟩))
    (fun os started H enc _ => neutralStrong_lifted os started H enc)
#print axioms neutralStrong_holds
end Go.Proofs.YtpddjojgcenlkaaGreat
