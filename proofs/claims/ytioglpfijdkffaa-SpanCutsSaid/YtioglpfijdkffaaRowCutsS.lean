/- The row of naskhlaw03.SpanCuts: for every span and every slice of places the call returns true and the arguments read as they did. No condition. -/
import Derived.Test.YtioglpfijdkffaaRows
import Derived.Test.YtioglpfijdkffaaCutsS
import Derived.Test.YtioglpfijdkffaaOpenR
import Derived.Test.YtioglpfijdkffaaLawP
import Derived.OpenShut
import Derived.Lib.SmallJoins
namespace Go.Proofs.Ytioglpfijdkffaa
open Go.ChangeShapes Go.WideShapes Go.ChangeAt Go.RowKit Go.Joins

set_option maxRecDepth 100000 in
theorem spanCuts_walk {H : Type} {enc : TypeId × Value → H} : LawWalkP H enc 5 Try.f5 := by
  intro W base args ds p hval hA
  rw [Try.params5] at hA hval
  obtain ⟨v0, v1, d0, d1, p0, p1, rfl, rfl, rfl, h0, h1⟩ := trodAll_two hA
  have k0 := hval 0 23 v0 rfl rfl
  have k1 := hval 1 34 v1 rfl rfl
  obtain ⟨lo, hi, rfl, _, f1⟩ := open_span k0 h0
  obtain ⟨A, n, c, l, rfl, hnc, hc, hr, _, _⟩ := open_ints_ k1 h1
  exact spanCuts_any lo hi A n c l W hr

set_option maxRecDepth 100000 in
theorem spanCuts_lifted (os : Os) (started : os.Started) (H : Type) (enc : TypeId × Value → H) :
    ReturnsInHanded {} Try.checked os 5 .any (Rows.spanCutsSpec.pre6 enc Try.checked.prog Try.f5 [] false) (Rows.spanCutsSpec.post enc Try.prog Try.f5 false true false false) :=
  law_lifted_p started Rows.spanCutsSpec 5 Try.f5 4 rfl (fun ds h => by rw [Try.params5] at h; match ds, h with | [d0, d1], _ => rfl) Try.func5 (by kernel_rfl) rfl Try.underlying4
    (fun t ht => by
      rw [Try.params5] at ht
      have hall : ([23, 34].all fun u => Try.prog.readableRec u && decide (u < Try.prog.types.size)) = true := by kernel_rfl
      have := List.all_eq_true.1 hall t (by simpa using ht)
      simpa using this)
    (ChangeSpec.witness6 (enc := enc) (C := Try.checked) (os := os) false ⟨#[], #[.agg #[.int .i64 0, .int .i64 0], .slice none 0 0], []⟩ 8 (by kernel_rfl) (by kernel_rfl) (by kernel_rfl) (by kernel_rfl)) spanCuts_walk

theorem spanCuts_holds : Rows.SpanCutsSaid :=
  OpenClaim.holds_of_wide 5 Try.f5 rfl rfl rfl rfl rfl rfl rfl ⟨rfl, rfl, rfl, rfl, rfl⟩ rfl rfl rfl rfl rfl (by kernel_rfl) Try.func5 (by kernel_rfl)
    (of_decide_eq_true (by kernel_rfl)) (by unfold Func.isWrapper; first | (rw [if_pos (by decide +kernel)]; kernel_rfl) | (rw [if_neg (by decide +kernel)]; exact ⟨rfl, rfl⟩))
    (fun os started H enc _ => spanCuts_lifted os started H enc)
#print axioms spanCuts_holds
end Go.Proofs.Ytioglpfijdkffaa
