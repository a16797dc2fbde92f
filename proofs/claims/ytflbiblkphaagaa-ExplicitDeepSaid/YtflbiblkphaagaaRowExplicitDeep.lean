/- The row of naskhlaw22.ExplicitDeep: for every number of isolates and every kinds the call returns true and the arguments read as they did. No condition. -/
import Derived.Test.YtflbiblkphaagaaRows
import Derived.Test.YtflbiblkphaagaaExDeep
import Derived.Test.YtflbiblkphaagaaOpenB
import Derived.Test.YtflbiblkphaagaaLawP
import Derived.OpenShut
import Derived.Lib.SmallJoins
namespace Go.Proofs.Ytflbiblkphaagaa
open Go.ChangeShapes Go.WideShapes Go.ChangeAt Go.RowKit Go.Joins

set_option maxRecDepth 100000 in
theorem explicitDeep_walk {H : Type} {enc : TypeId × Value → H} : LawWalkP H enc 10 Try.f10 := by
  intro W base args ds p hval hA
  rw [Try.params10] at hA hval
  obtain ⟨v0, v1, d0, d1, p0, p1, rfl, rfl, rfl, h0, h1⟩ := trodAll_two hA
  have k0 := hval 0 5 v0 rfl rfl
  have k1 := hval 1 62 v1 rfl rfl
  obtain ⟨i, rfl, rfl, rfl, f0⟩ := open_int Try.underlying5 k0 h0
  obtain ⟨m, rfl, hm⟩ := byte_of_wf f0
  obtain ⟨A, n, c, l, rfl, hnc, hc, hr, _⟩ := open_bools_ k1 h1
  exact explicitDeep_any m A n c l W hr (Nat.le_trans hnc hc) hm

set_option maxRecDepth 100000 in
theorem explicitDeep_lifted (os : Os) (started : os.Started) (H : Type) (enc : TypeId × Value → H) :
    ReturnsInHanded {} Try.checked os 10 .any (Rows.explicitDeepSpec.pre6 enc Try.checked.prog Try.f10 [] false) (Rows.explicitDeepSpec.post enc Try.prog Try.f10 false true false false) :=
  law_lifted_p started Rows.explicitDeepSpec 10 Try.f10 4 rfl (fun ds h => by rw [Try.params10] at h; match ds, h with | [d0, d1], _ => rfl) Try.func10 (by kernel_rfl) rfl Try.underlying4
    (fun t ht => by
      rw [Try.params10] at ht
      have hall : ([5, 62].all fun u => Try.prog.readableRec u && decide (u < Try.prog.types.size)) = true := by kernel_rfl
      have := List.all_eq_true.1 hall t (by simpa using ht)
      simpa using this)
    (ChangeSpec.witness6 (enc := enc) (C := Try.checked) (os := os) false ⟨#[], #[.int .u8 0, .slice none 0 0], []⟩ 8 (by kernel_rfl) (by kernel_rfl) (by kernel_rfl) (by kernel_rfl)) explicitDeep_walk

theorem explicitDeep_holds : Rows.ExplicitDeepSaid :=
  OpenClaim.holds_of_wide 10 Try.f10 rfl rfl rfl rfl rfl rfl rfl ⟨rfl, rfl, rfl, rfl, rfl⟩ rfl rfl rfl rfl rfl (by kernel_rfl) Try.func10 (by kernel_rfl)
    (of_decide_eq_true (by kernel_rfl)) (by unfold Func.isWrapper; first | (rw [if_pos (by decide +kernel)]; kernel_rfl) | (rw [if_neg (by decide +kernel)]; exact ⟨rfl, rfl⟩))
    (fun os started H enc _ => explicitDeep_lifted os started H enc)
#print axioms explicitDeep_holds
end Go.Proofs.Ytflbiblkphaagaa
