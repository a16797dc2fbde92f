/- The row of naskhlaw21.StackNobody: for every number and either side the call returns true and the arguments read as they did. No condition. -/
import Derived.Test.YtflbiblkphaagaaRows
import Derived.Test.YtflbiblkphaagaaStkZ
import Derived.Test.YtflbiblkphaagaaOpenI
import Derived.Test.YtflbiblkphaagaaLawP
import Derived.OpenShut
import Derived.Lib.SmallJoins
namespace Go.Proofs.Ytflbiblkphaagaa
open Go.ChangeShapes Go.WideShapes Go.ChangeAt Go.RowKit Go.Joins

set_option maxRecDepth 100000 in
theorem stackNobody_walk {H : Type} {enc : TypeId × Value → H} : LawWalkP H enc 6 Try.f6 := by
  intro W base args ds p hval hA
  rw [Try.params6] at hA hval
  obtain ⟨v0, v1, d0, d1, p0, p1, rfl, rfl, rfl, h0, h1⟩ := trodAll_two hA
  have k0 := hval 0 3 v0 rfl rfl
  have k1 := hval 1 4 v1 rfl rfl
  obtain ⟨i, rfl, rfl, rfl, f0⟩ := open_int Try.underlying3 k0 h0
  obtain ⟨b, rfl, rfl, rfl⟩ := open_bool Try.underlying4 k1 h1
  exact stackNobody_any i b W

set_option maxRecDepth 100000 in
theorem stackNobody_lifted (os : Os) (started : os.Started) (H : Type) (enc : TypeId × Value → H) :
    ReturnsInHanded {} Try.checked os 6 .any (Rows.stackNobodySpec.pre6 enc Try.checked.prog Try.f6 [] false) (Rows.stackNobodySpec.post enc Try.prog Try.f6 false true false false) :=
  law_lifted_p started Rows.stackNobodySpec 6 Try.f6 4 rfl (fun ds h => by rw [Try.params6] at h; match ds, h with | [d0, d1], _ => rfl) Try.func6 (by kernel_rfl) rfl Try.underlying4
    (fun t ht => by
      rw [Try.params6] at ht
      have hall : ([3, 4].all fun u => Try.prog.readableRec u && decide (u < Try.prog.types.size)) = true := by kernel_rfl
      have := List.all_eq_true.1 hall t (by simpa using ht)
      simpa using this)
    (ChangeSpec.witness6 (enc := enc) (C := Try.checked) (os := os) false ⟨#[], #[.int .i64 0, .bool false], []⟩ 8 (by kernel_rfl) (by kernel_rfl) (by kernel_rfl) (by kernel_rfl)) stackNobody_walk

theorem stackNobody_holds : Rows.StackNobodySaid :=
  OpenClaim.holds_of_wide 6 Try.f6 rfl rfl rfl rfl rfl rfl rfl ⟨rfl, rfl, rfl, rfl, rfl⟩ rfl rfl rfl rfl rfl (by kernel_rfl) Try.func6 (by kernel_rfl)
    (of_decide_eq_true (by kernel_rfl)) (by unfold Func.isWrapper; first | (rw [if_pos (by decide +kernel)]; kernel_rfl) | (rw [if_neg (by decide +kernel)]; exact ⟨rfl, rfl⟩))
    (fun os started H enc _ => stackNobody_lifted os started H enc)
#print axioms stackNobody_holds
end Go.Proofs.Ytflbiblkphaagaa
