/- The row of naskhlaw25.BrackDeep: for every byte the call returns true and the arguments read as they did. No condition. -/
import Derived.Test.YtpddjojgcenlkaaRows
import Derived.Test.YtpddjojgcenlkaaBkL3
import Derived.Test.YtpddjojgcenlkaaOpenBy
import Derived.Test.YtpddjojgcenlkaaLawP
import Derived.OpenShut
import Derived.Lib.SmallJoins
namespace Go.Proofs.Ytpddjojgcenlkaa
open Go.ChangeShapes Go.WideShapes Go.ChangeAt Go.RowKit Go.Joins

set_option maxRecDepth 100000 in
theorem brackDeep_walk {H : Type} {enc : TypeId × Value → H} : LawWalkP H enc 5 Try.f5 := by
  intro W base args ds p hval hA
  rw [Try.params5] at hA hval
  obtain ⟨v0, d0, rfl, rfl, h0⟩ := trodAll_one hA
  have k0 := hval 0 5 v0 rfl rfl
  obtain ⟨i, rfl, rfl, rfl, f0⟩ := open_int Try.underlying5 k0 h0
  obtain ⟨m, rfl, hm⟩ := byte_of_wf f0
  exact brackDeep_any m hm W

set_option maxRecDepth 100000 in
theorem brackDeep_lifted (os : Os) (started : os.Started) (H : Type) (enc : TypeId × Value → H) :
    ReturnsInHanded {} Try.checked os 5 .any (Rows.brackDeepSpec.pre6 enc Try.checked.prog Try.f5 [] false) (Rows.brackDeepSpec.post enc Try.prog Try.f5 false true false false) :=
  law_lifted_p started Rows.brackDeepSpec 5 Try.f5 4 rfl (fun ds h => by rw [Try.params5] at h; match ds, h with | [d0], _ => rfl) Try.func5 (by kernel_rfl) rfl Try.underlying4
    (fun t ht => by
      rw [Try.params5] at ht
      have hall : ([5].all fun u => Try.prog.readableRec u && decide (u < Try.prog.types.size)) = true := by kernel_rfl
      have := List.all_eq_true.1 hall t (by simpa using ht)
      simpa using this)
    (ChangeSpec.witness6 (enc := enc) (C := Try.checked) (os := os) false ⟨#[], #[.int .u8 0], []⟩ 8 (by kernel_rfl) (by kernel_rfl) (by kernel_rfl) (by kernel_rfl)) brackDeep_walk

theorem brackDeep_holds : Rows.BrackDeepSaid :=
  OpenClaim.holds_of_wide 5 Try.f5 rfl rfl rfl rfl rfl rfl rfl ⟨rfl, rfl, rfl, rfl, rfl⟩ rfl rfl rfl rfl rfl (by kernel_rfl) Try.func5 (by kernel_rfl)
    (of_decide_eq_true (by kernel_rfl)) (by unfold Func.isWrapper; first | (rw [if_pos (by decide +kernel)]; kernel_rfl) | (rw [if_neg (by decide +kernel)]; exact ⟨rfl, rfl⟩))
    (fun os started H enc _ => brackDeep_lifted os started H enc)
#print axioms brackDeep_holds
end Go.Proofs.Ytpddjojgcenlkaa
