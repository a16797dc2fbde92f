/- The row of naskhlaw08.PairsBack: for every two numbers the call returns true and the arguments read as they did. No condition. -/
import Derived.Test.YtmjpblpdmhblbaaRows
import Derived.Test.YtmjpblpdmhblbaaPrL
import Derived.Test.YtmjpblpdmhblbaaLawP
import Derived.OpenShut
import Derived.Lib.SmallJoins
namespace Go.Proofs.Ytmjpblpdmhblbaa
open Go.ChangeShapes Go.WideShapes Go.ChangeAt Go.RowKit Go.Joins

set_option maxRecDepth 100000 in
theorem pairsBack_walk {H : Type} {enc : TypeId × Value → H} : LawWalkP H enc 9 Try.f9 := by
  intro W base args ds p hval hA
  rw [Try.params9] at hA hval
  obtain ⟨v0, v1, d0, d1, p0, p1, rfl, rfl, rfl, h0, h1⟩ := trodAll_two hA
  have k0 := hval 0 3 v0 rfl rfl
  have k1 := hval 1 3 v1 rfl rfl
  obtain ⟨m, rfl, rfl, rfl, _⟩ := open_int Try.underlying3 k0 h0
  obtain ⟨u, rfl, rfl, rfl, _⟩ := open_int Try.underlying3 k1 h1
  exact pairsBack_any m u W

set_option maxRecDepth 100000 in
theorem pairsBack_lifted (os : Os) (started : os.Started) (H : Type) (enc : TypeId × Value → H) :
    ReturnsInHanded {} Try.checked os 9 .any (Rows.pairsBackSpec.pre6 enc Try.checked.prog Try.f9 [] false) (Rows.pairsBackSpec.post enc Try.prog Try.f9 false true false false) :=
  law_lifted_p started Rows.pairsBackSpec 9 Try.f9 4 rfl (fun ds h => by rw [Try.params9] at h; match ds, h with | [d0, d1], _ => rfl) Try.func9 (by kernel_rfl) rfl Try.underlying4
    (fun t ht => by
      rw [Try.params9] at ht
      have hall : ([3, 3].all fun u => Try.prog.readableRec u && decide (u < Try.prog.types.size)) = true := by kernel_rfl
      have := List.all_eq_true.1 hall t (by simpa using ht)
      simpa using this)
    (ChangeSpec.witness6 (enc := enc) (C := Try.checked) (os := os) false ⟨#[], #[.int .i64 0, .int .i64 0], []⟩ 8 (by kernel_rfl) (by kernel_rfl) (by kernel_rfl) (by kernel_rfl)) pairsBack_walk

theorem pairsBack_holds : Rows.PairsBackSaid :=
  OpenClaim.holds_of_wide 9 Try.f9 rfl rfl rfl rfl rfl rfl rfl ⟨rfl, rfl, rfl, rfl, rfl⟩ rfl rfl rfl rfl rfl (by kernel_rfl) Try.func9 (by kernel_rfl)
    (of_decide_eq_true (by kernel_rfl)) (by unfold Func.isWrapper; first | (rw [if_pos (by decide +kernel)]; kernel_rfl) | (rw [if_neg (by decide +kernel)]; exact ⟨rfl, rfl⟩))
    (fun os started H enc _ => pairsBack_lifted os started H enc)
#print axioms pairsBack_holds
end Go.Proofs.Ytmjpblpdmhblbaa
