/- The row of naskhlaw30.RunsParts: for every slice of numbers the call returns true and the arguments read as they did. No condition. -/
import Derived.Test.YtaiefneimjdmhaaRows
import Derived.Test.YtaiefneimjdmhaaRuL3
import Derived.Test.YtaiefneimjdmhaaOpenI
import Derived.Test.YtaiefneimjdmhaaLawP
import Derived.OpenShut
import Derived.Lib.SmallJoins
namespace Go.Proofs.Ytaiefneimjdmhaa
open Go.ChangeShapes Go.WideShapes Go.ChangeAt Go.RowKit Go.Joins

set_option maxRecDepth 100000 in
theorem runsParts_walk {H : Type} {enc : TypeId × Value → H} : LawWalkP H enc 9 Try.f9 := by
  intro W base args ds p hval hA
  rw [Try.params9] at hA hval
  obtain ⟨v0, d0, rfl, rfl, h0⟩ := trodAll_one hA
  have k0 := hval 0 22 v0 rfl rfl
  obtain ⟨A, n, c, l, rfl, hnc, hc, hr, _, _⟩ := open_ints_ k0 h0
  exact runsParts_any A n c l W hr (Nat.le_trans hnc hc)

set_option maxRecDepth 100000 in
theorem runsParts_lifted (os : Os) (started : os.Started) (H : Type) (enc : TypeId × Value → H) :
    ReturnsInHanded {} Try.checked os 9 .any (Rows.runsPartsSpec.pre6 enc Try.checked.prog Try.f9 [] false) (Rows.runsPartsSpec.post enc Try.prog Try.f9 false true false false) :=
  law_lifted_p started Rows.runsPartsSpec 9 Try.f9 4 rfl (fun ds h => by rw [Try.params9] at h; match ds, h with | [d0], _ => rfl) Try.func9 (by kernel_rfl) rfl Try.underlying4
    (fun t ht => by
      rw [Try.params9] at ht
      have hall : ([22].all fun u => Try.prog.readableRec u && decide (u < Try.prog.types.size)) = true := by kernel_rfl
      have := List.all_eq_true.1 hall t (by simpa using ht)
      simpa using this)
    (ChangeSpec.witness6 (enc := enc) (C := Try.checked) (os := os) false ⟨#[], #[.slice none 0 0], []⟩ 8 (by kernel_rfl) (by kernel_rfl) (by kernel_rfl) (by kernel_rfl)) runsParts_walk

theorem runsParts_holds : Rows.RunsPartsSaid :=
  OpenClaim.holds_of_wide 9 Try.f9 rfl rfl rfl rfl rfl rfl rfl ⟨rfl, rfl, rfl, rfl, rfl⟩ rfl rfl rfl rfl rfl (by kernel_rfl) Try.func9 (by kernel_rfl)
    (of_decide_eq_true (by kernel_rfl)) (by unfold Func.isWrapper; first | (rw [if_pos (by decide +kernel)]; kernel_rfl) | (rw [if_neg (by decide +kernel)]; exact ⟨rfl, rfl⟩))
    (fun os started H enc _ => runsParts_lifted os started H enc)
#print axioms runsParts_holds
end Go.Proofs.Ytaiefneimjdmhaa
