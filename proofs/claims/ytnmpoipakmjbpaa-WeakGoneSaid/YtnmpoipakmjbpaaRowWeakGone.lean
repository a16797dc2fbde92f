/- The row of naskhlaw24.WeakGone: for every slice of classes and either side the call returns true and the arguments read as they did. No condition. -/
import Derived.Test.YtnmpoipakmjbpaaRows
import Derived.Test.YtnmpoipakmjbpaaWkL
import Derived.Test.YtnmpoipakmjbpaaOpenI
import Derived.Test.YtnmpoipakmjbpaaLawP
import Derived.OpenShut
import Derived.Lib.SmallJoins
namespace Go.Proofs.Ytnmpoipakmjbpaa
open Go.ChangeShapes Go.WideShapes Go.ChangeAt Go.RowKit Go.Joins

set_option maxRecDepth 100000 in
theorem weakGone_walk {H : Type} {enc : TypeId × Value → H} : LawWalkP H enc 6 Try.f6 := by
  intro W base args ds p hval hA
  rw [Try.params6] at hA hval
  obtain ⟨v0, v1, d0, d1, p0, p1, rfl, rfl, rfl, h0, h1⟩ := trodAll_two hA
  have k0 := hval 0 22 v0 rfl rfl
  have k1 := hval 1 4 v1 rfl rfl
  obtain ⟨A, n, c, l, rfl, hnc, hc, hr, _, _⟩ := open_ints_ k0 h0
  obtain ⟨b, rfl, rfl, rfl⟩ := open_bool Try.underlying4 k1 h1
  exact weakGone_any A n c l b W hr (Nat.le_trans hnc hc)

set_option maxRecDepth 100000 in
theorem weakGone_lifted (os : Os) (started : os.Started) (H : Type) (enc : TypeId × Value → H) :
    ReturnsInHanded {} Try.checked os 6 .any (Rows.weakGoneSpec.pre6 enc Try.checked.prog Try.f6 [] false) (Rows.weakGoneSpec.post enc Try.prog Try.f6 false true false false) :=
  law_lifted_p started Rows.weakGoneSpec 6 Try.f6 4 rfl (fun ds h => by rw [Try.params6] at h; match ds, h with | [d0, d1], _ => rfl) Try.func6 (by kernel_rfl) rfl Try.underlying4
    (fun t ht => by
      rw [Try.params6] at ht
      have hall : ([22, 4].all fun u => Try.prog.readableRec u && decide (u < Try.prog.types.size)) = true := by kernel_rfl
      have := List.all_eq_true.1 hall t (by simpa using ht)
      simpa using this)
    (ChangeSpec.witness6 (enc := enc) (C := Try.checked) (os := os) false ⟨#[], #[.slice none 0 0, .bool false], []⟩ 8 (by kernel_rfl) (by kernel_rfl) (by kernel_rfl) (by kernel_rfl)) weakGone_walk

theorem weakGone_holds : Rows.WeakGoneSaid :=
  OpenClaim.holds_of_wide 6 Try.f6 rfl rfl rfl rfl rfl rfl rfl ⟨rfl, rfl, rfl, rfl, rfl⟩ rfl rfl rfl rfl rfl (by kernel_rfl) Try.func6 (by kernel_rfl)
    (of_decide_eq_true (by kernel_rfl)) (by unfold Func.isWrapper; first | (rw [if_pos (by decide +kernel)]; kernel_rfl) | (rw [if_neg (by decide +kernel)]; exact ⟨rfl, rfl⟩))
    (fun os started H enc _ => weakGone_lifted os started H enc)
#print axioms weakGone_holds
end Go.Proofs.Ytnmpoipakmjbpaa
