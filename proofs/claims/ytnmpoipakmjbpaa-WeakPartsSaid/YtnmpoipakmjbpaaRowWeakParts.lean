/- The row of naskhlaw24.WeakParts: for every two slices of classes and either side the call returns true and the arguments read as they did. No condition. -/
import Derived.Test.YtnmpoipakmjbpaaRows
import Derived.Test.YtnmpoipakmjbpaaWkL2
import Derived.Test.YtnmpoipakmjbpaaOpenI
import Derived.Test.YtnmpoipakmjbpaaLawP
import Derived.OpenShut
import Derived.Lib.SmallJoins
namespace Go.Proofs.Ytnmpoipakmjbpaa
open Go.ChangeShapes Go.WideShapes Go.ChangeAt Go.RowKit Go.Joins

set_option maxRecDepth 100000 in
theorem weakParts_walk {H : Type} {enc : TypeId × Value → H} : LawWalkP H enc 7 Try.f7 := by
  intro W base args ds p hval hA
  rw [Try.params7] at hA hval
  obtain ⟨v0, v1, v2, d0, d1, d2, p0, p1, p2, rfl, rfl, rfl, h0, h1, h2⟩ := trodAll_three hA
  have k0 := hval 0 22 v0 rfl rfl
  have k1 := hval 1 22 v1 rfl rfl
  have k2 := hval 2 4 v2 rfl rfl
  obtain ⟨A, n, c, l, rfl, hnc, hc, hr, _, _⟩ := open_ints_ k0 h0
  obtain ⟨B, m, d, k, rfl, hmd, hd, hs, _, _⟩ := open_ints_ k1 h1
  obtain ⟨b, rfl, rfl, rfl⟩ := open_bool Try.underlying4 k2 h2
  exact weakParts_any A B n m c d l k b W hr hs (Nat.le_trans hnc hc) (Nat.le_trans hmd hd)

set_option maxRecDepth 100000 in
theorem weakParts_lifted (os : Os) (started : os.Started) (H : Type) (enc : TypeId × Value → H) :
    ReturnsInHanded {} Try.checked os 7 .any (Rows.weakPartsSpec.pre6 enc Try.checked.prog Try.f7 [] false) (Rows.weakPartsSpec.post enc Try.prog Try.f7 false true false false) :=
  law_lifted_p started Rows.weakPartsSpec 7 Try.f7 4 rfl (fun ds h => by rw [Try.params7] at h; match ds, h with | [d0, d1, d2], _ => rfl) Try.func7 (by kernel_rfl) rfl Try.underlying4
    (fun t ht => by
      rw [Try.params7] at ht
      have hall : ([22, 22, 4].all fun u => Try.prog.readableRec u && decide (u < Try.prog.types.size)) = true := by kernel_rfl
      have := List.all_eq_true.1 hall t (by simpa using ht)
      simpa using this)
    (ChangeSpec.witness6 (enc := enc) (C := Try.checked) (os := os) false ⟨#[], #[.slice none 0 0, .slice none 0 0, .bool false], []⟩ 8 (by kernel_rfl) (by kernel_rfl) (by kernel_rfl) (by kernel_rfl)) weakParts_walk

theorem weakParts_holds : Rows.WeakPartsSaid :=
  OpenClaim.holds_of_wide 7 Try.f7 rfl rfl rfl rfl rfl rfl rfl ⟨rfl, rfl, rfl, rfl, rfl⟩ rfl rfl rfl rfl rfl (by kernel_rfl) Try.func7 (by kernel_rfl)
    (of_decide_eq_true (by kernel_rfl)) (by unfold Func.isWrapper; first | (rw [if_pos (by decide +kernel)]; kernel_rfl) | (rw [if_neg (by decide +kernel)]; exact ⟨rfl, rfl⟩))
    (fun os started H enc _ => weakParts_lifted os started H enc)
#print axioms weakParts_holds
end Go.Proofs.Ytnmpoipakmjbpaa
