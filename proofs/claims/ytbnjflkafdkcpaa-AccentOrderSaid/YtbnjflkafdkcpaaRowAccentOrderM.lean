/- The row of naskhlaw31.AccentOrder: for every slice of numbers and every slice of bools the call returns true and the arguments read as they did. No condition. -/
import Derived.Test.YtbnjflkafdkcpaaRows
import Derived.OpenShut
import Derived.Lib.SmallJoins
import Derived.Test.YtbnjflkafdkcpaaMgAo9
import Derived.Test.YtbnjflkafdkcpaaMgAo11
import Derived.Test.YtbnjflkafdkcpaaMgAo12
namespace Go.Proofs.Ytbnjflkafdkcpaa
open Go.ChangeShapes Go.WideShapes Go.ChangeAt Go.RowKit Go.Joins

set_option maxRecDepth 100000 in
theorem accentOrder_walk {H : Type} {enc : TypeId × Value → H} : LawWalkP H enc 4 Try.f4 := by
  intro W base args ds p hval hA
  rw [Try.params4] at hA hval
  obtain ⟨v0, v1, d0, d1, p0, p1, rfl, rfl, rfl, h0, h1⟩ := trodAll_two hA
  have k0 := hval 0 22 v0 rfl rfl
  have k1 := hval 1 23 v1 rfl rfl
  obtain ⟨A, n, c, l, rfl, hnc, hc, hr, _, _⟩ := open_ints_ k0 h0
  obtain ⟨B, m, d, k, rfl, hmd, hd, hs, _⟩ := open_bools_ k1 h1
  exact accentOrder_any A B n c m d l k W hr hs

set_option maxRecDepth 100000 in
theorem accentOrder_lifted (os : Os) (started : os.Started) (H : Type) (enc : TypeId × Value → H) :
    ReturnsInHanded {} Try.checked os 4 .any (Rows.accentOrderSpec.pre6 enc Try.checked.prog Try.f4 [] false) (Rows.accentOrderSpec.post enc Try.prog Try.f4 false true false false) :=
  law_lifted_p started Rows.accentOrderSpec 4 Try.f4 4 rfl (fun ds h => by rw [Try.params4] at h; match ds, h with | [d0, d1], _ => rfl) Try.func4 (by kernel_rfl) rfl Try.underlying4
    (fun t ht => by
      rw [Try.params4] at ht
      have hall : ([22, 23].all fun u => Try.prog.readableRec u && decide (u < Try.prog.types.size)) = true := by kernel_rfl
      have := List.all_eq_true.1 hall t (by simpa using ht)
      simpa using this)
    (ChangeSpec.witness6 (enc := enc) (C := Try.checked) (os := os) false ⟨#[], #[.slice none 0 0, .slice none 0 0], []⟩ 8 (by kernel_rfl) (by kernel_rfl) (by kernel_rfl) (by kernel_rfl)) accentOrder_walk

theorem accentOrder_holds : Rows.AccentOrderSaid :=
  OpenClaim.holds_of_wide 4 Try.f4 rfl rfl rfl rfl rfl rfl rfl ⟨rfl, rfl, rfl, rfl, rfl⟩ rfl rfl rfl rfl rfl (by kernel_rfl) Try.func4 (by kernel_rfl)
    (of_decide_eq_true (by kernel_rfl)) (by unfold Func.isWrapper; first | (rw [if_pos (by decide +kernel)]; kernel_rfl) | (rw [if_neg (by decide +kernel)]; exact ⟨rfl, rfl⟩))
    (fun os started H enc _ => accentOrder_lifted os started H enc)
#print axioms accentOrder_holds
end Go.Proofs.Ytbnjflkafdkcpaa
