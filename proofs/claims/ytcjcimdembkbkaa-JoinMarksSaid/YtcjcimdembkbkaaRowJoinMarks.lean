/- The row of naskhlaw13.JoinMarks: for every slice of types and every number of a byte the call returns true and the arguments read as they did. No condition. -/
import Derived.Test.YtcjcimdembkbkaaRows
import Derived.Test.YtcjcimdembkbkaaJnL4
import Derived.Test.YtcjcimdembkbkaaOpenI
import Derived.Test.YtcjcimdembkbkaaLawP
import Derived.OpenShut
import Derived.Lib.SmallJoins
namespace Go.Proofs.Ytcjcimdembkbkaa
open Go.ChangeShapes Go.WideShapes Go.ChangeAt Go.RowKit Go.Joins

set_option maxRecDepth 100000 in
theorem joinMarks_walk {H : Type} {enc : TypeId × Value → H} : LawWalkP H enc 7 Try.f7 := by
  intro W base args ds p hval hA
  rw [Try.params7] at hA hval
  obtain ⟨v0, v1, d0, d1, p0, p1, rfl, rfl, rfl, h0, h1⟩ := trodAll_two hA
  have k0 := hval 0 22 v0 rfl rfl
  have k1 := hval 1 5 v1 rfl rfl
  obtain ⟨A, n, c, l, rfl, hnc, hc, hr, _, _⟩ := open_ints_ k0 h0
  obtain ⟨i, rfl, rfl, rfl, hw⟩ := open_int Try.underlying5 k1 h1
  have hw8 : 0 ≤ i ∧ i ≤ 255 := by
    simp [Lit.wf, IntKind.min, IntKind.max, IntKind.signed, IntKind.bits] at hw
    omega
  exact joinMarks_any A n c l i W hr (Nat.le_trans hnc hc) hw8.1 hw8.2

set_option maxRecDepth 100000 in
theorem joinMarks_lifted (os : Os) (started : os.Started) (H : Type) (enc : TypeId × Value → H) :
    ReturnsInHanded {} Try.checked os 7 .any (Rows.joinMarksSpec.pre6 enc Try.checked.prog Try.f7 [] false) (Rows.joinMarksSpec.post enc Try.prog Try.f7 false true false false) :=
  law_lifted_p started Rows.joinMarksSpec 7 Try.f7 4 rfl (fun ds h => by rw [Try.params7] at h; match ds, h with | [d0, d1], _ => rfl) Try.func7 (by kernel_rfl) rfl Try.underlying4
    (fun t ht => by
      rw [Try.params7] at ht
      have hall : ([22, 5].all fun u => Try.prog.readableRec u && decide (u < Try.prog.types.size)) = true := by kernel_rfl
      have := List.all_eq_true.1 hall t (by simpa using ht)
      simpa using this)
    (ChangeSpec.witness6 (enc := enc) (C := Try.checked) (os := os) false ⟨#[], #[.slice none 0 0, .int .u8 0], []⟩ 8 (by kernel_rfl) (by kernel_rfl) (by kernel_rfl) (by kernel_rfl)) joinMarks_walk

theorem joinMarks_holds : Rows.JoinMarksSaid :=
  OpenClaim.holds_of_wide 7 Try.f7 rfl rfl rfl rfl rfl rfl rfl ⟨rfl, rfl, rfl, rfl, rfl⟩ rfl rfl rfl rfl rfl (by kernel_rfl) Try.func7 (by kernel_rfl)
    (of_decide_eq_true (by kernel_rfl)) (by unfold Func.isWrapper; first | (rw [if_pos (by decide +kernel)]; kernel_rfl) | (rw [if_neg (by decide +kernel)]; exact ⟨rfl, rfl⟩))
    (fun os started H enc _ => joinMarks_lifted os started H enc)
#print axioms joinMarks_holds
end Go.Proofs.Ytcjcimdembkbkaa
