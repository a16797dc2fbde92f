/- The row of naskhlaw21.StackBack: for every level, every calls of a stack, either side, either kind the call returns true and the arguments read as they did. No condition. -/
import Derived.Test.YtflbiblkphaagaaRows
import Derived.Test.YtflbiblkphaagaaStkB
import Derived.Test.YtflbiblkphaagaaStkO
import Derived.Test.YtflbiblkphaagaaLawP
import Derived.OpenShut
import Derived.Lib.SmallJoins
namespace Go.Proofs.Ytflbiblkphaagaa
open Go.ChangeShapes Go.WideShapes Go.ChangeAt Go.RowKit Go.Joins

set_option maxRecDepth 100000 in
theorem stackBack_walk {H : Type} {enc : TypeId × Value → H} : LawWalkP H enc 5 Try.f5 := by
  intro W base args ds p hval hA
  rw [Try.params5] at hA hval
  obtain ⟨v0, v1, v2, v3, d0, d1, d2, d3, p0, p1, p2, p3, rfl, rfl, rfl, h0, h1, h2, h3⟩ := trodAll_four hA
  have k0 := hval 0 3 v0 rfl rfl
  have k1 := hval 1 22 v1 rfl rfl
  have k2 := hval 2 4 v2 rfl rfl
  have k3 := hval 3 4 v3 rfl rfl
  obtain ⟨i, rfl, rfl, rfl, f0⟩ := open_int Try.underlying3 k0 h0
  obtain ⟨A, n, c, l, rfl, hnc, hc, hr, hl, _⟩ := open_doS k1 h1
  obtain ⟨b, rfl, rfl, rfl⟩ := open_bool Try.underlying4 k2 h2
  obtain ⟨e, rfl, rfl, rfl⟩ := open_bool Try.underlying4 k3 h3
  exact stackBack_any i A n c l b e W hr hl (Nat.le_trans hnc hc)

set_option maxRecDepth 100000 in
theorem stackBack_lifted (os : Os) (started : os.Started) (H : Type) (enc : TypeId × Value → H) :
    ReturnsInHanded {} Try.checked os 5 .any (Rows.stackBackSpec.pre6 enc Try.checked.prog Try.f5 [] false) (Rows.stackBackSpec.post enc Try.prog Try.f5 false true false false) :=
  law_lifted_p started Rows.stackBackSpec 5 Try.f5 4 rfl (fun ds h => by rw [Try.params5] at h; match ds, h with | [d0, d1, d2, d3], _ => rfl) Try.func5 (by kernel_rfl) rfl Try.underlying4
    (fun t ht => by
      rw [Try.params5] at ht
      have hall : ([3, 22, 4, 4].all fun u => Try.prog.readableRec u && decide (u < Try.prog.types.size)) = true := by kernel_rfl
      have := List.all_eq_true.1 hall t (by simpa using ht)
      simpa using this)
    (ChangeSpec.witness6 (enc := enc) (C := Try.checked) (os := os) false ⟨#[], #[.int .i64 0, .slice none 0 0, .bool false, .bool false], []⟩ 8 (by kernel_rfl) (by kernel_rfl) (by kernel_rfl) (by kernel_rfl)) stackBack_walk

theorem stackBack_holds : Rows.StackBackSaid :=
  OpenClaim.holds_of_wide 5 Try.f5 rfl rfl rfl rfl rfl rfl rfl ⟨rfl, rfl, rfl, rfl, rfl⟩ rfl rfl rfl rfl rfl (by kernel_rfl) Try.func5 (by kernel_rfl)
    (of_decide_eq_true (by kernel_rfl)) (by unfold Func.isWrapper; first | (rw [if_pos (by decide +kernel)]; kernel_rfl) | (rw [if_neg (by decide +kernel)]; exact ⟨rfl, rfl⟩))
    (fun os started H enc _ => stackBack_lifted os started H enc)
#print axioms stackBack_holds
end Go.Proofs.Ytflbiblkphaagaa
