/- The row of naskhlaw21.StackLives: for every level and every calls of a stack the call returns true and the arguments read as they did. No condition. -/
import Derived.Test.YtflbiblkphaagaaRows
import Derived.Test.YtflbiblkphaagaaStkL
import Derived.Test.YtflbiblkphaagaaStkO
import Derived.Test.YtflbiblkphaagaaLawP
import Derived.OpenShut
import Derived.Lib.SmallJoins
namespace Go.Proofs.Ytflbiblkphaagaa
open Go.ChangeShapes Go.WideShapes Go.ChangeAt Go.RowKit Go.Joins

set_option maxRecDepth 100000 in
theorem stackLives_walk {H : Type} {enc : TypeId × Value → H} : LawWalkP H enc 3 Try.f3 := by
  intro W base args ds p hval hA
  rw [Try.params3] at hA hval
  obtain ⟨v0, v1, d0, d1, p0, p1, rfl, rfl, rfl, h0, h1⟩ := trodAll_two hA
  have k0 := hval 0 3 v0 rfl rfl
  have k1 := hval 1 22 v1 rfl rfl
  obtain ⟨i, rfl, rfl, rfl, f0⟩ := open_int Try.underlying3 k0 h0
  obtain ⟨A, n, c, l, rfl, hnc, hc, hr, hl, _⟩ := open_doS k1 h1
  exact stackLives_any i A n c l W hr hl (Nat.le_trans hnc hc)

set_option maxRecDepth 100000 in
theorem stackLives_lifted (os : Os) (started : os.Started) (H : Type) (enc : TypeId × Value → H) :
    ReturnsInHanded {} Try.checked os 3 .any (Rows.stackLivesSpec.pre6 enc Try.checked.prog Try.f3 [] false) (Rows.stackLivesSpec.post enc Try.prog Try.f3 false true false false) :=
  law_lifted_p started Rows.stackLivesSpec 3 Try.f3 4 rfl (fun ds h => by rw [Try.params3] at h; match ds, h with | [d0, d1], _ => rfl) Try.func3 (by kernel_rfl) rfl Try.underlying4
    (fun t ht => by
      rw [Try.params3] at ht
      have hall : ([3, 22].all fun u => Try.prog.readableRec u && decide (u < Try.prog.types.size)) = true := by kernel_rfl
      have := List.all_eq_true.1 hall t (by simpa using ht)
      simpa using this)
    (ChangeSpec.witness6 (enc := enc) (C := Try.checked) (os := os) false ⟨#[], #[.int .i64 0, .slice none 0 0], []⟩ 8 (by kernel_rfl) (by kernel_rfl) (by kernel_rfl) (by kernel_rfl)) stackLives_walk

theorem stackLives_holds : Rows.StackLivesSaid :=
  OpenClaim.holds_of_wide 3 Try.f3 rfl rfl rfl rfl rfl rfl rfl ⟨rfl, rfl, rfl, rfl, rfl⟩ rfl rfl rfl rfl rfl (by kernel_rfl) Try.func3 (by kernel_rfl)
    (of_decide_eq_true (by kernel_rfl)) (by unfold Func.isWrapper; first | (rw [if_pos (by decide +kernel)]; kernel_rfl) | (rw [if_neg (by decide +kernel)]; exact ⟨rfl, rfl⟩))
    (fun os started H enc _ => stackLives_lifted os started H enc)
#print axioms stackLives_holds
end Go.Proofs.Ytflbiblkphaagaa
