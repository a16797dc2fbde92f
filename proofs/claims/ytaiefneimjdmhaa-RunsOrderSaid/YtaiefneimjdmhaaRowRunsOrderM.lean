/- The row of naskhlaw30.RunsOrder: for every slice of numbers and every slice of runs the call returns true and the arguments read as they did. No condition. -/
import Derived.Test.YtaiefneimjdmhaaRows
import Derived.OpenShut
import Derived.Lib.SmallJoins
import Derived.Test.YtaiefneimjdmhaaMgRo7
import Derived.Test.YtaiefneimjdmhaaMgRo9
import Derived.Test.YtaiefneimjdmhaaMgRo10
namespace Go.Proofs.Ytaiefneimjdmhaa
open Go.ChangeShapes Go.WideShapes Go.ChangeAt Go.RowKit Go.Joins

set_option maxRecDepth 100000 in
theorem runsOrder_walk {H : Type} {enc : TypeId × Value → H} : LawWalkP H enc 8 Try.f8 := by
  intro W base args ds p hval hA
  rw [Try.params8] at hA hval
  obtain ⟨v0, v1, d0, d1, p0, p1, rfl, rfl, rfl, h0, h1⟩ := trodAll_two hA
  have k0 := hval 0 22 v0 rfl rfl
  have k1 := hval 1 34 v1 rfl rfl
  obtain ⟨A, n, c, l, rfl, hnc, hc, hr, _, _⟩ := open_ints_ k0 h0
  obtain ⟨B, m, d, k, rfl, hmd, hd, hs, _, _⟩ := open_runs k1 h1
  exact runsOrder_any A B n c m d l k W hr hs (Nat.le_trans hnc hc) (Nat.le_trans hmd hd)

set_option maxRecDepth 100000 in
theorem runsOrder_lifted (os : Os) (started : os.Started) (H : Type) (enc : TypeId × Value → H) :
    ReturnsInHanded {} Try.checked os 8 .any (Rows.runsOrderSpec.pre6 enc Try.checked.prog Try.f8 [] false) (Rows.runsOrderSpec.post enc Try.prog Try.f8 false true false false) :=
  law_lifted_p started Rows.runsOrderSpec 8 Try.f8 4 rfl (fun ds h => by rw [Try.params8] at h; match ds, h with | [d0, d1], _ => rfl) Try.func8 (by kernel_rfl) rfl Try.underlying4
    (fun t ht => by
      rw [Try.params8] at ht
      have hall : ([22, 34].all fun u => Try.prog.readableRec u && decide (u < Try.prog.types.size)) = true := by kernel_rfl
      have := List.all_eq_true.1 hall t (by simpa using ht)
      simpa using this)
    (ChangeSpec.witness6 (enc := enc) (C := Try.checked) (os := os) false ⟨#[], #[.slice none 0 0, .slice none 0 0], []⟩ 8 (by kernel_rfl) (by kernel_rfl) (by kernel_rfl) (by kernel_rfl)) runsOrder_walk

theorem runsOrder_holds : Rows.RunsOrderSaid :=
  OpenClaim.holds_of_wide 8 Try.f8 rfl rfl rfl rfl rfl rfl rfl ⟨rfl, rfl, rfl, rfl, rfl⟩ rfl rfl rfl rfl rfl (by kernel_rfl) Try.func8 (by kernel_rfl)
    (of_decide_eq_true (by kernel_rfl)) (by unfold Func.isWrapper; first | (rw [if_pos (by decide +kernel)]; kernel_rfl) | (rw [if_neg (by decide +kernel)]; exact ⟨rfl, rfl⟩))
    (fun os started H enc _ => runsOrder_lifted os started H enc)
#print axioms runsOrder_holds
end Go.Proofs.Ytaiefneimjdmhaa
