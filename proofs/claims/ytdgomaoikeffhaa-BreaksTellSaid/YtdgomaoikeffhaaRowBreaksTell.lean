/- The row of naskhlaw28.BreaksTell: for every number and every slice of numbers the call returns true and the arguments read as they did. No condition. -/
import Derived.Test.YtdgomaoikeffhaaRows
import Derived.Test.YtdgomaoikeffhaaBrL1
import Derived.Test.YtdgomaoikeffhaaOpenI
import Derived.Test.YtdgomaoikeffhaaLawP
import Derived.OpenShut
import Derived.Lib.SmallJoins
namespace Go.Proofs.Ytdgomaoikeffhaa
open Go.ChangeShapes Go.WideShapes Go.ChangeAt Go.RowKit Go.Joins

set_option maxRecDepth 100000 in
theorem breaksTell_walk {H : Type} {enc : TypeId × Value → H} : LawWalkP H enc 5 Try.f5 := by
  intro W base args ds p hval hA
  rw [Try.params5] at hA hval
  obtain ⟨v0, v1, d0, d1, p0, p1, rfl, rfl, rfl, h0, h1⟩ := trodAll_two hA
  have k0 := hval 0 3 v0 rfl rfl
  have k1 := hval 1 22 v1 rfl rfl
  obtain ⟨x, rfl, rfl, rfl, f0⟩ := open_int Try.underlying3 k0 h0
  obtain ⟨A, n, c, l, rfl, hnc, hc, hr, _, _⟩ := open_ints_ k1 h1
  exact breaksTell_any x A n c l W hr (Nat.le_trans hnc hc)

set_option maxRecDepth 100000 in
theorem breaksTell_lifted (os : Os) (started : os.Started) (H : Type) (enc : TypeId × Value → H) :
    ReturnsInHanded {} Try.checked os 5 .any (Rows.breaksTellSpec.pre6 enc Try.checked.prog Try.f5 [] false) (Rows.breaksTellSpec.post enc Try.prog Try.f5 false true false false) :=
  law_lifted_p started Rows.breaksTellSpec 5 Try.f5 4 rfl (fun ds h => by rw [Try.params5] at h; match ds, h with | [d0, d1], _ => rfl) Try.func5 (by kernel_rfl) rfl Try.underlying4
    (fun t ht => by
      rw [Try.params5] at ht
      have hall : ([3, 22].all fun u => Try.prog.readableRec u && decide (u < Try.prog.types.size)) = true := by kernel_rfl
      have := List.all_eq_true.1 hall t (by simpa using ht)
      simpa using this)
    (ChangeSpec.witness6 (enc := enc) (C := Try.checked) (os := os) false ⟨#[], #[.int .i64 0, .slice none 0 0], []⟩ 8 (by kernel_rfl) (by kernel_rfl) (by kernel_rfl) (by kernel_rfl)) breaksTell_walk

theorem breaksTell_holds : Rows.BreaksTellSaid :=
  OpenClaim.holds_of_wide 5 Try.f5 rfl rfl rfl rfl rfl rfl rfl ⟨rfl, rfl, rfl, rfl, rfl⟩ rfl rfl rfl rfl rfl (by kernel_rfl) Try.func5 (by kernel_rfl)
    (of_decide_eq_true (by kernel_rfl)) (by unfold Func.isWrapper; first | (rw [if_pos (by decide +kernel)]; kernel_rfl) | (rw [if_neg (by decide +kernel)]; exact ⟨rfl, rfl⟩))
    (fun os started H enc _ => breaksTell_lifted os started H enc)
#print axioms breaksTell_holds
end Go.Proofs.Ytdgomaoikeffhaa
