/- The row of naskhlaw20.ParaLevels: for every slice of classes, every direction and every span the call returns true and the arguments read as they did. No condition. -/
import Derived.Test.YtcbiaeeifclieaaRows
import Derived.Test.YtcbiaeeifclieaaPaW
import Derived.Test.YtcbiaeeifclieaaOpenR
import Derived.Test.YtcbiaeeifclieaaLawP
import Derived.OpenShut
import Derived.Lib.SmallJoins
namespace Go.Proofs.Ytcbiaeeifclieaa
open Go.ChangeShapes Go.WideShapes Go.ChangeAt Go.RowKit Go.Joins

set_option maxRecDepth 100000 in
theorem paraLevels_walk {H : Type} {enc : TypeId × Value → H} : LawWalkP H enc 6 Try.f6 := by
  intro W base args ds p hval hA
  rw [Try.params6] at hA hval
  obtain ⟨v0, v1, v2, d0, d1, d2, p0, p1, p2, rfl, rfl, rfl, h0, h1, h2⟩ := trodAll_three hA
  have k0 := hval 0 31 v0 rfl rfl
  have k1 := hval 1 3 v1 rfl rfl
  have k2 := hval 2 33 v2 rfl rfl
  obtain ⟨A, n, c, l, rfl, hnc, hc, hr, _, _⟩ := open_ints_ k0 h0
  obtain ⟨d, rfl, rfl, rfl, _⟩ := open_int Try.underlying3 k1 h1
  obtain ⟨lo, hi, rfl, f0, f1⟩ := open_span k2 h2
  exact paraLevels_any A n c l d lo hi W hr hnc (Nat.le_trans hnc hc) f0 f1

set_option maxRecDepth 100000 in
theorem paraLevels_lifted (os : Os) (started : os.Started) (H : Type) (enc : TypeId × Value → H) :
    ReturnsInHanded {} Try.checked os 6 .any (Rows.paraLevelsSpec.pre6 enc Try.checked.prog Try.f6 [] false) (Rows.paraLevelsSpec.post enc Try.prog Try.f6 false true false false) :=
  law_lifted_p started Rows.paraLevelsSpec 6 Try.f6 4 rfl (fun ds h => by rw [Try.params6] at h; match ds, h with | [d0, d1, d2], _ => rfl) Try.func6 (by kernel_rfl) rfl Try.underlying4
    (fun t ht => by
      rw [Try.params6] at ht
      have hall : ([31, 3, 33].all fun u => Try.prog.readableRec u && decide (u < Try.prog.types.size)) = true := by kernel_rfl
      have := List.all_eq_true.1 hall t (by simpa using ht)
      simpa using this)
    (ChangeSpec.witness6 (enc := enc) (C := Try.checked) (os := os) false ⟨#[], #[.slice none 0 0, .int .i64 0, .agg #[.int .i64 0, .int .i64 0]], []⟩ 8 (by kernel_rfl) (by kernel_rfl) (by kernel_rfl) (by kernel_rfl)) paraLevels_walk

theorem paraLevels_holds : Rows.ParaLevelsSaid :=
  OpenClaim.holds_of_wide 6 Try.f6 rfl rfl rfl rfl rfl rfl rfl ⟨rfl, rfl, rfl, rfl, rfl⟩ rfl rfl rfl rfl rfl (by kernel_rfl) Try.func6 (by kernel_rfl)
    (of_decide_eq_true (by kernel_rfl)) (by unfold Func.isWrapper; first | (rw [if_pos (by decide +kernel)]; kernel_rfl) | (rw [if_neg (by decide +kernel)]; exact ⟨rfl, rfl⟩))
    (fun os started H enc _ => paraLevels_lifted os started H enc)
#print axioms paraLevels_holds
end Go.Proofs.Ytcbiaeeifclieaa
