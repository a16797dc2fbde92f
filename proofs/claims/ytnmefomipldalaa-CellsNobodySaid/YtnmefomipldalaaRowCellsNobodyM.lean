/- The row of naskhlaw12.CellsNobody: for every number, every slice of codes and every span the call returns true and the arguments read as they did. No condition. -/
import Derived.Test.YtnmefomipldalaaRows
import Derived.OpenShut
import Derived.Lib.SmallJoins
import Derived.Test.YtnmefomipldalaaMgN7
import Derived.Test.YtnmefomipldalaaMgN15
import Derived.Test.YtnmefomipldalaaMgN21
namespace Go.Proofs.Ytnmefomipldalaa
open Go.ChangeShapes Go.WideShapes Go.ChangeAt Go.RowKit Go.Joins

set_option maxRecDepth 100000 in
theorem cellsNobody_walk {H : Type} {enc : TypeId × Value → H} : LawWalkP H enc 11 Try.f11 := by
  intro W base args ds p hval hA
  rw [Try.params11] at hA hval
  obtain ⟨v0, v1, v2, d0, d1, d2, p0, p1, p2, rfl, rfl, rfl, h0, h1, h2⟩ := trodAll_three hA
  have k0 := hval 0 3 v0 rfl rfl
  have k1 := hval 1 46 v1 rfl rfl
  have k2 := hval 2 31 v2 rfl rfl
  obtain ⟨i, rfl, rfl, rfl, _⟩ := open_int Try.underlying3 k0 h0
  obtain ⟨A, n, c, l, rfl, _⟩ := open_ints_ k1 h1
  obtain ⟨lo, hi, rfl, _⟩ := open_span k2 h2
  exact cellsNobody_any i A n c lo hi W

set_option maxRecDepth 100000 in
theorem cellsNobody_lifted (os : Os) (started : os.Started) (H : Type) (enc : TypeId × Value → H) :
    ReturnsInHanded {} Try.checked os 11 .any (Rows.cellsNobodySpec.pre6 enc Try.checked.prog Try.f11 [] false) (Rows.cellsNobodySpec.post enc Try.prog Try.f11 false true false false) :=
  law_lifted_p started Rows.cellsNobodySpec 11 Try.f11 4 rfl (fun ds h => by rw [Try.params11] at h; match ds, h with | [d0, d1, d2], _ => rfl) Try.func11 (by kernel_rfl) rfl Try.underlying4
    (fun t ht => by
      rw [Try.params11] at ht
      have hall : ([3, 46, 31].all fun u => Try.prog.readableRec u && decide (u < Try.prog.types.size)) = true := by kernel_rfl
      have := List.all_eq_true.1 hall t (by simpa using ht)
      simpa using this)
    (ChangeSpec.witness6 (enc := enc) (C := Try.checked) (os := os) false ⟨#[], #[.int .i64 0, .slice none 0 0, .agg #[.int .i64 0, .int .i64 0]], []⟩ 8 (by kernel_rfl) (by kernel_rfl) (by kernel_rfl) (by kernel_rfl)) cellsNobody_walk

theorem cellsNobody_holds : Rows.CellsNobodySaid :=
  OpenClaim.holds_of_wide 11 Try.f11 rfl rfl rfl rfl rfl rfl rfl ⟨rfl, rfl, rfl, rfl, rfl⟩ rfl rfl rfl rfl rfl (by kernel_rfl) Try.func11 (by kernel_rfl)
    (of_decide_eq_true (by kernel_rfl)) (by unfold Func.isWrapper; first | (rw [if_pos (by decide +kernel)]; kernel_rfl) | (rw [if_neg (by decide +kernel)]; exact ⟨rfl, rfl⟩))
    (fun os started H enc _ => cellsNobody_lifted os started H enc)
#print axioms cellsNobody_holds
end Go.Proofs.Ytnmefomipldalaa
