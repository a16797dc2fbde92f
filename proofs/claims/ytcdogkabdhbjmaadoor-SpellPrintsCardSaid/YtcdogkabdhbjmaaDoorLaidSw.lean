/- The sizes of the kinds and the words, out of the row's condition that they read as the program's text lays them. -/
import Derived.Test.YtcdogkabdhbjmaaDoorLaidOp
import Derived.Test.YtcdogkabdhbjmaaDoorSwT
import Derived.ChangeMaps5
namespace Go.Proofs.YtcdogkabdhbjmaaDoor
open Go.ChangeShapes Go.WideShapes Go.ChangeAt Go.RowKit

def laidSw : List (String × DataW Unit) := [("naskh/option.sizes", Rows.laid_naskh_option_sizes), ("naskh/spell.terms", Rows.laid_naskh_spell_terms)]
theorem gTerms : Tryd.prog.globalNamed "naskh/spell.terms" = some 0 := by kernel_rfl
theorem tTerms : (Tryd.prog.globals[0]?).map (·.type) = some 66 := by kernel_rfl
theorem pTerms : plainTy Tryd.prog 4 66 = true := by kernel_rfl
theorem doorSw_met (os : Os) (args : Array Value) : laidMetH Tryd.prog laidSw ((World.doorLaid Tryd.prog 400 os).forCall (fun _ _ => 0) ⟨#[], args, []⟩).memory :=
  laidMetH_of_parts3 (fuel := 8) (laidMet_of_run' 8 (by kernel_rfl) (by kernel_rfl)) (by kernel_rfl) (by kernel_rfl)
theorem flat_terms : flatD (H := Unit) 4 Rows.laid_naskh_spell_terms = termCells := by rfl
theorem tabSw_of_laid {W : World} (h : laidMetH Tryd.prog laidSw W) : KindsAt W ∧ TermsAt W := by
  rw [MakeChecks.laidMetH_plain _ _ _ (by kernel_rfl)] at h
  obtain ⟨ps, ⟨g0, t0, cs0, f0, p0, q0, hg0, ht0, hv0, hd0, ⟨g1, t1, cs1, f1, p1, q1, hg1, ht1, hv1, hd1, _⟩, _⟩, _, _⟩ := h
  obtain rfl := Option.some.inj (gSizes.symm.trans hg0)
  obtain rfl := Option.some.inj (tSizes.symm.trans ht0)
  obtain rfl := Option.some.inj (gTerms.symm.trans hg1)
  obtain rfl := Option.some.inj (tTerms.symm.trans ht1)
  have e0 := flat_of_trod 4 _ _ _ _ pSizes hd0
  have e1 := flat_of_trod 4 _ _ _ _ pTerms hd1
  have c0 : ∀ (i : Nat) (v : Value), cs0.toList[i]? = some v → W.cell? ⟨1, i, none⟩ = some v := fun i v hv => by
    rw [World.var?_cell hg0 hv0 i]; simpa using hv
  have c1 : ∀ (i : Nat) (v : Value), cs1.toList[i]? = some v → W.cell? ⟨0, i, none⟩ = some v := fun i v hv => by
    rw [World.var?_cell hg1 hv1 i]; simpa using hv
  rw [e0] at c0
  rw [e1] at c1
  exact ⟨⟨c0 0 _ rfl, c0 1 _ rfl, c0 2 _ rfl, c0 3 _ rfl⟩, fun j v hv => c1 j v (by
    have := flat_terms
    rw [← this] at hv
    exact hv)⟩
theorem byte_of_wf {x : Int} (h : (Lit.int .u8 x).wf = true) : ∃ a : Nat, x = (a : Int) ∧ a < 256 := by
  simp [Lit.wf, IntKind.min, IntKind.max, IntKind.signed, IntKind.bits] at h
  exact ⟨x.toNat, by omega, by omega⟩
end Go.Proofs.YtcdogkabdhbjmaaDoor
