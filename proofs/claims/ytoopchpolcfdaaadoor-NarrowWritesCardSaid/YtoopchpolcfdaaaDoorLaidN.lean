/- The arrays of narrow, out of the row's condition that they read as the program's text lays them. -/
import Derived.Test.YtoopchpolcfdaaaDoorNumN
import Derived.Test.YtoopchpolcfdaaaDoorLaidW
namespace Go.Proofs.YtoopchpolcfdaaaDoor
open Go.ChangeShapes Go.WideShapes Go.ChangeAt Go.RowKit

def laidN : List (String × DataW Unit) := [("naskh/narrow.lasts", Rows.laid_naskh_narrow_lasts), ("naskh/narrow.marks", Rows.laid_naskh_narrow_marks), ("naskh/narrow.lengths", Rows.laid_naskh_narrow_lengths)]
theorem gLasts : Tryd.prog.globalNamed "naskh/narrow.lasts" = some 1 := by kernel_rfl
theorem tLasts : (Tryd.prog.globals[1]?).map (·.type) = some 57 := by kernel_rfl
theorem pLasts : plainTy Tryd.prog 4 57 = true := by kernel_rfl
theorem gMarks : Tryd.prog.globalNamed "naskh/narrow.marks" = some 3 := by kernel_rfl
theorem tMarks : (Tryd.prog.globals[3]?).map (·.type) = some 63 := by kernel_rfl
theorem pMarks : plainTy Tryd.prog 4 63 = true := by kernel_rfl
theorem gLengths : Tryd.prog.globalNamed "naskh/narrow.lengths" = some 2 := by kernel_rfl
theorem tLengths : (Tryd.prog.globals[2]?).map (·.type) = some 59 := by kernel_rfl
theorem pLengths : plainTy Tryd.prog 4 59 = true := by kernel_rfl

theorem doorN_met (os : Os) (args : Array Value) : laidMetH Tryd.prog laidN ((World.doorLaid Tryd.prog 400 os).forCall (fun _ _ => 0) ⟨#[], args, []⟩).memory :=
  laidMetH_of_parts3 (fuel := 8) (laidMet_of_run' 8 (by kernel_rfl) (by kernel_rfl)) (by kernel_rfl) (by kernel_rfl)

theorem tabN_of_laid {W : World} (h : laidMetH Tryd.prog laidN W) : TabN W := by
  rw [MakeChecks.laidMetH_plain _ _ _ (by kernel_rfl)] at h
  obtain ⟨ps, ⟨g0, t0, cs0, f0, p0, q0, hg0, ht0, hv0, hd0, ⟨g1, t1, cs1, f1, p1, q1, hg1, ht1, hv1, hd1, ⟨g2, t2, cs2, f2, p2, q2, hg2, ht2, hv2, hd2, _⟩, _⟩, _⟩, _, _⟩ := h
  obtain rfl := Option.some.inj (gLasts.symm.trans hg0)
  obtain rfl := Option.some.inj (tLasts.symm.trans ht0)
  obtain rfl := Option.some.inj (gMarks.symm.trans hg1)
  obtain rfl := Option.some.inj (tMarks.symm.trans ht1)
  obtain rfl := Option.some.inj (gLengths.symm.trans hg2)
  obtain rfl := Option.some.inj (tLengths.symm.trans ht2)
  have e0 := flat_of_trod 4 _ _ _ _ pLasts hd0
  have e1 := flat_of_trod 4 _ _ _ _ pMarks hd1
  have e2 := flat_of_trod 4 _ _ _ _ pLengths hd2
  have c0 : ∀ (i : Nat) (v : Value), cs0.toList[i]? = some v → W.cell? ⟨1, i, none⟩ = some v := fun i v hv => by
    rw [World.var?_cell hg0 hv0 i]; simpa using hv
  have c1 : ∀ (i : Nat) (v : Value), cs1.toList[i]? = some v → W.cell? ⟨3, i, none⟩ = some v := fun i v hv => by
    rw [World.var?_cell hg1 hv1 i]; simpa using hv
  have c2 : ∀ (i : Nat) (v : Value), cs2.toList[i]? = some v → W.cell? ⟨2, i, none⟩ = some v := fun i v hv => by
    rw [World.var?_cell hg2 hv2 i]; simpa using hv
  rw [e0] at c0
  rw [e1] at c1
  rw [e2] at c2
  refine ⟨⟨c0 0 _ rfl, c0 1 _ rfl, c0 2 _ rfl, c0 3 _ rfl⟩, ⟨c1 0 _ rfl, c1 1 _ rfl, c1 2 _ rfl, c1 3 _ rfl, c1 4 _ rfl⟩, fun i hi => ?_⟩
  match i, hi with
  | 0, _ | 1, _ | 2, _ | 3, _ | 4, _ | 5, _ | 6, _ | 7, _ | 8, _ | 9, _ | 10, _ | 11, _ | 12, _ | 13, _ | 14, _ | 15, _ => exact c2 _ _ rfl
  | i + 16, hi => exact absurd hi (by omega)
end Go.Proofs.YtoopchpolcfdaaaDoor
