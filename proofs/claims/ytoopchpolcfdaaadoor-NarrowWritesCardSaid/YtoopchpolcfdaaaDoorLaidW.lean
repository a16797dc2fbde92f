/- The array of stretches, out of the row's condition that it reads as the program's text lays it; the heap that the door's own run leaves meets that condition. -/
import Derived.Test.YtoopchpolcfdaaaDoorNumW
import Derived.Test.YtoopchpolcfdaaaDoorFlat
import Derived.Test.YtoopchpolcfdaaaDoorLaw
namespace Go.Proofs.YtoopchpolcfdaaaDoor
open Go.ChangeShapes Go.WideShapes Go.ChangeAt Go.RowKit

def laidW : List (String × DataW Unit) := [("naskh/wide.stretches", Rows.laid_naskh_wide_stretches)]
theorem gStretches : Tryd.prog.globalNamed "naskh/wide.stretches" = some 0 := by kernel_rfl
theorem tStretches : (Tryd.prog.globals[0]?).map (·.type) = some 52 := by kernel_rfl
theorem pStretches : plainTy Tryd.prog 4 52 = true := by kernel_rfl

theorem doorW_met (os : Os) (args : Array Value) : laidMetH Tryd.prog laidW ((World.doorLaid Tryd.prog 400 os).forCall (fun _ _ => 0) ⟨#[], args, []⟩).memory :=
  laidMetH_of_parts3 (fuel := 8) (laidMet_of_run' 8 (by kernel_rfl) (by kernel_rfl)) (by kernel_rfl) (by kernel_rfl)
theorem door_shaped (os : Os) (args : Array Value) : ((World.doorLaid Tryd.prog 400 os).forCall (fun _ _ => 0) ⟨#[], args, []⟩).Shaped Tryd.prog := World.shaped_of_RefB (by kernel_rfl) (by kernel_rfl)

theorem stretches_of_laid {W : World} (h : laidMetH Tryd.prog laidW W) : Stretches W := by
  rw [MakeChecks.laidMetH_plain _ _ _ (by kernel_rfl)] at h
  obtain ⟨ps, ⟨g0, t0, cs0, f0, p0, q0, hg0, ht0, hv0, hd0, _⟩, _, _⟩ := h
  obtain rfl := Option.some.inj (gStretches.symm.trans hg0)
  obtain rfl := Option.some.inj (tStretches.symm.trans ht0)
  have hcs := flat_of_trod 4 _ _ _ _ pStretches hd0
  have hc : ∀ (i : Nat) (v : Value), cs0.toList[i]? = some v → W.cell? ⟨0, i, none⟩ = some v := fun i v hv => by
    rw [World.var?_cell hg0 hv0 i]; simpa using hv
  rw [hcs] at hc
  exact ⟨hc 0 _ rfl, hc 1 _ rfl, hc 2 _ rfl, hc 3 _ rfl, hc 4 _ rfl, hc 5 _ rfl, hc 6 _ rfl, hc 7 _ rfl, hc 8 _ rfl, hc 9 _ rfl, hc 10 _ rfl, hc 11 _ rfl⟩
end Go.Proofs.YtoopchpolcfdaaaDoor
