/- Texts of one claim, one behind the other. -/
import Derived.Test.YtcbiaeeifclieaaGreatDoorMgM4
import Derived.Test.YtcbiaeeifclieaaGreatDoorMgM24
import Derived.Test.YtcbiaeeifclieaaGreatDoorMgM26
/- The sizes of the kinds, out of the row's condition that they read as the program's text lays them; the heap that the door's own run leaves meets that condition. -/
namespace Go.Proofs.YtcbiaeeifclieaaGreatDoor
open Go.ChangeShapes Go.WideShapes Go.ChangeAt Go.RowKit

def laidOp : List (String × DataW Unit) := [("naskh/option.sizes", Rows.laid_naskh_option_sizes)]
theorem gSizes : Tryz.prog.globalNamed "naskh/option.sizes" = some 0 := by kernel_rfl
theorem tSizes : (Tryz.prog.globals[0]?).map (·.type) = some 71 := by kernel_rfl
theorem pSizes : plainTy Tryz.prog 4 71 = true := by kernel_rfl
theorem doorOp_met (os : Os) (args : Array Value) : laidMetH Tryz.prog laidOp ((World.doorLaid Tryz.prog 400 os).forCall (fun _ _ => 0) ⟨#[], args, []⟩).memory :=
  laidMetH_of_parts3 (fuel := 8) (laidMet_of_run' 8 (by kernel_rfl) (by kernel_rfl)) (by kernel_rfl) (by kernel_rfl)
theorem door_shaped (os : Os) (args : Array Value) : ((World.doorLaid Tryz.prog 400 os).forCall (fun _ _ => 0) ⟨#[], args, []⟩).Shaped Tryz.prog := World.shaped_of_RefB (by kernel_rfl) (by kernel_rfl)
theorem sizes_of_laid {W : World} (h : laidMetH Tryz.prog laidOp W) : KindsAt W := by
  rw [MakeChecks.laidMetH_plain _ _ _ (by kernel_rfl)] at h
  obtain ⟨ps, ⟨g0, t0, cs0, f0, p0, q0, hg0, ht0, hv0, hd0, _⟩, _, _⟩ := h
  obtain rfl := Option.some.inj (gSizes.symm.trans hg0)
  obtain rfl := Option.some.inj (tSizes.symm.trans ht0)
  have hcs := flat_of_trod 4 _ _ _ _ pSizes hd0
  have hc : ∀ (i : Nat) (v : Value), cs0.toList[i]? = some v → W.cell? ⟨0, i, none⟩ = some v := fun i v hv => by
    rw [World.var?_cell hg0 hv0 i]; simpa using hv
  rw [hcs] at hc
  exact ⟨hc 0 _ rfl, hc 1 _ rfl, hc 2 _ rfl, hc 3 _ rfl⟩
end Go.Proofs.YtcbiaeeifclieaaGreatDoor
