/- The array of zeros, out of the row's condition that it reads as the program's text lays it; the heap that the door's own run leaves meets that condition. -/
import Derived.Test.YtfobhnpmaooalaaDoorPpC
import Derived.Test.YtfobhnpmaooalaaDoorFlat
import Derived.Test.YtfobhnpmaooalaaDoorLaw
namespace Go.Proofs.YtfobhnpmaooalaaDoor
open Go.ChangeShapes Go.WideShapes Go.ChangeAt Go.RowKit

def laidPp : List (String × DataW Unit) := [("naskh/props.zeros", Rows.laid_naskh_props_zeros)]
theorem gZeros : Tryd.prog.globalNamed "naskh/props.zeros" = some 0 := by kernel_rfl
theorem tZeros : (Tryd.prog.globals[0]?).map (·.type) = some 71 := by kernel_rfl
theorem pZeros : plainTy Tryd.prog 4 71 = true := by kernel_rfl
theorem doorPp_met (os : Os) (args : Array Value) : laidMetH Tryd.prog laidPp ((World.doorLaid Tryd.prog 400 os).forCall (fun _ _ => 0) ⟨#[], args, []⟩).memory :=
  laidMetH_of_parts3 (fuel := 8) (laidMet_of_run' 8 (by kernel_rfl) (by kernel_rfl)) (by kernel_rfl) (by kernel_rfl)
theorem door_shaped (os : Os) (args : Array Value) : ((World.doorLaid Tryd.prog 400 os).forCall (fun _ _ => 0) ⟨#[], args, []⟩).Shaped Tryd.prog := World.shaped_of_RefB (by kernel_rfl) (by kernel_rfl)
theorem zeros_of_laid {W : World} (h : laidMetH Tryd.prog laidPp W) : ZerosAt W := by
  rw [MakeChecks.laidMetH_plain _ _ _ (by kernel_rfl)] at h
  obtain ⟨ps, ⟨g0, t0, cs0, f0, p0, q0, hg0, ht0, hv0, hd0, _⟩, _, _⟩ := h
  obtain rfl := Option.some.inj (gZeros.symm.trans hg0)
  obtain rfl := Option.some.inj (tZeros.symm.trans ht0)
  have hcs := flat_of_trod 4 _ _ _ _ pZeros hd0
  have hc : ∀ (i : Nat) (v : Value), cs0.toList[i]? = some v → W.cell? ⟨0, i, none⟩ = some v := fun i v hv => by
    rw [World.var?_cell hg0 hv0 i]; simpa using hv
  rw [hcs] at hc
  exact ⟨hc 0 _ rfl, hc 1 _ rfl, hc 2 _ rfl⟩
end Go.Proofs.YtfobhnpmaooalaaDoor
