/- What ExplicitDeep makes: isolates, and as many ends. No function of the program. -/
import Derived.Test.YtflbiblkphaagaaExD
namespace Go.Proofs.Ytflbiblkphaagaa
open Go.RowKit

/-- Isolates by kinds, ends, a letter. -/
def dpA (ks : List Bool) (k : Nat) : List Int := (List.range k).map fun i => if 0 < ks.length ∧ ks.getD (i % ks.length) false = true then 20 else 19
def dpB (ks : List Bool) (m k : Nat) : List Int := dpA ks m ++ List.replicate k 22
def dpL (ks : List Bool) (m : Nat) : List Int := dpB ks m m ++ [0]
theorem dpA_len (ks : List Bool) (k : Nat) : (dpA ks k).length = k := by simp [dpA]
theorem dpB_len (ks : List Bool) (m k : Nat) : (dpB ks m k).length = m + k := by simp [dpB, dpA_len]
theorem dpL_len (ks : List Bool) (m : Nat) : (dpL ks m).length = 2 * m + 1 := by simp [dpL, dpB_len]; omega
theorem dpA_step (ks : List Bool) (k : Nat) : dpA ks (k + 1) = dpA ks k ++ [if 0 < ks.length ∧ ks.getD (k % ks.length) false = true then 20 else 19] := by unfold dpA; rw [List.range_succ, List.map_append]; rfl
theorem dpB_step (ks : List Bool) (m k : Nat) : dpB ks m (k + 1) = dpB ks m k ++ [22] := by unfold dpB; rw [List.replicate_succ', List.append_assoc]
theorem dpB_zero (ks : List Bool) (m : Nat) : dpB ks m 0 = dpA ks m := by simp [dpB]
section
variable {ks : List Bool} {m : Nat}
def dpF (ks : List Bool) (i : Nat) : Int := if 0 < ks.length ∧ ks.getD (i % ks.length) false = true then 20 else 19
theorem dpL_in : ∀ i, i < m → (dpL ks m).getD i 0 = dpF ks i ∧ (dpF ks i = 19 ∨ dpF ks i = 20) := fun i hi => by
  refine ⟨?_, by unfold dpF; split <;> simp⟩
  have : (dpL ks m)[i]? = some (dpF ks i) := by
    unfold dpL dpB
    rw [List.append_assoc, List.getElem?_append_left (by rw [dpA_len]; exact hi)]
    unfold dpA
    rw [List.getElem?_map, List.getElem?_range hi]
    rfl
  rw [List.getD_eq_getElem?_getD, this]; rfl
theorem dpL_out : ∀ i, i < m → (dpL ks m).getD (m + i) 0 = 22 := fun i hi => by
  have : (dpL ks m)[m + i]? = some 22 := by
    unfold dpL dpB
    rw [List.append_assoc, List.getElem?_append_right (by rw [dpA_len]; omega), dpA_len, List.getElem?_append_left (by simp; omega), List.getElem?_replicate]
    simp; omega
  rw [List.getD_eq_getElem?_getD, this]; rfl
theorem dpL_last : (dpL ks m).getD (2 * m) 0 = 0 := by
  have : (dpL ks m)[2 * m]? = some 0 := by
    unfold dpL
    rw [List.getElem?_append_right (by rw [dpB_len]; omega), dpB_len, show 2 * m - (m + m) = 0 by omega]
    rfl
  rw [List.getD_eq_getElem?_getD, this]; rfl
theorem dp_sym {i : Nat} (hi : i < m) : (exA (dpL ks m) 0 i).1 = (exA (dpL ks m) 0 (2 * m - 1 - i)).1 := deep_sym dpL_in dpL_out hi
theorem dp_last : (exA (dpL ks m) 0 (2 * m)).1 = 0 := deep_last dpL_in dpL_out dpL_last
end
end Go.Proofs.Ytflbiblkphaagaa
