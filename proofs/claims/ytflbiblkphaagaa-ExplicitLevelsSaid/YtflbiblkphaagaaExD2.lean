/- explicit: the counts along a paragraph, the matches within bounds, the answers as they grow. No function of the program. -/
import Derived.Test.YtflbiblkphaagaaExD
import Derived.Test.YtflbiblkphaagaaFew
import Derived.Test.YtflbiblkphaagaaHp
namespace Go.Proofs.Ytflbiblkphaagaa
open Go.RowKit

theorem few_a {s : Stk} {m : Nat} (h : Few s m) (x : Int) : Few (stepA s x) m := by
  unfold stepA
  split
  · exact few_endI h
  · exact h
theorem few_b {s : Stk} {m : Nat} (h : Few s m) (xs : List Int) (k : Nat) (x : Int) : Few (stepB xs k x s) (m + 1) := by
  unfold stepB
  repeat' split
  all_goals first
    | exact few_emb h _ _
    | exact (few_endE h).up (by omega)
    | exact few_iso h _
    | exact h.up (by omega)
theorem few_st (xs : List Int) (base : Int) : ∀ k, Few (stE xs base k) k
  | 0 => ⟨by simp [stE, newS], by simp [stE, newS], by simp [stE, newS]⟩
  | k + 1 => by rw [stE]; exact few_b (few_a (few_st xs base k) _) _ _ _
/-- What goes together lies within the text, or is -1. -/
theorem mat_in {xs : List Int} {y : Int} (h : y ∈ matF xs) : -1 ≤ y ∧ y ≤ (xs.length : Int) := by
  obtain ⟨j, hj⟩ := List.getElem?_of_mem h
  have hl := (List.getElem?_eq_some_iff.1 hj).1
  have g := matF_good xs
  rw [g.len] at hl
  by_cases ho : OpAt xs j
  · rw [g.op j ho] at hj
    have := ansF_le xs (j + 1) 0
    have := Option.some.inj hj
    omega
  · rcases g.else_ j hl ho with e | ⟨i, hi, e⟩
    · rw [e] at hj
      have := Option.some.inj hj
      omega
    · have hs := g.shut i hi (by omega)
      rw [e, hj] at hs
      have := Option.some.inj hs
      have := opAt_lt hi
      omega
/-- The answers as they stand at place k. -/
def lvZ (xs : List Int) (base : Int) (k n : Nat) : List Int := lvL xs base k ++ List.replicate (n - k) 0
def clZ (xs : List Int) (base : Int) (k n : Nat) : List Int := clL xs base k ++ List.replicate (n - k) 0
theorem lvZ_len {xs : List Int} {base : Int} {k n : Nat} (h : k ≤ n) : (lvZ xs base k n).length = n := by unfold lvZ; rw [List.length_append, lvL_len, List.length_replicate]; omega
theorem clZ_len {xs : List Int} {base : Int} {k n : Nat} (h : k ≤ n) : (clZ xs base k n).length = n := by unfold clZ; rw [List.length_append, clL_len, List.length_replicate]; omega
theorem lvZ_zero (xs : List Int) (base : Int) (n : Nat) : lvZ xs base 0 n = List.replicate n 0 := by simp [lvZ, lvL]
theorem clZ_zero (xs : List Int) (base : Int) (n : Nat) : clZ xs base 0 n = List.replicate n 0 := by simp [clZ, clL]
theorem lvZ_end (xs : List Int) (base : Int) (n : Nat) : lvZ xs base n n = lvL xs base n := by simp [lvZ]
theorem clZ_end (xs : List Int) (base : Int) (n : Nat) : clZ xs base n n = clL xs base n := by simp [clZ]
theorem set_next {l : List Int} {k n : Nat} (hl : l.length = k) (hk : k < n) (x : Int) : (l ++ List.replicate (n - k) 0).set k x = l ++ [x] ++ List.replicate (n - (k + 1)) 0 := by
  rw [show n - k = (n - (k + 1)) + 1 by omega, List.replicate_succ, List.set_append_right _ _ (by omega), hl, Nat.sub_self, List.set_cons_zero, List.append_assoc]
  rfl
theorem lvZ_step {xs : List Int} {base : Int} {k n : Nat} (hk : k < n) : (lvZ xs base k n).set k (exA xs base k).1 = lvZ xs base (k + 1) n := by
  unfold lvZ
  rw [set_next (lvL_len xs base k) hk, lvL_step]
theorem clZ_step {xs : List Int} {base : Int} {k n : Nat} (hk : k < n) : (clZ xs base k n).set k (exA xs base k).2 = clZ xs base (k + 1) n := by
  unfold clZ
  rw [set_next (clL_len xs base k) hk, clL_step]
end Go.Proofs.Ytflbiblkphaagaa
