/- Spans in memory: the first ones, the last ones. -/
import Derived.Test.YtpddjojgcenlkaaLoM
import Derived.Test.YtpddjojgcenlkaaMem3
import Derived.Test.YtpddjojgcenlkaaSpBlk
namespace Go.Proofs.Ytpddjojgcenlkaa
open Go.RowKit
theorem cellsS_one (l : List Sp) : ∀ u ∈ cellsS l, u.oneCell' = true := by
  intro u hu
  obtain ⟨s, _, hs⟩ := List.mem_flatMap.1 hu
  simp [encS] at hs
  rcases hs with rfl | rfl <;> rfl
theorem cellsS_take (l : List Sp) (k : Nat) : (cellsS l).take (k * 2) = cellsS (l.take k) := by
  induction l generalizing k with
  | nil => simp [cellsS]
  | cons s l ih =>
    cases k with
    | zero => simp [cellsS]
    | succ k =>
      have : cellsS (s :: l) = .int .i64 s.1 :: .int .i64 s.2 :: cellsS l := rfl
      rw [this, show (k + 1) * 2 = k * 2 + 1 + 1 by omega, List.take_succ_cons, List.take_succ_cons, ih]
      rfl
theorem cellsS_drop (l : List Sp) (k : Nat) : (cellsS l).drop (k * 2) = cellsS (l.drop k) := by
  induction l generalizing k with
  | nil => simp [cellsS]
  | cons s l ih =>
    cases k with
    | zero => simp
    | succ k =>
      have : cellsS (s :: l) = .int .i64 s.1 :: .int .i64 s.2 :: cellsS l := rfl
      rw [this, show (k + 1) * 2 = k * 2 + 1 + 1 by omega, List.drop_succ_cons, List.drop_succ_cons, ih]
      rfl
/-- The first elements of a slice that reads as spans; and the rest. -/
theorem Rd.takeS {w : World} {A : Option Addr} {n k : Nat} {l : List Sp} (hr : Rd w 2 A n (cellsS l)) (hk : k ≤ n) : Rd w 2 A k (cellsS (l.take k)) := by
  have hl : l.length = n := by have := hr.1; rw [cellsS_len] at this; omega
  refine ⟨by rw [cellsS_len, List.length_take]; omega, fun h0 => ?_⟩
  obtain ⟨ad, e, hb, hc⟩ := hr.2 (by omega)
  refine ⟨ad, e, hb, fun j u hj => hc j u ?_⟩
  rw [← cellsS_take, List.getElem?_take] at hj
  split at hj
  · exact hj
  · cases hj
theorem Rd.dropS {w : World} {A : Option Addr} {n k cap : Nat} {l : List Sp} (hr : Rd w 2 A n (cellsS l)) (hk : k ≤ n) (hc : n ≤ cap) : Rd w 2 (if cap = k then A else A.map (·.add (k * 2))) (n - k) (cellsS (l.drop k)) := by
  have := hr.cut hk hc
  rwa [cellsS_drop] at this
end Go.Proofs.Ytpddjojgcenlkaa
