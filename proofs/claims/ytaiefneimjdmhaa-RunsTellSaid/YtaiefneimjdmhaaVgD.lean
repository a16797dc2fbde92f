/- Runs as they are seen, as mathematics. No function of the program. -/
import Derived.Test.YtaiefneimjdmhaaLoD
import Derived.Test.YtaiefneimjdmhaaTgD
namespace Go.Proofs.Ytaiefneimjdmhaa
open Go.RowKit

/-- Runs turned, level by level, down to the least odd one. -/
def visGA (low : Int) : Nat → List Rg → List Rg
  | 0, R => R
  | v + 1, R => if low ≤ ((v + 1 : Nat) : Int) then visGA low v (revR (fun r => decide (((v + 1 : Nat) : Int) ≤ heldF r.2.2)) [] R) else R
def visG (R : List Rg) : List Rg := if 0 < lowF R then visGA (lowF R) 126 R else R
theorem visGA_stop {low : Int} : ∀ {v : Nat} {R : List Rg}, (v : Int) < low → visGA low v R = R
  | 0, _, _ => rfl
  | v + 1, R, h => by rw [visGA, if_neg (by omega)]
theorem visGA_go {low : Int} {v : Nat} {R : List Rg} (h : low ≤ ((v + 1 : Nat) : Int)) : visGA low (v + 1) R = visGA low v (tgF true (fun r => decide (((v + 1 : Nat) : Int) ≤ heldF r.2.2)) [] R) := by
  rw [visGA, if_pos h]
  rfl
theorem low_fold : ∀ (l : List Int) (m : Int), 0 ≤ m ∧ m ≤ 126 → (∀ x ∈ l, 0 ≤ x ∧ x ≤ 126) → 0 ≤ l.foldl lowS m ∧ l.foldl lowS m ≤ 126
  | [], _, h, _ => h
  | x :: l, m, h, hl => low_fold l (lowS m x) (lowS_in h (hl x (by simp))) fun y hy => hl y (by simp [hy])
theorem lowF_in (R : List Rg) : 0 ≤ lowF R ∧ lowF R ≤ 126 := low_fold _ 0 (by decide) (by
  intro x hx
  obtain ⟨r, _, rfl⟩ := List.mem_map.1 hx
  unfold heldF
  omega)
end Go.Proofs.Ytaiefneimjdmhaa
