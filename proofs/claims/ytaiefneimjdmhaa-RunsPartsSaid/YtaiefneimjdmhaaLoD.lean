/- The least odd level of runs. No function of the program. -/
import Derived.Test.YtaiefneimjdmhaaRgD
import Derived.Test.YtaiefneimjdmhaaOrD
namespace Go.Proofs.Ytaiefneimjdmhaa
open Go.RowKit

/-- The least odd level so far; 0: there is none. -/
def lowS (m : Int) (x : Int) : Int := if x % 2 = 1 ∧ (m = 0 ∨ x < m) then x else m
def lowF (l : List Rg) : Int := (l.map fun r => heldF r.2.2).foldl lowS 0
theorem low_next {l : List Rg} {i : Nat} {r : Rg} (h : l[i]? = some r) : lowF (l.take (i + 1)) = lowS (lowF (l.take i)) (heldF r.2.2) := by
  unfold lowF
  rw [List.take_add_one, h]
  simp
theorem lowS_in {m x : Int} (hm : 0 ≤ m ∧ m ≤ 126) (hx : 0 ≤ x ∧ x ≤ 126) : 0 ≤ lowS m x ∧ lowS m x ≤ 126 := by unfold lowS; split <;> omega
end Go.Proofs.Ytaiefneimjdmhaa
