/- The pairs of brackets of codes and their classes; numbers at places. No function of the program. -/
import Derived.Test.YtpddjojgcenlkaaBkE
import Derived.Test.YtpddjojgcenlkaaPrD
namespace Go.Proofs.Ytpddjojgcenlkaa
open Go.RowKit

/-- The numbers at some places. -/
def atF (l : List Int) (P : List Nat) : List Int := P.map fun i => l.getD i 0
theorem atF_len (l : List Int) (P : List Nat) : (atF l P).length = P.length := by simp [atF]
theorem atF_at {l : List Int} {P : List Nat} {k i : Nat} (h : P[k]? = some i) : (atF l P)[k]? = some (l.getD i 0) := by unfold atF; rw [List.getElem?_map, h]; rfl
/-- The pairs of brackets of codes and their classes. -/
def bkF (cs l : List Int) : List (Nat × Nat) := if cs.length = l.length then (bkA (fun i => decide (l.getD i 0 = 13)) (fun i => (braF (cs.getD i 0)).1) (fun o i => bmF (cs.getD o 0) (cs.getD i 0)) cs.length).out else []
theorem bkF_on {cs l : List Int} {p : Nat × Nat} (h : p ∈ bkF cs l) : l.getD p.1 0 = 13 ∧ l.getD p.2 0 = 13 := by
  unfold bkF at h
  split at h
  · obtain ⟨h1, h2⟩ := (bk_on _ _ _ cs.length).2 p h
    exact ⟨of_decide_eq_true h1, of_decide_eq_true h2⟩
  · cases h
end Go.Proofs.Ytpddjojgcenlkaa
