/- Whether spans are parts, as plain mathematics. -/
import Derived.Test.YtbnjflkafdkcpaaSpD
namespace Go.Proofs.Ytbnjflkafdkcpaa
open Go.RowKit
/-- Whether spans are parts from 'end_' on to n. -/
def partsFrom : Int → List Sp → Int → Bool
  | e, [], n => e == n
  | e, s :: l, n => rightB s && (s.1 == e) && partsFrom s.2 l n
def partsS (l : List Sp) (n : Int) : Bool := partsFrom 0 l n
theorem partsFrom_no {e n : Int} {l : List Sp} {s : Sp} (h : rightB s = false ∨ (s.1 == e) = false) : partsFrom e (s :: l) n = false := by
  unfold partsFrom
  rcases h with h | h <;> simp [h]
theorem partsFrom_yes {e n : Int} {l : List Sp} {s : Sp} (h : rightB s = true) (h' : (s.1 == e) = true) : partsFrom e (s :: l) n = partsFrom s.2 l n := by
  show (rightB s && (s.1 == e) && partsFrom s.2 l n) = _
  rw [h, h']; rfl
theorem dropCons {α : Type} {l : List α} {k : Nat} {x : α} (h : l[k]? = some x) : l.drop k = x :: l.drop (k + 1) := by
  obtain ⟨hk, rfl⟩ := List.getElem?_eq_some_iff.1 h
  exact List.drop_eq_getElem_cons hk
end Go.Proofs.Ytbnjflkafdkcpaa
