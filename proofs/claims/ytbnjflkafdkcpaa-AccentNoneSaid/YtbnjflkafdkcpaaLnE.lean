/- The places from one up to another. -/
import Derived.Test.YtbnjflkafdkcpaaLnD
namespace Go.Proofs.Ytbnjflkafdkcpaa
open Go.RowKit

/-- The places from one up to another. -/
def partF (l : List Int) (lo hi : Nat) : List Int := (l.drop lo).take (hi - lo)
theorem partF_cons {l : List Int} {lo hi : Nat} {x : Int} (h : l[lo]? = some x) (hl : lo < hi) : partF l lo hi = x :: partF l (lo + 1) hi := by
  have hlt := (List.getElem?_eq_some_iff.1 h).1
  unfold partF
  rw [List.drop_eq_getElem_cons hlt, show hi - lo = (hi - (lo + 1)) + 1 by omega, List.take_succ_cons]
  rw [(List.getElem?_eq_some_iff.1 h).2]
theorem partF_nil {l : List Int} {lo hi : Nat} (h : hi ≤ lo) : partF l lo hi = [] := by unfold partF; rw [show hi - lo = 0 by omega, List.take_zero]
theorem partF_len (l : List Int) (lo hi : Nat) (h : hi ≤ l.length) : (partF l lo hi).length = hi - lo := by simp [partF]; omega
end Go.Proofs.Ytbnjflkafdkcpaa
