/- Groups of spans as plain mathematics: the reference. -/
import Derived.Test.YthhjcdnhlpjfnaaPartsD
namespace Go.Proofs.Ythhjcdnhlpjfnaa
open Go.RowKit
/-- Whether a span lies across a place. -/
def acrossB (p n : Int) (s : Sp) : Bool := rightB s && decide (s.2 ≤ n ∧ s.1 < p ∧ p < s.2)
def partedS (p n : Int) (l : List Sp) : Bool := !(l.any (acrossB p n))

/-- The parts from place 'lo' on, the next place to ask being 'p', with so many places to ask. -/
def groupsGo (n : Int) (l : List Sp) : Nat → Int → Int → List Sp
  | 0, _, _ => []
  | f + 1, lo, p => if p = n ∨ partedS p n l = true then (lo, p) :: groupsGo n l f p (p + 1) else groupsGo n l f lo (p + 1)
def groupsS (n : Int) (l : List Sp) : List Sp := groupsGo n l n.toNat 0 1
theorem groupsGo_yes {n : Int} {l : List Sp} {f : Nat} {lo p : Int} (h : p = n ∨ partedS p n l = true) : groupsGo n l (f + 1) lo p = (lo, p) :: groupsGo n l f p (p + 1) := if_pos h
theorem groupsGo_no {n : Int} {l : List Sp} {f : Nat} {lo p : Int} (h : ¬ (p = n ∨ partedS p n l = true)) : groupsGo n l (f + 1) lo p = groupsGo n l f lo (p + 1) := if_neg h
end Go.Proofs.Ythhjcdnhlpjfnaa
