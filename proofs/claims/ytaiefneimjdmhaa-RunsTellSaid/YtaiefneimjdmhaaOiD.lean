/- The places of runs, as mathematics. No function of the program. -/
import Derived.Test.YtaiefneimjdmhaaRgD
import Derived.Test.YtaiefneimjdmhaaPartsD
namespace Go.Proofs.Ytaiefneimjdmhaa
open Go.RowKit

/-- The k-th place of a run. -/
def plK (r : Rg) (k : Nat) : Int := if r.2.2 % 2 ≠ 0 then r.2.1 - 1 - (k : Int) else r.1 + (k : Int)
def plI (r : Rg) : List Int := if rightB (r.1, r.2.1) = true then (List.range (r.2.1 - r.1).toNat).map (plK r) else []
/-- The places of runs. -/
def ordI (l : List Rg) : List Int := l.flatMap plI
theorem ordI_next {l : List Rg} {i : Nat} {r : Rg} (h : l[i]? = some r) : ordI (l.take (i + 1)) = ordI (l.take i) ++ plI r := by
  rw [List.take_add_one, h]
  simp [ordI]
theorem plI_len (r : Rg) (h : rightB (r.1, r.2.1) = true → r.2.1 ≤ 1000) : (plI r).length ≤ 1000 := by
  unfold plI
  split
  · rename_i hr
    have := h hr
    have hr' : 0 ≤ r.1 ∧ r.1 < r.2.1 := by simpa [rightB] using hr
    rw [List.length_map, List.length_range]
    omega
  · exact Nat.zero_le _
end Go.Proofs.Ytaiefneimjdmhaa
