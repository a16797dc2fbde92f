/- Each place by itself, as clusters. -/
import Derived.Test.YtdgomaoikeffhaaClD
namespace Go.Proofs.Ytdgomaoikeffhaa
open Go.RowKit

def identS (n : Nat) : List Cl := (List.range n).map fun i : Nat => (((i : Int), (i : Int) + 1), ((i : Int), (i : Int) + 1))
theorem identS_succ (k : Nat) : identS (k + 1) = identS k ++ [(((k : Int), (k : Int) + 1), ((k : Int), (k : Int) + 1))] := by simp [identS, List.range_succ]
theorem identS_len (k : Nat) : (identS k).length = k := by simp [identS]
end Go.Proofs.Ytdgomaoikeffhaa
