/-
  No cell of these rows narrows 'for every input' (looked for: loops, veiled, ifaces, maps, wideKeys, modest, calm, conditions, laid).
  DERIVED. THE GIVEN ROWS OF THIS SEAT. 8 by the template 'for every input the law returns true; each argument reads behind the call as it read before'; 0 by the template 'total and deterministic' (their statements: YthhjcdnhlpjfnaaTotals.lean).
  GIVEN WITH THE SEED: the statements are not yours to turn. If you find one false, say at which input.
  Laid BY PROGRAM, IN A SANDBOX (cutbox-rows.mjs): the forced cells as the released guide's own fill.sh prints them over the translation 151f330ca8e07a48… (all of the seat's roots in one cut). By AI agents, Wed Nov 11 2026. No macro, syntax, notation, axiom, sorry.
-/
import Derived.Test.YthhjcdnhlpjfnaaChecked
import GoSem.Claim
import GoSem.ClaimJoined
import GoSem.ClaimMapViews
import Derived.JoinedTies
import Derived.KernelRfl
namespace Go.Proofs.Ythhjcdnhlpjfnaa
/- THE CELL 'sum', in the pinned program and in every row, IS THE sha256 OF THE DUMP (.gsa) THAT YthhjcdnhlpjfnaaProg.lean LOADS. Nothing in Lean hashes anything: it is a label: what it is worth is what the hold of that sum in a sandbox is worth. -/
noncomputable def Try.pinned : Pinned := { name := "ythhjcdnhlpjfnaa", sum := "151f330ca8e07a4813be3cf349ef7f68c8ee4dc56b6a4e10bb2d87d645b04e58", checked := Try.checked }
namespace Rows
def none {H : Type} : Left H := { results := [], args := [] }

/-- 'naskhlaw03.SpanGroups': WHATEVER THE INPUT: true; the input reads as it did. -/
def spanGroupsSpec : ChangeSpec := { name := "spanGroups", fn := fun _ => fun
  | [d1, d2] => { results := [.lit (.bool true)], args := [d1, d2] }
  | _ => none }
def spanGroupsRow : OpenClaim := { program := "ythhjcdnhlpjfnaa", sum := "151f330ca8e07a4813be3cf349ef7f68c8ee4dc56b6a4e10bb2d87d645b04e58", func := "naskh/naskhlaw03.SpanGroups", spec := "spanGroups", unfollowed := true, recurses := true, apart := false }
def SpanGroupsSaid : Prop := spanGroupsRow.holds Try.pinned (OpenSpec.ofChange spanGroupsSpec)

/-- ITS FALSE NEIGHBOUR: 'it returns false'. Refute it at one input. -/
def spanGroupsWrong : ChangeSpec := { name := "spanGroups", fn := fun _ => fun
  | [d1, d2] => { results := [.lit (.bool false)], args := [d1, d2] }
  | _ => none }
def SpanGroupsWrongFalsely : Prop := spanGroupsRow.holds Try.pinned (OpenSpec.ofChange spanGroupsWrong)

/-- 'naskhlaw04.ClusterChecks': WHATEVER THE INPUT: true; the input reads as it did. -/
def clusterChecksSpec : ChangeSpec := { name := "clusterChecks", fn := fun _ => fun
  | [d1, d2, d3] => { results := [.lit (.bool true)], args := [d1, d2, d3] }
  | _ => none }
def clusterChecksRow : OpenClaim := { program := "ythhjcdnhlpjfnaa", sum := "151f330ca8e07a4813be3cf349ef7f68c8ee4dc56b6a4e10bb2d87d645b04e58", func := "naskh/naskhlaw04.ClusterChecks", spec := "clusterChecks", unfollowed := true, recurses := true, apart := false }
def ClusterChecksSaid : Prop := clusterChecksRow.holds Try.pinned (OpenSpec.ofChange clusterChecksSpec)

/-- ITS FALSE NEIGHBOUR: 'it returns false'. Refute it at one input. -/
def clusterChecksWrong : ChangeSpec := { name := "clusterChecks", fn := fun _ => fun
  | [d1, d2, d3] => { results := [.lit (.bool false)], args := [d1, d2, d3] }
  | _ => none }
def ClusterChecksWrongFalsely : Prop := clusterChecksRow.holds Try.pinned (OpenSpec.ofChange clusterChecksWrong)

/-- 'naskhlaw04.ClusterFinest': WHATEVER THE INPUT: true; the input reads as it did. -/
def clusterFinestSpec : ChangeSpec := { name := "clusterFinest", fn := fun _ => fun
  | [d1, d2, d3] => { results := [.lit (.bool true)], args := [d1, d2, d3] }
  | _ => none }
def clusterFinestRow : OpenClaim := { program := "ythhjcdnhlpjfnaa", sum := "151f330ca8e07a4813be3cf349ef7f68c8ee4dc56b6a4e10bb2d87d645b04e58", func := "naskh/naskhlaw04.ClusterFinest", spec := "clusterFinest", unfollowed := true, recurses := true, apart := false }
def ClusterFinestSaid : Prop := clusterFinestRow.holds Try.pinned (OpenSpec.ofChange clusterFinestSpec)

/-- ITS FALSE NEIGHBOUR: 'it returns false'. Refute it at one input. -/
def clusterFinestWrong : ChangeSpec := { name := "clusterFinest", fn := fun _ => fun
  | [d1, d2, d3] => { results := [.lit (.bool false)], args := [d1, d2, d3] }
  | _ => none }
def ClusterFinestWrongFalsely : Prop := clusterFinestRow.holds Try.pinned (OpenSpec.ofChange clusterFinestWrong)

/-- 'naskhlaw04.ClusterWhole': WHATEVER THE INPUT: true; the input reads as it did. -/
def clusterWholeSpec : ChangeSpec := { name := "clusterWhole", fn := fun _ => fun
  | [d1, d2, d3] => { results := [.lit (.bool true)], args := [d1, d2, d3] }
  | _ => none }
def clusterWholeRow : OpenClaim := { program := "ythhjcdnhlpjfnaa", sum := "151f330ca8e07a4813be3cf349ef7f68c8ee4dc56b6a4e10bb2d87d645b04e58", func := "naskh/naskhlaw04.ClusterWhole", spec := "clusterWhole", unfollowed := true, recurses := true, apart := false }
def ClusterWholeSaid : Prop := clusterWholeRow.holds Try.pinned (OpenSpec.ofChange clusterWholeSpec)

/-- ITS FALSE NEIGHBOUR: 'it returns false'. Refute it at one input. -/
def clusterWholeWrong : ChangeSpec := { name := "clusterWhole", fn := fun _ => fun
  | [d1, d2, d3] => { results := [.lit (.bool false)], args := [d1, d2, d3] }
  | _ => none }
def ClusterWholeWrongFalsely : Prop := clusterWholeRow.holds Try.pinned (OpenSpec.ofChange clusterWholeWrong)

/-- 'naskhlaw04.ClusterComposes': WHATEVER THE INPUT: true; the input reads as it did. -/
def clusterComposesSpec : ChangeSpec := { name := "clusterComposes", fn := fun _ => fun
  | [d1, d2] => { results := [.lit (.bool true)], args := [d1, d2] }
  | _ => none }
def clusterComposesRow : OpenClaim := { program := "ythhjcdnhlpjfnaa", sum := "151f330ca8e07a4813be3cf349ef7f68c8ee4dc56b6a4e10bb2d87d645b04e58", func := "naskh/naskhlaw04.ClusterComposes", spec := "clusterComposes", unfollowed := true, recurses := true, apart := false }
def ClusterComposesSaid : Prop := clusterComposesRow.holds Try.pinned (OpenSpec.ofChange clusterComposesSpec)

/-- ITS FALSE NEIGHBOUR: 'it returns false'. Refute it at one input. -/
def clusterComposesWrong : ChangeSpec := { name := "clusterComposes", fn := fun _ => fun
  | [d1, d2] => { results := [.lit (.bool false)], args := [d1, d2] }
  | _ => none }
def ClusterComposesWrongFalsely : Prop := clusterComposesRow.holds Try.pinned (OpenSpec.ofChange clusterComposesWrong)

/-- 'naskhlaw04.ClusterSame': WHATEVER THE INPUT: true; the input reads as it did. -/
def clusterSameSpec : ChangeSpec := { name := "clusterSame", fn := fun _ => fun
  | [d1, d2, d3] => { results := [.lit (.bool true)], args := [d1, d2, d3] }
  | _ => none }
def clusterSameRow : OpenClaim := { program := "ythhjcdnhlpjfnaa", sum := "151f330ca8e07a4813be3cf349ef7f68c8ee4dc56b6a4e10bb2d87d645b04e58", func := "naskh/naskhlaw04.ClusterSame", spec := "clusterSame", unfollowed := true, recurses := true, apart := false }
def ClusterSameSaid : Prop := clusterSameRow.holds Try.pinned (OpenSpec.ofChange clusterSameSpec)

/-- ITS FALSE NEIGHBOUR: 'it returns false'. Refute it at one input. -/
def clusterSameWrong : ChangeSpec := { name := "clusterSame", fn := fun _ => fun
  | [d1, d2, d3] => { results := [.lit (.bool false)], args := [d1, d2, d3] }
  | _ => none }
def ClusterSameWrongFalsely : Prop := clusterSameRow.holds Try.pinned (OpenSpec.ofChange clusterSameWrong)

/-- 'naskhlaw04.ClusterTurns': WHATEVER THE INPUT: true; the input reads as it did. -/
def clusterTurnsSpec : ChangeSpec := { name := "clusterTurns", fn := fun _ => fun
  | [d1, d2] => { results := [.lit (.bool true)], args := [d1, d2] }
  | _ => none }
def clusterTurnsRow : OpenClaim := { program := "ythhjcdnhlpjfnaa", sum := "151f330ca8e07a4813be3cf349ef7f68c8ee4dc56b6a4e10bb2d87d645b04e58", func := "naskh/naskhlaw04.ClusterTurns", spec := "clusterTurns", unfollowed := true, recurses := true, apart := false }
def ClusterTurnsSaid : Prop := clusterTurnsRow.holds Try.pinned (OpenSpec.ofChange clusterTurnsSpec)

/-- ITS FALSE NEIGHBOUR: 'it returns false'. Refute it at one input. -/
def clusterTurnsWrong : ChangeSpec := { name := "clusterTurns", fn := fun _ => fun
  | [d1, d2] => { results := [.lit (.bool false)], args := [d1, d2] }
  | _ => none }
def ClusterTurnsWrongFalsely : Prop := clusterTurnsRow.holds Try.pinned (OpenSpec.ofChange clusterTurnsWrong)

/-- 'naskhlaw05.IndexClusters': WHATEVER THE INPUT: true; the input reads as it did. -/
def indexClustersSpec : ChangeSpec := { name := "indexClusters", fn := fun _ => fun
  | [d1, d2, d3] => { results := [.lit (.bool true)], args := [d1, d2, d3] }
  | _ => none }
def indexClustersRow : OpenClaim := { program := "ythhjcdnhlpjfnaa", sum := "151f330ca8e07a4813be3cf349ef7f68c8ee4dc56b6a4e10bb2d87d645b04e58", func := "naskh/naskhlaw05.IndexClusters", spec := "indexClusters", unfollowed := true, recurses := true, apart := false }
def IndexClustersSaid : Prop := indexClustersRow.holds Try.pinned (OpenSpec.ofChange indexClustersSpec)

/-- ITS FALSE NEIGHBOUR: 'it returns false'. Refute it at one input. -/
def indexClustersWrong : ChangeSpec := { name := "indexClusters", fn := fun _ => fun
  | [d1, d2, d3] => { results := [.lit (.bool false)], args := [d1, d2, d3] }
  | _ => none }
def IndexClustersWrongFalsely : Prop := indexClustersRow.holds Try.pinned (OpenSpec.ofChange indexClustersWrong)

/- THE SECOND FORM. 'bulk': how many values and letters a reading holds, each counted each time it is reached (what is shared counts as often as it is met; a slice's spare places count too). A statement '..UptoSaid' is the law's where the arguments, and the package variables that the reading takes, are together of bulk at most 1048576: NARROWER than '..Said'. Prove '..Said' where nothing that the law and all that it calls make is longer than what came in: it says more and counts as full. Else prove '..UptoSaid'. A law counts once. -/
mutual
def uptoBulk {H : Type} : DataW H → Nat
  | .lit (.string bytes) => bytes.length + 1
  | .lit _ => 1
  | .nil => 1
  | .ptr d => uptoBulk d + 1
  | .slice elems spare => uptoBulkAll elems + uptoBulkAll spare + 1
  | .agg parts => uptoBulkAll parts + 1
  | .iface _ d => uptoBulk d + 1
  | .map entries => uptoBulkEntries entries + 1
  | .held _ => 1
def uptoBulkAll {H : Type} : List (DataW H) → Nat
  | [] => 0
  | d :: r => uptoBulk d + uptoBulkAll r
def uptoBulkEntries {H : Type} : List (Lit × DataW H) → Nat
  | [] => 0
  | x :: r => uptoBulkEntry x + uptoBulkEntries r
def uptoBulkEntry {H : Type} : Lit × DataW H → Nat
  | (.string bytes, d) => bytes.length + uptoBulk d + 1
  | (_, d) => uptoBulk d + 1
 end
def uptoSmall : (H : Type) → List (DataW H) → Bool := fun _ ds => decide (uptoBulkAll ds ≤ 1048576)
def OpenSpec.upto (s : _root_.Go.ChangeSpec) : _root_.Go.OpenSpec := { _root_.Go.OpenSpec.ofChange s with cond := some uptoSmall }

/-- 'naskhlaw03.SpanGroups', WHERE WHAT IT READS IS OF BULK AT MOST 1048576: true; the input reads as it did. -/
def spanGroupsUptoRow : OpenClaim := { program := "ythhjcdnhlpjfnaa", sum := "151f330ca8e07a4813be3cf349ef7f68c8ee4dc56b6a4e10bb2d87d645b04e58", func := "naskh/naskhlaw03.SpanGroups", spec := "spanGroups", unfollowed := true, recurses := true, apart := false, narrowed := true }
def SpanGroupsUptoSaid : Prop := spanGroupsUptoRow.holds Try.pinned (OpenSpec.upto spanGroupsSpec)

/-- 'naskhlaw04.ClusterChecks', WHERE WHAT IT READS IS OF BULK AT MOST 1048576: true; the input reads as it did. -/
def clusterChecksUptoRow : OpenClaim := { program := "ythhjcdnhlpjfnaa", sum := "151f330ca8e07a4813be3cf349ef7f68c8ee4dc56b6a4e10bb2d87d645b04e58", func := "naskh/naskhlaw04.ClusterChecks", spec := "clusterChecks", unfollowed := true, recurses := true, apart := false, narrowed := true }
def ClusterChecksUptoSaid : Prop := clusterChecksUptoRow.holds Try.pinned (OpenSpec.upto clusterChecksSpec)

/-- 'naskhlaw04.ClusterFinest', WHERE WHAT IT READS IS OF BULK AT MOST 1048576: true; the input reads as it did. -/
def clusterFinestUptoRow : OpenClaim := { program := "ythhjcdnhlpjfnaa", sum := "151f330ca8e07a4813be3cf349ef7f68c8ee4dc56b6a4e10bb2d87d645b04e58", func := "naskh/naskhlaw04.ClusterFinest", spec := "clusterFinest", unfollowed := true, recurses := true, apart := false, narrowed := true }
def ClusterFinestUptoSaid : Prop := clusterFinestUptoRow.holds Try.pinned (OpenSpec.upto clusterFinestSpec)

/-- 'naskhlaw04.ClusterWhole', WHERE WHAT IT READS IS OF BULK AT MOST 1048576: true; the input reads as it did. -/
def clusterWholeUptoRow : OpenClaim := { program := "ythhjcdnhlpjfnaa", sum := "151f330ca8e07a4813be3cf349ef7f68c8ee4dc56b6a4e10bb2d87d645b04e58", func := "naskh/naskhlaw04.ClusterWhole", spec := "clusterWhole", unfollowed := true, recurses := true, apart := false, narrowed := true }
def ClusterWholeUptoSaid : Prop := clusterWholeUptoRow.holds Try.pinned (OpenSpec.upto clusterWholeSpec)

/-- 'naskhlaw04.ClusterComposes', WHERE WHAT IT READS IS OF BULK AT MOST 1048576: true; the input reads as it did. -/
def clusterComposesUptoRow : OpenClaim := { program := "ythhjcdnhlpjfnaa", sum := "151f330ca8e07a4813be3cf349ef7f68c8ee4dc56b6a4e10bb2d87d645b04e58", func := "naskh/naskhlaw04.ClusterComposes", spec := "clusterComposes", unfollowed := true, recurses := true, apart := false, narrowed := true }
def ClusterComposesUptoSaid : Prop := clusterComposesUptoRow.holds Try.pinned (OpenSpec.upto clusterComposesSpec)

/-- 'naskhlaw04.ClusterSame', WHERE WHAT IT READS IS OF BULK AT MOST 1048576: true; the input reads as it did. -/
def clusterSameUptoRow : OpenClaim := { program := "ythhjcdnhlpjfnaa", sum := "151f330ca8e07a4813be3cf349ef7f68c8ee4dc56b6a4e10bb2d87d645b04e58", func := "naskh/naskhlaw04.ClusterSame", spec := "clusterSame", unfollowed := true, recurses := true, apart := false, narrowed := true }
def ClusterSameUptoSaid : Prop := clusterSameUptoRow.holds Try.pinned (OpenSpec.upto clusterSameSpec)

/-- 'naskhlaw04.ClusterTurns', WHERE WHAT IT READS IS OF BULK AT MOST 1048576: true; the input reads as it did. -/
def clusterTurnsUptoRow : OpenClaim := { program := "ythhjcdnhlpjfnaa", sum := "151f330ca8e07a4813be3cf349ef7f68c8ee4dc56b6a4e10bb2d87d645b04e58", func := "naskh/naskhlaw04.ClusterTurns", spec := "clusterTurns", unfollowed := true, recurses := true, apart := false, narrowed := true }
def ClusterTurnsUptoSaid : Prop := clusterTurnsUptoRow.holds Try.pinned (OpenSpec.upto clusterTurnsSpec)

/-- 'naskhlaw05.IndexClusters', WHERE WHAT IT READS IS OF BULK AT MOST 1048576: true; the input reads as it did. -/
def indexClustersUptoRow : OpenClaim := { program := "ythhjcdnhlpjfnaa", sum := "151f330ca8e07a4813be3cf349ef7f68c8ee4dc56b6a4e10bb2d87d645b04e58", func := "naskh/naskhlaw05.IndexClusters", spec := "indexClusters", unfollowed := true, recurses := true, apart := false, narrowed := true }
def IndexClustersUptoSaid : Prop := indexClustersUptoRow.holds Try.pinned (OpenSpec.upto indexClustersSpec)

end Rows
end Go.Proofs.Ythhjcdnhlpjfnaa
