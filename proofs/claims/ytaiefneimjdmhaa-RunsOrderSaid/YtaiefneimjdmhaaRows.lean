/-
  No cell of these rows narrows 'for every input' (looked for: loops, veiled, ifaces, maps, wideKeys, modest, calm, conditions, laid).
  DERIVED. THE GIVEN ROWS OF THIS SEAT. 7 by the template 'for every input the law returns true; each argument reads behind the call as it read before'; 0 by the template 'total and deterministic' (their statements: YtaiefneimjdmhaaTotals.lean).
  GIVEN WITH THE SEED: the statements are not yours to turn. If you find one false, say at which input.
  Laid BY PROGRAM, IN A SANDBOX (cutbox-rows.mjs): the forced cells as the released guide's own fill.sh prints them over the translation 3670ad69cd0406ca… (all of the seat's roots in one cut). By AI agents, Wed Nov 11 2026. No macro, syntax, notation, axiom, sorry.
-/
import Derived.Test.YtaiefneimjdmhaaChecked
import GoSem.Claim
import GoSem.ClaimJoined
import GoSem.ClaimMapViews
import Derived.JoinedTies
import Derived.KernelRfl
namespace Go.Proofs.Ytaiefneimjdmhaa
/- THE CELL 'sum', in the pinned program and in every row, IS THE sha256 OF THE DUMP (.gsa) THAT YtaiefneimjdmhaaProg.lean LOADS. Nothing in Lean hashes anything: it is a label: what it is worth is what the hold of that sum in a sandbox is worth. -/
noncomputable def Try.pinned : Pinned := { name := "ytaiefneimjdmhaa", sum := "3670ad69cd0406cab656e1bfbe14d7510472467fa2135270e1cc4a8048c60368", checked := Try.checked }
namespace Rows
def none {H : Type} : Left H := { results := [], args := [] }

/-- 'naskhlaw29.OrderVisual': WHATEVER THE INPUT: true; the input reads as it did. -/
def orderVisualSpec : ChangeSpec := { name := "orderVisual", fn := fun _ => fun
  | [d] => { results := [.lit (.bool true)], args := [d] }
  | _ => none }
def orderVisualRow : OpenClaim := { program := "ytaiefneimjdmhaa", sum := "3670ad69cd0406cab656e1bfbe14d7510472467fa2135270e1cc4a8048c60368", func := "naskh/naskhlaw29.OrderVisual", spec := "orderVisual", apart := false }
def OrderVisualSaid : Prop := orderVisualRow.holds Try.pinned (OpenSpec.ofChange orderVisualSpec)

/-- ITS FALSE NEIGHBOUR: 'it returns false'. Refute it at one input. -/
def orderVisualWrong : ChangeSpec := { name := "orderVisual", fn := fun _ => fun
  | [d] => { results := [.lit (.bool false)], args := [d] }
  | _ => none }
def OrderVisualWrongFalsely : Prop := orderVisualRow.holds Try.pinned (OpenSpec.ofChange orderVisualWrong)

/-- 'naskhlaw29.OrderTells': WHATEVER THE INPUT: true; the input reads as it did. -/
def orderTellsSpec : ChangeSpec := { name := "orderTells", fn := fun _ => fun
  | [d1, d2] => { results := [.lit (.bool true)], args := [d1, d2] }
  | _ => none }
def orderTellsRow : OpenClaim := { program := "ytaiefneimjdmhaa", sum := "3670ad69cd0406cab656e1bfbe14d7510472467fa2135270e1cc4a8048c60368", func := "naskh/naskhlaw29.OrderTells", spec := "orderTells", apart := false }
def OrderTellsSaid : Prop := orderTellsRow.holds Try.pinned (OpenSpec.ofChange orderTellsSpec)

/-- ITS FALSE NEIGHBOUR: 'it returns false'. Refute it at one input. -/
def orderTellsWrong : ChangeSpec := { name := "orderTells", fn := fun _ => fun
  | [d1, d2] => { results := [.lit (.bool false)], args := [d1, d2] }
  | _ => none }
def OrderTellsWrongFalsely : Prop := orderTellsRow.holds Try.pinned (OpenSpec.ofChange orderTellsWrong)

/-- 'naskhlaw29.OrderInverse': WHATEVER THE INPUT: true; the input reads as it did. -/
def orderInverseSpec : ChangeSpec := { name := "orderInverse", fn := fun _ => fun
  | [d1, d2] => { results := [.lit (.bool true)], args := [d1, d2] }
  | _ => none }
def orderInverseRow : OpenClaim := { program := "ytaiefneimjdmhaa", sum := "3670ad69cd0406cab656e1bfbe14d7510472467fa2135270e1cc4a8048c60368", func := "naskh/naskhlaw29.OrderInverse", spec := "orderInverse", apart := false }
def OrderInverseSaid : Prop := orderInverseRow.holds Try.pinned (OpenSpec.ofChange orderInverseSpec)

/-- ITS FALSE NEIGHBOUR: 'it returns false'. Refute it at one input. -/
def orderInverseWrong : ChangeSpec := { name := "orderInverse", fn := fun _ => fun
  | [d1, d2] => { results := [.lit (.bool false)], args := [d1, d2] }
  | _ => none }
def OrderInverseWrongFalsely : Prop := orderInverseRow.holds Try.pinned (OpenSpec.ofChange orderInverseWrong)

/-- 'naskhlaw29.OrderEven': WHATEVER THE INPUT: true; the input reads as it did. -/
def orderEvenSpec : ChangeSpec := { name := "orderEven", fn := fun _ => fun
  | [d1, d2, d3] => { results := [.lit (.bool true)], args := [d1, d2, d3] }
  | _ => none }
def orderEvenRow : OpenClaim := { program := "ytaiefneimjdmhaa", sum := "3670ad69cd0406cab656e1bfbe14d7510472467fa2135270e1cc4a8048c60368", func := "naskh/naskhlaw29.OrderEven", spec := "orderEven", apart := false }
def OrderEvenSaid : Prop := orderEvenRow.holds Try.pinned (OpenSpec.ofChange orderEvenSpec)

/-- ITS FALSE NEIGHBOUR: 'it returns false'. Refute it at one input. -/
def orderEvenWrong : ChangeSpec := { name := "orderEven", fn := fun _ => fun
  | [d1, d2, d3] => { results := [.lit (.bool false)], args := [d1, d2, d3] }
  | _ => none }
def OrderEvenWrongFalsely : Prop := orderEvenRow.holds Try.pinned (OpenSpec.ofChange orderEvenWrong)

/-- 'naskhlaw30.RunsTell': WHATEVER THE INPUT: true; the input reads as it did. -/
def runsTellSpec : ChangeSpec := { name := "runsTell", fn := fun _ => fun
  | [d] => { results := [.lit (.bool true)], args := [d] }
  | _ => none }
def runsTellRow : OpenClaim := { program := "ytaiefneimjdmhaa", sum := "3670ad69cd0406cab656e1bfbe14d7510472467fa2135270e1cc4a8048c60368", func := "naskh/naskhlaw30.RunsTell", spec := "runsTell", apart := false }
def RunsTellSaid : Prop := runsTellRow.holds Try.pinned (OpenSpec.ofChange runsTellSpec)

/-- ITS FALSE NEIGHBOUR: 'it returns false'. Refute it at one input. -/
def runsTellWrong : ChangeSpec := { name := "runsTell", fn := fun _ => fun
  | [d] => { results := [.lit (.bool false)], args := [d] }
  | _ => none }
def RunsTellWrongFalsely : Prop := runsTellRow.holds Try.pinned (OpenSpec.ofChange runsTellWrong)

/-- 'naskhlaw30.RunsOrder': WHATEVER THE INPUT: true; the input reads as it did. -/
def runsOrderSpec : ChangeSpec := { name := "runsOrder", fn := fun _ => fun
  | [d1, d2] => { results := [.lit (.bool true)], args := [d1, d2] }
  | _ => none }
def runsOrderRow : OpenClaim := { program := "ytaiefneimjdmhaa", sum := "3670ad69cd0406cab656e1bfbe14d7510472467fa2135270e1cc4a8048c60368", func := "naskh/naskhlaw30.RunsOrder", spec := "runsOrder", apart := false }
def RunsOrderSaid : Prop := runsOrderRow.holds Try.pinned (OpenSpec.ofChange runsOrderSpec)

/-- ITS FALSE NEIGHBOUR: 'it returns false'. Refute it at one input. -/
def runsOrderWrong : ChangeSpec := { name := "runsOrder", fn := fun _ => fun
  | [d1, d2] => { results := [.lit (.bool false)], args := [d1, d2] }
  | _ => none }
def RunsOrderWrongFalsely : Prop := runsOrderRow.holds Try.pinned (OpenSpec.ofChange runsOrderWrong)

/-- 'naskhlaw30.RunsParts': WHATEVER THE INPUT: true; the input reads as it did. -/
def runsPartsSpec : ChangeSpec := { name := "runsParts", fn := fun _ => fun
  | [d] => { results := [.lit (.bool true)], args := [d] }
  | _ => none }
def runsPartsRow : OpenClaim := { program := "ytaiefneimjdmhaa", sum := "3670ad69cd0406cab656e1bfbe14d7510472467fa2135270e1cc4a8048c60368", func := "naskh/naskhlaw30.RunsParts", spec := "runsParts", apart := false }
def RunsPartsSaid : Prop := runsPartsRow.holds Try.pinned (OpenSpec.ofChange runsPartsSpec)

/-- ITS FALSE NEIGHBOUR: 'it returns false'. Refute it at one input. -/
def runsPartsWrong : ChangeSpec := { name := "runsParts", fn := fun _ => fun
  | [d] => { results := [.lit (.bool false)], args := [d] }
  | _ => none }
def RunsPartsWrongFalsely : Prop := runsPartsRow.holds Try.pinned (OpenSpec.ofChange runsPartsWrong)

/- THE SECOND FORM. 'bulk': how many values and letters a reading holds, each counted each time it is reached (what is shared counts as often as it is met; a slice's spare places count too). A statement '..UptoSaid' is the law's where the arguments, and the package variables that the reading takes, are together of bulk at most 1048576: NARROWER than '..Said'. Prove '..Said' where nothing that the law and all that it calls make is longer than what came in: it says more and counts as full. Else prove '..UptoSaid'. A law counts once. -/
mutual
def uptoBulk {H : Type} : DataW H → Nat
  | .lit (.string bytes) => bytes.length + 1
  | .lit _ => 1
  | .nil => 1
  | .ptr d => uptoBulk d + 1
  | .slice elems spare => uptoBulkAll elems + uptoBulkAll spare + 1
  | .agg parts => uptoBulkAll parts + 1
  | .iface _ d => uptoBulk d + 1
  | .map entries => uptoBulkEntries entries + 1
  | .held _ => 1
def uptoBulkAll {H : Type} : List (DataW H) → Nat
  | [] => 0
  | d :: r => uptoBulk d + uptoBulkAll r
def uptoBulkEntries {H : Type} : List (Lit × DataW H) → Nat
  | [] => 0
  | x :: r => uptoBulkEntry x + uptoBulkEntries r
def uptoBulkEntry {H : Type} : Lit × DataW H → Nat
  | (.string bytes, d) => bytes.length + uptoBulk d + 1
  | (_, d) => uptoBulk d + 1
 end
def uptoSmall : (H : Type) → List (DataW H) → Bool := fun _ ds => decide (uptoBulkAll ds ≤ 1048576)
def OpenSpec.upto (s : _root_.Go.ChangeSpec) : _root_.Go.OpenSpec := { _root_.Go.OpenSpec.ofChange s with cond := some uptoSmall }

/-- 'naskhlaw29.OrderVisual', WHERE WHAT IT READS IS OF BULK AT MOST 1048576: true; the input reads as it did. -/
def orderVisualUptoRow : OpenClaim := { program := "ytaiefneimjdmhaa", sum := "3670ad69cd0406cab656e1bfbe14d7510472467fa2135270e1cc4a8048c60368", func := "naskh/naskhlaw29.OrderVisual", spec := "orderVisual", apart := false, narrowed := true }
def OrderVisualUptoSaid : Prop := orderVisualUptoRow.holds Try.pinned (OpenSpec.upto orderVisualSpec)

/-- 'naskhlaw29.OrderTells', WHERE WHAT IT READS IS OF BULK AT MOST 1048576: true; the input reads as it did. -/
def orderTellsUptoRow : OpenClaim := { program := "ytaiefneimjdmhaa", sum := "3670ad69cd0406cab656e1bfbe14d7510472467fa2135270e1cc4a8048c60368", func := "naskh/naskhlaw29.OrderTells", spec := "orderTells", apart := false, narrowed := true }
def OrderTellsUptoSaid : Prop := orderTellsUptoRow.holds Try.pinned (OpenSpec.upto orderTellsSpec)

/-- 'naskhlaw29.OrderInverse', WHERE WHAT IT READS IS OF BULK AT MOST 1048576: true; the input reads as it did. -/
def orderInverseUptoRow : OpenClaim := { program := "ytaiefneimjdmhaa", sum := "3670ad69cd0406cab656e1bfbe14d7510472467fa2135270e1cc4a8048c60368", func := "naskh/naskhlaw29.OrderInverse", spec := "orderInverse", apart := false, narrowed := true }
def OrderInverseUptoSaid : Prop := orderInverseUptoRow.holds Try.pinned (OpenSpec.upto orderInverseSpec)

/-- 'naskhlaw29.OrderEven', WHERE WHAT IT READS IS OF BULK AT MOST 1048576: true; the input reads as it did. -/
def orderEvenUptoRow : OpenClaim := { program := "ytaiefneimjdmhaa", sum := "3670ad69cd0406cab656e1bfbe14d7510472467fa2135270e1cc4a8048c60368", func := "naskh/naskhlaw29.OrderEven", spec := "orderEven", apart := false, narrowed := true }
def OrderEvenUptoSaid : Prop := orderEvenUptoRow.holds Try.pinned (OpenSpec.upto orderEvenSpec)

/-- 'naskhlaw30.RunsTell', WHERE WHAT IT READS IS OF BULK AT MOST 1048576: true; the input reads as it did. -/
def runsTellUptoRow : OpenClaim := { program := "ytaiefneimjdmhaa", sum := "3670ad69cd0406cab656e1bfbe14d7510472467fa2135270e1cc4a8048c60368", func := "naskh/naskhlaw30.RunsTell", spec := "runsTell", apart := false, narrowed := true }
def RunsTellUptoSaid : Prop := runsTellUptoRow.holds Try.pinned (OpenSpec.upto runsTellSpec)

/-- 'naskhlaw30.RunsOrder', WHERE WHAT IT READS IS OF BULK AT MOST 1048576: true; the input reads as it did. -/
def runsOrderUptoRow : OpenClaim := { program := "ytaiefneimjdmhaa", sum := "3670ad69cd0406cab656e1bfbe14d7510472467fa2135270e1cc4a8048c60368", func := "naskh/naskhlaw30.RunsOrder", spec := "runsOrder", apart := false, narrowed := true }
def RunsOrderUptoSaid : Prop := runsOrderUptoRow.holds Try.pinned (OpenSpec.upto runsOrderSpec)

/-- 'naskhlaw30.RunsParts', WHERE WHAT IT READS IS OF BULK AT MOST 1048576: true; the input reads as it did. -/
def runsPartsUptoRow : OpenClaim := { program := "ytaiefneimjdmhaa", sum := "3670ad69cd0406cab656e1bfbe14d7510472467fa2135270e1cc4a8048c60368", func := "naskh/naskhlaw30.RunsParts", spec := "runsParts", apart := false, narrowed := true }
def RunsPartsUptoSaid : Prop := runsPartsUptoRow.holds Try.pinned (OpenSpec.upto runsPartsSpec)

end Rows
end Go.Proofs.Ytaiefneimjdmhaa
