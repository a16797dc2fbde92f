/-
  No cell of these rows narrows 'for every input' (looked for: loops, veiled, ifaces, maps, wideKeys, modest, calm, conditions, laid).
  DERIVED. THE GIVEN ROWS OF THIS SEAT. 4 by the template 'for every input the law returns true; each argument reads behind the call as it read before'; 0 by the template 'total and deterministic' (their statements: YtdgomaoikeffhaaTotals.lean).
  GIVEN WITH THE SEED: the statements are not yours to turn. If you find one false, say at which input.
  Laid BY PROGRAM, IN A SANDBOX (cutbox-rows.mjs): the forced cells as the released guide's own fill.sh prints them over the translation a3cf3c526efdb04b… (all of the seat's roots in one cut). By AI agents, Wed Nov 11 2026. No macro, syntax, notation, axiom, sorry.
-/
import Derived.Test.YtdgomaoikeffhaaChecked
import GoSem.Claim
import GoSem.ClaimJoined
import GoSem.ClaimMapViews
import Derived.JoinedTies
import Derived.KernelRfl
namespace Go.Proofs.Ytdgomaoikeffhaa
/- THE CELL 'sum', in the pinned program and in every row, IS THE sha256 OF THE DUMP (.gsa) THAT YtdgomaoikeffhaaProg.lean LOADS. Nothing in Lean hashes anything: it is a label: what it is worth is what the hold of that sum in a sandbox is worth. -/
noncomputable def Try.pinned : Pinned := { name := "ytdgomaoikeffhaa", sum := "a3cf3c526efdb04b39332a9aac6a63713a9322802f44ed8f9fe1eeecf9dc4195", checked := Try.checked }
namespace Rows
def none {H : Type} : Left H := { results := [], args := [] }

/-- 'naskhlaw27.ResolveLine': WHATEVER THE INPUT: true; the input reads as it did. -/
def resolveLineSpec : ChangeSpec := { name := "resolveLine", fn := fun _ => fun
  | [d1, d2, d3, d4] => { results := [.lit (.bool true)], args := [d1, d2, d3, d4] }
  | _ => none }
def resolveLineRow : OpenClaim := { program := "ytdgomaoikeffhaa", sum := "a3cf3c526efdb04b39332a9aac6a63713a9322802f44ed8f9fe1eeecf9dc4195", func := "naskh/naskhlaw27.ResolveLine", spec := "resolveLine", unfollowed := true, recurses := true, apart := false }
def ResolveLineSaid : Prop := resolveLineRow.holds Try.pinned (OpenSpec.ofChange resolveLineSpec)

/-- ITS FALSE NEIGHBOUR: 'it returns false'. Refute it at one input. -/
def resolveLineWrong : ChangeSpec := { name := "resolveLine", fn := fun _ => fun
  | [d1, d2, d3, d4] => { results := [.lit (.bool false)], args := [d1, d2, d3, d4] }
  | _ => none }
def ResolveLineWrongFalsely : Prop := resolveLineRow.holds Try.pinned (OpenSpec.ofChange resolveLineWrong)

/-- 'naskhlaw27.ResolveStays': WHATEVER THE INPUT: true; the input reads as it did. -/
def resolveStaysSpec : ChangeSpec := { name := "resolveStays", fn := fun _ => fun
  | [d1, d2, d3, d4] => { results := [.lit (.bool true)], args := [d1, d2, d3, d4] }
  | _ => none }
def resolveStaysRow : OpenClaim := { program := "ytdgomaoikeffhaa", sum := "a3cf3c526efdb04b39332a9aac6a63713a9322802f44ed8f9fe1eeecf9dc4195", func := "naskh/naskhlaw27.ResolveStays", spec := "resolveStays", unfollowed := true, recurses := true, apart := false }
def ResolveStaysSaid : Prop := resolveStaysRow.holds Try.pinned (OpenSpec.ofChange resolveStaysSpec)

/-- ITS FALSE NEIGHBOUR: 'it returns false'. Refute it at one input. -/
def resolveStaysWrong : ChangeSpec := { name := "resolveStays", fn := fun _ => fun
  | [d1, d2, d3, d4] => { results := [.lit (.bool false)], args := [d1, d2, d3, d4] }
  | _ => none }
def ResolveStaysWrongFalsely : Prop := resolveStaysRow.holds Try.pinned (OpenSpec.ofChange resolveStaysWrong)

/-- 'naskhlaw28.BreaksTell': WHATEVER THE INPUT: true; the input reads as it did. -/
def breaksTellSpec : ChangeSpec := { name := "breaksTell", fn := fun _ => fun
  | [d1, d2] => { results := [.lit (.bool true)], args := [d1, d2] }
  | _ => none }
def breaksTellRow : OpenClaim := { program := "ytdgomaoikeffhaa", sum := "a3cf3c526efdb04b39332a9aac6a63713a9322802f44ed8f9fe1eeecf9dc4195", func := "naskh/naskhlaw28.BreaksTell", spec := "breaksTell", unfollowed := true, recurses := true, apart := false }
def BreaksTellSaid : Prop := breaksTellRow.holds Try.pinned (OpenSpec.ofChange breaksTellSpec)

/-- ITS FALSE NEIGHBOUR: 'it returns false'. Refute it at one input. -/
def breaksTellWrong : ChangeSpec := { name := "breaksTell", fn := fun _ => fun
  | [d1, d2] => { results := [.lit (.bool false)], args := [d1, d2] }
  | _ => none }
def BreaksTellWrongFalsely : Prop := breaksTellRow.holds Try.pinned (OpenSpec.ofChange breaksTellWrong)

/-- 'naskhlaw28.BreaksLines': WHATEVER THE INPUT: true; the input reads as it did. -/
def breaksLinesSpec : ChangeSpec := { name := "breaksLines", fn := fun _ => fun
  | [d1, d2, d3] => { results := [.lit (.bool true)], args := [d1, d2, d3] }
  | _ => none }
def breaksLinesRow : OpenClaim := { program := "ytdgomaoikeffhaa", sum := "a3cf3c526efdb04b39332a9aac6a63713a9322802f44ed8f9fe1eeecf9dc4195", func := "naskh/naskhlaw28.BreaksLines", spec := "breaksLines", unfollowed := true, recurses := true, apart := false }
def BreaksLinesSaid : Prop := breaksLinesRow.holds Try.pinned (OpenSpec.ofChange breaksLinesSpec)

/-- ITS FALSE NEIGHBOUR: 'it returns false'. Refute it at one input. -/
def breaksLinesWrong : ChangeSpec := { name := "breaksLines", fn := fun _ => fun
  | [d1, d2, d3] => { results := [.lit (.bool false)], args := [d1, d2, d3] }
  | _ => none }
def BreaksLinesWrongFalsely : Prop := breaksLinesRow.holds Try.pinned (OpenSpec.ofChange breaksLinesWrong)

/- THE SECOND FORM. 'bulk': how many values and letters a reading holds, each counted each time it is reached (what is shared counts as often as it is met; a slice's spare places count too). A statement '..UptoSaid' is the law's where the arguments, and the package variables that the reading takes, are together of bulk at most 1048576: NARROWER than '..Said'. Prove '..Said' where nothing that the law and all that it calls make is longer than what came in: it says more and counts as full. Else prove '..UptoSaid'. A law counts once. -/
mutual
def uptoBulk {H : Type} : DataW H → Nat
  | .lit (.string bytes) => bytes.length + 1
  | .lit _ => 1
  | .nil => 1
  | .ptr d => uptoBulk d + 1
  | .slice elems spare => uptoBulkAll elems + uptoBulkAll spare + 1
  | .agg parts => uptoBulkAll parts + 1
  | .iface _ d => uptoBulk d + 1
  | .map entries => uptoBulkEntries entries + 1
  | .held _ => 1
def uptoBulkAll {H : Type} : List (DataW H) → Nat
  | [] => 0
  | d :: r => uptoBulk d + uptoBulkAll r
def uptoBulkEntries {H : Type} : List (Lit × DataW H) → Nat
  | [] => 0
  | x :: r => uptoBulkEntry x + uptoBulkEntries r
def uptoBulkEntry {H : Type} : Lit × DataW H → Nat
  | (.string bytes, d) => bytes.length + uptoBulk d + 1
  | (_, d) => uptoBulk d + 1
 end
def uptoSmall : (H : Type) → List (DataW H) → Bool := fun _ ds => decide (uptoBulkAll ds ≤ 1048576)
def OpenSpec.upto (s : _root_.Go.ChangeSpec) : _root_.Go.OpenSpec := { _root_.Go.OpenSpec.ofChange s with cond := some uptoSmall }

/-- 'naskhlaw27.ResolveLine', WHERE WHAT IT READS IS OF BULK AT MOST 1048576: true; the input reads as it did. -/
def resolveLineUptoRow : OpenClaim := { program := "ytdgomaoikeffhaa", sum := "a3cf3c526efdb04b39332a9aac6a63713a9322802f44ed8f9fe1eeecf9dc4195", func := "naskh/naskhlaw27.ResolveLine", spec := "resolveLine", unfollowed := true, recurses := true, apart := false, narrowed := true }
def ResolveLineUptoSaid : Prop := resolveLineUptoRow.holds Try.pinned (OpenSpec.upto resolveLineSpec)

/-- 'naskhlaw27.ResolveStays', WHERE WHAT IT READS IS OF BULK AT MOST 1048576: true; the input reads as it did. -/
def resolveStaysUptoRow : OpenClaim := { program := "ytdgomaoikeffhaa", sum := "a3cf3c526efdb04b39332a9aac6a63713a9322802f44ed8f9fe1eeecf9dc4195", func := "naskh/naskhlaw27.ResolveStays", spec := "resolveStays", unfollowed := true, recurses := true, apart := false, narrowed := true }
def ResolveStaysUptoSaid : Prop := resolveStaysUptoRow.holds Try.pinned (OpenSpec.upto resolveStaysSpec)

/-- 'naskhlaw28.BreaksTell', WHERE WHAT IT READS IS OF BULK AT MOST 1048576: true; the input reads as it did. -/
def breaksTellUptoRow : OpenClaim := { program := "ytdgomaoikeffhaa", sum := "a3cf3c526efdb04b39332a9aac6a63713a9322802f44ed8f9fe1eeecf9dc4195", func := "naskh/naskhlaw28.BreaksTell", spec := "breaksTell", unfollowed := true, recurses := true, apart := false, narrowed := true }
def BreaksTellUptoSaid : Prop := breaksTellUptoRow.holds Try.pinned (OpenSpec.upto breaksTellSpec)

/-- 'naskhlaw28.BreaksLines', WHERE WHAT IT READS IS OF BULK AT MOST 1048576: true; the input reads as it did. -/
def breaksLinesUptoRow : OpenClaim := { program := "ytdgomaoikeffhaa", sum := "a3cf3c526efdb04b39332a9aac6a63713a9322802f44ed8f9fe1eeecf9dc4195", func := "naskh/naskhlaw28.BreaksLines", spec := "breaksLines", unfollowed := true, recurses := true, apart := false, narrowed := true }
def BreaksLinesUptoSaid : Prop := breaksLinesUptoRow.holds Try.pinned (OpenSpec.upto breaksLinesSpec)

end Rows
end Go.Proofs.Ytdgomaoikeffhaa
