/-
  No cell of these rows narrows 'for every input' (looked for: loops, veiled, ifaces, maps, wideKeys, modest, calm, conditions, laid).
  DERIVED. THE GIVEN ROWS OF THIS SEAT. 5 by the template 'for every input the law returns true; each argument reads behind the call as it read before'; 0 by the template 'total and deterministic' (their statements: YtbnjflkafdkcpaaTotals.lean).
  GIVEN WITH THE SEED: the statements are not yours to turn. If you find one false, say at which input.
  Laid BY PROGRAM, IN A SANDBOX (cutbox-rows.mjs): the forced cells as the released guide's own fill.sh prints them over the translation d48cda90119ca765… (all of the seat's roots in one cut). By AI agents, Wed Nov 11 2026. No macro, syntax, notation, axiom, sorry.
-/
import Derived.Test.YtbnjflkafdkcpaaChecked
import GoSem.Claim
import GoSem.ClaimJoined
import GoSem.ClaimMapViews
import Derived.JoinedTies
import Derived.KernelRfl
namespace Go.Proofs.Ytbnjflkafdkcpaa
/- THE CELL 'sum', in the pinned program and in every row, IS THE sha256 OF THE DUMP (.gsa) THAT YtbnjflkafdkcpaaProg.lean LOADS. Nothing in Lean hashes anything: it is a label: what it is worth is what the hold of that sum in a sandbox is worth. -/
noncomputable def Try.pinned : Pinned := { name := "ytbnjflkafdkcpaa", sum := "d48cda90119ca765b4ece5415abcc33eb7cdbd08d2554c847453c599740ecda0", checked := Try.checked }
namespace Rows
def none {H : Type} : Left H := { results := [], args := [] }

/-- 'naskhlaw31.AccentTells': WHATEVER THE INPUT: true; the input reads as it did. -/
def accentTellsSpec : ChangeSpec := { name := "accentTells", fn := fun _ => fun
  | [d1, d2, d3] => { results := [.lit (.bool true)], args := [d1, d2, d3] }
  | _ => none }
def accentTellsRow : OpenClaim := { program := "ytbnjflkafdkcpaa", sum := "d48cda90119ca765b4ece5415abcc33eb7cdbd08d2554c847453c599740ecda0", func := "naskh/naskhlaw31.AccentTells", spec := "accentTells", unfollowed := true, recurses := true, apart := false }
def AccentTellsSaid : Prop := accentTellsRow.holds Try.pinned (OpenSpec.ofChange accentTellsSpec)

/-- ITS FALSE NEIGHBOUR: 'it returns false'. Refute it at one input. -/
def accentTellsWrong : ChangeSpec := { name := "accentTells", fn := fun _ => fun
  | [d1, d2, d3] => { results := [.lit (.bool false)], args := [d1, d2, d3] }
  | _ => none }
def AccentTellsWrongFalsely : Prop := accentTellsRow.holds Try.pinned (OpenSpec.ofChange accentTellsWrong)

/-- 'naskhlaw31.AccentOrder': WHATEVER THE INPUT: true; the input reads as it did. -/
def accentOrderSpec : ChangeSpec := { name := "accentOrder", fn := fun _ => fun
  | [d1, d2] => { results := [.lit (.bool true)], args := [d1, d2] }
  | _ => none }
def accentOrderRow : OpenClaim := { program := "ytbnjflkafdkcpaa", sum := "d48cda90119ca765b4ece5415abcc33eb7cdbd08d2554c847453c599740ecda0", func := "naskh/naskhlaw31.AccentOrder", spec := "accentOrder", unfollowed := true, recurses := true, apart := false }
def AccentOrderSaid : Prop := accentOrderRow.holds Try.pinned (OpenSpec.ofChange accentOrderSpec)

/-- ITS FALSE NEIGHBOUR: 'it returns false'. Refute it at one input. -/
def accentOrderWrong : ChangeSpec := { name := "accentOrder", fn := fun _ => fun
  | [d1, d2] => { results := [.lit (.bool false)], args := [d1, d2] }
  | _ => none }
def AccentOrderWrongFalsely : Prop := accentOrderRow.holds Try.pinned (OpenSpec.ofChange accentOrderWrong)

/-- 'naskhlaw31.AccentNone': WHATEVER THE INPUT: true; the input reads as it did. -/
def accentNoneSpec : ChangeSpec := { name := "accentNone", fn := fun _ => fun
  | [d] => { results := [.lit (.bool true)], args := [d] }
  | _ => none }
def accentNoneRow : OpenClaim := { program := "ytbnjflkafdkcpaa", sum := "d48cda90119ca765b4ece5415abcc33eb7cdbd08d2554c847453c599740ecda0", func := "naskh/naskhlaw31.AccentNone", spec := "accentNone", unfollowed := true, recurses := true, apart := false }
def AccentNoneSaid : Prop := accentNoneRow.holds Try.pinned (OpenSpec.ofChange accentNoneSpec)

/-- ITS FALSE NEIGHBOUR: 'it returns false'. Refute it at one input. -/
def accentNoneWrong : ChangeSpec := { name := "accentNone", fn := fun _ => fun
  | [d] => { results := [.lit (.bool false)], args := [d] }
  | _ => none }
def AccentNoneWrongFalsely : Prop := accentNoneRow.holds Try.pinned (OpenSpec.ofChange accentNoneWrong)

/-- 'naskhlaw32.MirrorTells': WHATEVER THE INPUT: true; the input reads as it did. -/
def mirrorTellsSpec : ChangeSpec := { name := "mirrorTells", fn := fun _ => fun
  | [d1, d2] => { results := [.lit (.bool true)], args := [d1, d2] }
  | _ => none }
def mirrorTellsRow : OpenClaim := { program := "ytbnjflkafdkcpaa", sum := "d48cda90119ca765b4ece5415abcc33eb7cdbd08d2554c847453c599740ecda0", func := "naskh/naskhlaw32.MirrorTells", spec := "mirrorTells", unfollowed := true, recurses := true, apart := false }
def MirrorTellsSaid : Prop := mirrorTellsRow.holds Try.pinned (OpenSpec.ofChange mirrorTellsSpec)

/-- ITS FALSE NEIGHBOUR: 'it returns false'. Refute it at one input. -/
def mirrorTellsWrong : ChangeSpec := { name := "mirrorTells", fn := fun _ => fun
  | [d1, d2] => { results := [.lit (.bool false)], args := [d1, d2] }
  | _ => none }
def MirrorTellsWrongFalsely : Prop := mirrorTellsRow.holds Try.pinned (OpenSpec.ofChange mirrorTellsWrong)

/-- 'naskhlaw32.MirrorBack': WHATEVER THE INPUT: true; the input reads as it did. -/
def mirrorBackSpec : ChangeSpec := { name := "mirrorBack", fn := fun _ => fun
  | [d1, d2] => { results := [.lit (.bool true)], args := [d1, d2] }
  | _ => none }
def mirrorBackRow : OpenClaim := { program := "ytbnjflkafdkcpaa", sum := "d48cda90119ca765b4ece5415abcc33eb7cdbd08d2554c847453c599740ecda0", func := "naskh/naskhlaw32.MirrorBack", spec := "mirrorBack", unfollowed := true, recurses := true, apart := false }
def MirrorBackSaid : Prop := mirrorBackRow.holds Try.pinned (OpenSpec.ofChange mirrorBackSpec)

/-- ITS FALSE NEIGHBOUR: 'it returns false'. Refute it at one input. -/
def mirrorBackWrong : ChangeSpec := { name := "mirrorBack", fn := fun _ => fun
  | [d1, d2] => { results := [.lit (.bool false)], args := [d1, d2] }
  | _ => none }
def MirrorBackWrongFalsely : Prop := mirrorBackRow.holds Try.pinned (OpenSpec.ofChange mirrorBackWrong)

/- THE SECOND FORM. 'bulk': how many values and letters a reading holds, each counted each time it is reached (what is shared counts as often as it is met; a slice's spare places count too). A statement '..UptoSaid' is the law's where the arguments, and the package variables that the reading takes, are together of bulk at most 1048576: NARROWER than '..Said'. Prove '..Said' where nothing that the law and all that it calls make is longer than what came in: it says more and counts as full. Else prove '..UptoSaid'. A law counts once. -/
mutual
def uptoBulk {H : Type} : DataW H → Nat
  | .lit (.string bytes) => bytes.length + 1
  | .lit _ => 1
  | .nil => 1
  | .ptr d => uptoBulk d + 1
  | .slice elems spare => uptoBulkAll elems + uptoBulkAll spare + 1
  | .agg parts => uptoBulkAll parts + 1
  | .iface _ d => uptoBulk d + 1
  | .map entries => uptoBulkEntries entries + 1
  | .held _ => 1
def uptoBulkAll {H : Type} : List (DataW H) → Nat
  | [] => 0
  | d :: r => uptoBulk d + uptoBulkAll r
def uptoBulkEntries {H : Type} : List (Lit × DataW H) → Nat
  | [] => 0
  | x :: r => uptoBulkEntry x + uptoBulkEntries r
def uptoBulkEntry {H : Type} : Lit × DataW H → Nat
  | (.string bytes, d) => bytes.length + uptoBulk d + 1
  | (_, d) => uptoBulk d + 1
 end
def uptoSmall : (H : Type) → List (DataW H) → Bool := fun _ ds => decide (uptoBulkAll ds ≤ 1048576)
def OpenSpec.upto (s : _root_.Go.ChangeSpec) : _root_.Go.OpenSpec := { _root_.Go.OpenSpec.ofChange s with cond := some uptoSmall }

/-- 'naskhlaw31.AccentTells', WHERE WHAT IT READS IS OF BULK AT MOST 1048576: true; the input reads as it did. -/
def accentTellsUptoRow : OpenClaim := { program := "ytbnjflkafdkcpaa", sum := "d48cda90119ca765b4ece5415abcc33eb7cdbd08d2554c847453c599740ecda0", func := "naskh/naskhlaw31.AccentTells", spec := "accentTells", unfollowed := true, recurses := true, apart := false, narrowed := true }
def AccentTellsUptoSaid : Prop := accentTellsUptoRow.holds Try.pinned (OpenSpec.upto accentTellsSpec)

/-- 'naskhlaw31.AccentOrder', WHERE WHAT IT READS IS OF BULK AT MOST 1048576: true; the input reads as it did. -/
def accentOrderUptoRow : OpenClaim := { program := "ytbnjflkafdkcpaa", sum := "d48cda90119ca765b4ece5415abcc33eb7cdbd08d2554c847453c599740ecda0", func := "naskh/naskhlaw31.AccentOrder", spec := "accentOrder", unfollowed := true, recurses := true, apart := false, narrowed := true }
def AccentOrderUptoSaid : Prop := accentOrderUptoRow.holds Try.pinned (OpenSpec.upto accentOrderSpec)

/-- 'naskhlaw31.AccentNone', WHERE WHAT IT READS IS OF BULK AT MOST 1048576: true; the input reads as it did. -/
def accentNoneUptoRow : OpenClaim := { program := "ytbnjflkafdkcpaa", sum := "d48cda90119ca765b4ece5415abcc33eb7cdbd08d2554c847453c599740ecda0", func := "naskh/naskhlaw31.AccentNone", spec := "accentNone", unfollowed := true, recurses := true, apart := false, narrowed := true }
def AccentNoneUptoSaid : Prop := accentNoneUptoRow.holds Try.pinned (OpenSpec.upto accentNoneSpec)

/-- 'naskhlaw32.MirrorTells', WHERE WHAT IT READS IS OF BULK AT MOST 1048576: true; the input reads as it did. -/
def mirrorTellsUptoRow : OpenClaim := { program := "ytbnjflkafdkcpaa", sum := "d48cda90119ca765b4ece5415abcc33eb7cdbd08d2554c847453c599740ecda0", func := "naskh/naskhlaw32.MirrorTells", spec := "mirrorTells", unfollowed := true, recurses := true, apart := false, narrowed := true }
def MirrorTellsUptoSaid : Prop := mirrorTellsUptoRow.holds Try.pinned (OpenSpec.upto mirrorTellsSpec)

/-- 'naskhlaw32.MirrorBack', WHERE WHAT IT READS IS OF BULK AT MOST 1048576: true; the input reads as it did. -/
def mirrorBackUptoRow : OpenClaim := { program := "ytbnjflkafdkcpaa", sum := "d48cda90119ca765b4ece5415abcc33eb7cdbd08d2554c847453c599740ecda0", func := "naskh/naskhlaw32.MirrorBack", spec := "mirrorBack", unfollowed := true, recurses := true, apart := false, narrowed := true }
def MirrorBackUptoSaid : Prop := mirrorBackUptoRow.holds Try.pinned (OpenSpec.upto mirrorBackSpec)

end Rows
end Go.Proofs.Ytbnjflkafdkcpaa
