/-
  No cell of these rows narrows 'for every input' (looked for: loops, veiled, ifaces, maps, wideKeys, modest, calm, conditions, laid).
  DERIVED. THE GIVEN ROWS OF THIS SEAT. 5 by the template 'for every input the law returns true; each argument reads behind the call as it read before'; 0 by the template 'total and deterministic' (their statements: YtnmpoipakmjbpaaTotals.lean).
  GIVEN WITH THE SEED: the statements are not yours to turn. If you find one false, say at which input.
  Laid BY PROGRAM, IN A SANDBOX (cutbox-rows.mjs): the forced cells as the released guide's own fill.sh prints them over the translation c415be5dd6c4dbe2… (all of the seat's roots in one cut). By AI agents, Wed Nov 11 2026. No macro, syntax, notation, axiom, sorry.
-/
import Derived.Test.YtnmpoipakmjbpaaChecked
import GoSem.Claim
import GoSem.ClaimJoined
import GoSem.ClaimMapViews
import Derived.JoinedTies
import Derived.KernelRfl
namespace Go.Proofs.Ytnmpoipakmjbpaa
/- THE CELL 'sum', in the pinned program and in every row, IS THE sha256 OF THE DUMP (.gsa) THAT YtnmpoipakmjbpaaProg.lean LOADS. Nothing in Lean hashes anything: it is a label: what it is worth is what the hold of that sum in a sandbox is worth. -/
noncomputable def Try.pinned : Pinned := { name := "ytnmpoipakmjbpaa", sum := "c415be5dd6c4dbe275ca462dc9dae34faf0e978e2521b990ca1f1ab90a628064", checked := Try.checked }
namespace Rows
def none {H : Type} : Left H := { results := [], args := [] }

/-- 'naskhlaw23.SeqTells': WHATEVER THE INPUT: true; the input reads as it did. -/
def seqTellsSpec : ChangeSpec := { name := "seqTells", fn := fun _ => fun
  | [d1, d2, d3, d4] => { results := [.lit (.bool true)], args := [d1, d2, d3, d4] }
  | _ => none }
def seqTellsRow : OpenClaim := { program := "ytnmpoipakmjbpaa", sum := "c415be5dd6c4dbe275ca462dc9dae34faf0e978e2521b990ca1f1ab90a628064", func := "naskh/naskhlaw23.SeqTells", spec := "seqTells", unfollowed := true, recurses := true, apart := false }
def SeqTellsSaid : Prop := seqTellsRow.holds Try.pinned (OpenSpec.ofChange seqTellsSpec)

/-- ITS FALSE NEIGHBOUR: 'it returns false'. Refute it at one input. -/
def seqTellsWrong : ChangeSpec := { name := "seqTells", fn := fun _ => fun
  | [d1, d2, d3, d4] => { results := [.lit (.bool false)], args := [d1, d2, d3, d4] }
  | _ => none }
def SeqTellsWrongFalsely : Prop := seqTellsRow.holds Try.pinned (OpenSpec.ofChange seqTellsWrong)

/-- 'naskhlaw23.SeqOf': WHATEVER THE INPUT: true; the input reads as it did. -/
def seqOfSpec : ChangeSpec := { name := "seqOf", fn := fun _ => fun
  | [d1, d2] => { results := [.lit (.bool true)], args := [d1, d2] }
  | _ => none }
def seqOfRow : OpenClaim := { program := "ytnmpoipakmjbpaa", sum := "c415be5dd6c4dbe275ca462dc9dae34faf0e978e2521b990ca1f1ab90a628064", func := "naskh/naskhlaw23.SeqOf", spec := "seqOf", apart := false }
def SeqOfSaid : Prop := seqOfRow.holds Try.pinned (OpenSpec.ofChange seqOfSpec)

/-- ITS FALSE NEIGHBOUR: 'it returns false'. Refute it at one input. -/
def seqOfWrong : ChangeSpec := { name := "seqOf", fn := fun _ => fun
  | [d1, d2] => { results := [.lit (.bool false)], args := [d1, d2] }
  | _ => none }
def SeqOfWrongFalsely : Prop := seqOfRow.holds Try.pinned (OpenSpec.ofChange seqOfWrong)

/-- 'naskhlaw23.SeqOnce': WHATEVER THE INPUT: true; the input reads as it did. -/
def seqOnceSpec : ChangeSpec := { name := "seqOnce", fn := fun _ => fun
  | [d1, d2] => { results := [.lit (.bool true)], args := [d1, d2] }
  | _ => none }
def seqOnceRow : OpenClaim := { program := "ytnmpoipakmjbpaa", sum := "c415be5dd6c4dbe275ca462dc9dae34faf0e978e2521b990ca1f1ab90a628064", func := "naskh/naskhlaw23.SeqOnce", spec := "seqOnce", apart := false }
def SeqOnceSaid : Prop := seqOnceRow.holds Try.pinned (OpenSpec.ofChange seqOnceSpec)

/-- ITS FALSE NEIGHBOUR: 'it returns false'. Refute it at one input. -/
def seqOnceWrong : ChangeSpec := { name := "seqOnce", fn := fun _ => fun
  | [d1, d2] => { results := [.lit (.bool false)], args := [d1, d2] }
  | _ => none }
def SeqOnceWrongFalsely : Prop := seqOnceRow.holds Try.pinned (OpenSpec.ofChange seqOnceWrong)

/-- 'naskhlaw24.WeakGone': WHATEVER THE INPUT: true; the input reads as it did. -/
def weakGoneSpec : ChangeSpec := { name := "weakGone", fn := fun _ => fun
  | [d1, d2] => { results := [.lit (.bool true)], args := [d1, d2] }
  | _ => none }
def weakGoneRow : OpenClaim := { program := "ytnmpoipakmjbpaa", sum := "c415be5dd6c4dbe275ca462dc9dae34faf0e978e2521b990ca1f1ab90a628064", func := "naskh/naskhlaw24.WeakGone", spec := "weakGone", unfollowed := true, recurses := true, apart := false }
def WeakGoneSaid : Prop := weakGoneRow.holds Try.pinned (OpenSpec.ofChange weakGoneSpec)

/-- ITS FALSE NEIGHBOUR: 'it returns false'. Refute it at one input. -/
def weakGoneWrong : ChangeSpec := { name := "weakGone", fn := fun _ => fun
  | [d1, d2] => { results := [.lit (.bool false)], args := [d1, d2] }
  | _ => none }
def WeakGoneWrongFalsely : Prop := weakGoneRow.holds Try.pinned (OpenSpec.ofChange weakGoneWrong)

/-- 'naskhlaw24.WeakParts': WHATEVER THE INPUT: true; the input reads as it did. -/
def weakPartsSpec : ChangeSpec := { name := "weakParts", fn := fun _ => fun
  | [d1, d2, d3] => { results := [.lit (.bool true)], args := [d1, d2, d3] }
  | _ => none }
def weakPartsRow : OpenClaim := { program := "ytnmpoipakmjbpaa", sum := "c415be5dd6c4dbe275ca462dc9dae34faf0e978e2521b990ca1f1ab90a628064", func := "naskh/naskhlaw24.WeakParts", spec := "weakParts", unfollowed := true, recurses := true, apart := false }
def WeakPartsSaid : Prop := weakPartsRow.holds Try.pinned (OpenSpec.ofChange weakPartsSpec)

/-- ITS FALSE NEIGHBOUR: 'it returns false'. Refute it at one input. -/
def weakPartsWrong : ChangeSpec := { name := "weakParts", fn := fun _ => fun
  | [d1, d2, d3] => { results := [.lit (.bool false)], args := [d1, d2, d3] }
  | _ => none }
def WeakPartsWrongFalsely : Prop := weakPartsRow.holds Try.pinned (OpenSpec.ofChange weakPartsWrong)

/- THE SECOND FORM. 'bulk': how many values and letters a reading holds, each counted each time it is reached (what is shared counts as often as it is met; a slice's spare places count too). A statement '..UptoSaid' is the law's where the arguments, and the package variables that the reading takes, are together of bulk at most 1048576: NARROWER than '..Said'. Prove '..Said' where nothing that the law and all that it calls make is longer than what came in: it says more and counts as full. Else prove '..UptoSaid'. A law counts once. -/
mutual
def uptoBulk {H : Type} : DataW H → Nat
  | .lit (.string bytes) => bytes.length + 1
  | .lit _ => 1
  | .nil => 1
  | .ptr d => uptoBulk d + 1
  | .slice elems spare => uptoBulkAll elems + uptoBulkAll spare + 1
  | .agg parts => uptoBulkAll parts + 1
  | .iface _ d => uptoBulk d + 1
  | .map entries => uptoBulkEntries entries + 1
  | .held _ => 1
def uptoBulkAll {H : Type} : List (DataW H) → Nat
  | [] => 0
  | d :: r => uptoBulk d + uptoBulkAll r
def uptoBulkEntries {H : Type} : List (Lit × DataW H) → Nat
  | [] => 0
  | x :: r => uptoBulkEntry x + uptoBulkEntries r
def uptoBulkEntry {H : Type} : Lit × DataW H → Nat
  | (.string bytes, d) => bytes.length + uptoBulk d + 1
  | (_, d) => uptoBulk d + 1
 end
def uptoSmall : (H : Type) → List (DataW H) → Bool := fun _ ds => decide (uptoBulkAll ds ≤ 1048576)
def OpenSpec.upto (s : _root_.Go.ChangeSpec) : _root_.Go.OpenSpec := { _root_.Go.OpenSpec.ofChange s with cond := some uptoSmall }

/-- 'naskhlaw23.SeqTells', WHERE WHAT IT READS IS OF BULK AT MOST 1048576: true; the input reads as it did. -/
def seqTellsUptoRow : OpenClaim := { program := "ytnmpoipakmjbpaa", sum := "c415be5dd6c4dbe275ca462dc9dae34faf0e978e2521b990ca1f1ab90a628064", func := "naskh/naskhlaw23.SeqTells", spec := "seqTells", unfollowed := true, recurses := true, apart := false, narrowed := true }
def SeqTellsUptoSaid : Prop := seqTellsUptoRow.holds Try.pinned (OpenSpec.upto seqTellsSpec)

/-- 'naskhlaw23.SeqOf', WHERE WHAT IT READS IS OF BULK AT MOST 1048576: true; the input reads as it did. -/
def seqOfUptoRow : OpenClaim := { program := "ytnmpoipakmjbpaa", sum := "c415be5dd6c4dbe275ca462dc9dae34faf0e978e2521b990ca1f1ab90a628064", func := "naskh/naskhlaw23.SeqOf", spec := "seqOf", apart := false, narrowed := true }
def SeqOfUptoSaid : Prop := seqOfUptoRow.holds Try.pinned (OpenSpec.upto seqOfSpec)

/-- 'naskhlaw23.SeqOnce', WHERE WHAT IT READS IS OF BULK AT MOST 1048576: true; the input reads as it did. -/
def seqOnceUptoRow : OpenClaim := { program := "ytnmpoipakmjbpaa", sum := "c415be5dd6c4dbe275ca462dc9dae34faf0e978e2521b990ca1f1ab90a628064", func := "naskh/naskhlaw23.SeqOnce", spec := "seqOnce", apart := false, narrowed := true }
def SeqOnceUptoSaid : Prop := seqOnceUptoRow.holds Try.pinned (OpenSpec.upto seqOnceSpec)

/-- 'naskhlaw24.WeakGone', WHERE WHAT IT READS IS OF BULK AT MOST 1048576: true; the input reads as it did. -/
def weakGoneUptoRow : OpenClaim := { program := "ytnmpoipakmjbpaa", sum := "c415be5dd6c4dbe275ca462dc9dae34faf0e978e2521b990ca1f1ab90a628064", func := "naskh/naskhlaw24.WeakGone", spec := "weakGone", unfollowed := true, recurses := true, apart := false, narrowed := true }
def WeakGoneUptoSaid : Prop := weakGoneUptoRow.holds Try.pinned (OpenSpec.upto weakGoneSpec)

/-- 'naskhlaw24.WeakParts', WHERE WHAT IT READS IS OF BULK AT MOST 1048576: true; the input reads as it did. -/
def weakPartsUptoRow : OpenClaim := { program := "ytnmpoipakmjbpaa", sum := "c415be5dd6c4dbe275ca462dc9dae34faf0e978e2521b990ca1f1ab90a628064", func := "naskh/naskhlaw24.WeakParts", spec := "weakParts", unfollowed := true, recurses := true, apart := false, narrowed := true }
def WeakPartsUptoSaid : Prop := weakPartsUptoRow.holds Try.pinned (OpenSpec.upto weakPartsSpec)

end Rows
end Go.Proofs.Ytnmpoipakmjbpaa
