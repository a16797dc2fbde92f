/-
  NARROWER THAN 'FOR EVERY INPUT', by the rows' own cells (each row's printed sentence says how): WideReads: laid · WideWrites: laid · WideOne: laid · WideBack: laid · WideParts: laid · NarrowReads: laid · NarrowWrites: laid · NarrowOne: laid · NarrowBack: laid · NarrowWhole: laid.
  DERIVED. THE GIVEN ROWS OF THIS SEAT. 10 by the template 'for every input the law returns true; each argument reads behind the call as it read before'; 0 by the template 'total and deterministic' (their statements: YtoopchpolcfdaaaDoorTotals.lean).
  GIVEN WITH THE SEED: the statements are not yours to turn. If you find one false, say at which input.
  Laid BY PROGRAM, IN A SANDBOX (cutbox-rows.mjs): the forced cells as the released guide's own fill.sh prints them over the translation 0f7170796c3b4711… (all of the seat's roots in one cut). By AI agents, Wed Nov 11 2026. No macro, syntax, notation, axiom, sorry.
-/
import Derived.Test.YtoopchpolcfdaaaDoorChecked
import GoSem.Claim
import GoSem.ClaimJoined
import GoSem.ClaimMapViews
import Derived.JoinedTies
import Derived.KernelRfl
namespace Go.Proofs.YtoopchpolcfdaaaDoor
/- THE CELL 'sum', in the pinned program and in every row, IS THE sha256 OF THE DUMP (.gsa) THAT YtoopchpolcfdaaaDoorProg.lean LOADS. Nothing in Lean hashes anything: it is a label: what it is worth is what the hold of that sum in a sandbox is worth. -/
noncomputable def Tryd.pinned : Pinned := { name := "ytoopchpolcfdaaadoor", sum := "0f7170796c3b4711ffad343eb965c89b9155a62e9e7b1a0073f74fcf821c806d", checked := Tryd.checked }
namespace Rows
def none {H : Type} : Left H := { results := [], args := [] }

/- WHAT THE LISTED PACKAGE-LEVEL VARIABLES READ AS WHEN THE CALL BEGINS. Each datum BY PROGRAM (the guide's laid-datum.mjs) off the statement by which the dump's own 'gosem.cut.vars' lays the variable. In a bare row this is a premise. The card (YtoopchpolcfdaaaDoorCards.lean) ties it to the program's text. -/
def laid_naskh_wide_stretches {H : Type} : DataW H := .agg [.agg [.lit (.int .i64 0), .lit (.int .i64 55295), .lit (.int .i64 1)], .agg [.lit (.int .i64 57344), .lit (.int .i64 65535), .lit (.int .i64 1)], .agg [.lit (.int .i64 65536), .lit (.int .i64 1114111), .lit (.int .i64 2)], .agg [.lit (.int .i64 1169408), .lit (.int .i64 1171455), .lit (.int .i64 1)]]
def laid_naskh_narrow_lasts {H : Type} : DataW H := .agg [.lit (.int .i64 127), .lit (.int .i64 2047), .lit (.int .i64 65535), .lit (.int .i64 1114111)]
def laid_naskh_narrow_marks {H : Type} : DataW H := .agg [.lit (.int .i64 0), .lit (.int .i64 0), .lit (.int .i64 192), .lit (.int .i64 224), .lit (.int .i64 240)]
def laid_naskh_narrow_lengths {H : Type} : DataW H := .agg [.lit (.int .i64 1), .lit (.int .i64 1), .lit (.int .i64 1), .lit (.int .i64 1), .lit (.int .i64 1), .lit (.int .i64 1), .lit (.int .i64 1), .lit (.int .i64 1), .lit (.int .i64 0), .lit (.int .i64 0), .lit (.int .i64 0), .lit (.int .i64 0), .lit (.int .i64 2), .lit (.int .i64 2), .lit (.int .i64 3), .lit (.int .i64 4)]

/-- 'naskhlaw01.WideReads': WHATEVER THE INPUT: true; the input reads as it did. -/
def wideReadsSpec : ChangeSpec := { name := "wideReads", fn := fun _ => fun
  | [d] => { results := [.lit (.bool true)], args := [d] }
  | _ => none }
def wideReadsRow : OpenClaim := { program := "ytoopchpolcfdaaadoor", sum := "0f7170796c3b4711ffad343eb965c89b9155a62e9e7b1a0073f74fcf821c806d", func := "naskh/naskhlaw01.WideReads", spec := "wideReads", named := ["naskh/wide.stretches"], apart := false, laid := [("naskh/wide.stretches", laid_naskh_wide_stretches)] }
def WideReadsSaid : Prop := wideReadsRow.holds Tryd.pinned (OpenSpec.ofChange wideReadsSpec)

/-- ITS FALSE NEIGHBOUR: 'it returns false'. Refute it at one input. -/
def wideReadsWrong : ChangeSpec := { name := "wideReads", fn := fun _ => fun
  | [d] => { results := [.lit (.bool false)], args := [d] }
  | _ => none }
def WideReadsWrongFalsely : Prop := wideReadsRow.holds Tryd.pinned (OpenSpec.ofChange wideReadsWrong)

/-- 'naskhlaw01.WideWrites': WHATEVER THE INPUT: true; the input reads as it did. -/
def wideWritesSpec : ChangeSpec := { name := "wideWrites", fn := fun _ => fun
  | [d] => { results := [.lit (.bool true)], args := [d] }
  | _ => none }
def wideWritesRow : OpenClaim := { program := "ytoopchpolcfdaaadoor", sum := "0f7170796c3b4711ffad343eb965c89b9155a62e9e7b1a0073f74fcf821c806d", func := "naskh/naskhlaw01.WideWrites", spec := "wideWrites", unfollowed := true, recurses := true, named := ["naskh/wide.stretches"], apart := false, laid := [("naskh/wide.stretches", laid_naskh_wide_stretches)] }
def WideWritesSaid : Prop := wideWritesRow.holds Tryd.pinned (OpenSpec.ofChange wideWritesSpec)

/-- ITS FALSE NEIGHBOUR: 'it returns false'. Refute it at one input. -/
def wideWritesWrong : ChangeSpec := { name := "wideWrites", fn := fun _ => fun
  | [d] => { results := [.lit (.bool false)], args := [d] }
  | _ => none }
def WideWritesWrongFalsely : Prop := wideWritesRow.holds Tryd.pinned (OpenSpec.ofChange wideWritesWrong)

/-- 'naskhlaw01.WideOne': WHATEVER THE INPUT: true; the input reads as it did. -/
def wideOneSpec : ChangeSpec := { name := "wideOne", fn := fun _ => fun
  | [d] => { results := [.lit (.bool true)], args := [d] }
  | _ => none }
def wideOneRow : OpenClaim := { program := "ytoopchpolcfdaaadoor", sum := "0f7170796c3b4711ffad343eb965c89b9155a62e9e7b1a0073f74fcf821c806d", func := "naskh/naskhlaw01.WideOne", spec := "wideOne", named := ["naskh/wide.stretches"], apart := false, laid := [("naskh/wide.stretches", laid_naskh_wide_stretches)] }
def WideOneSaid : Prop := wideOneRow.holds Tryd.pinned (OpenSpec.ofChange wideOneSpec)

/-- ITS FALSE NEIGHBOUR: 'it returns false'. Refute it at one input. -/
def wideOneWrong : ChangeSpec := { name := "wideOne", fn := fun _ => fun
  | [d] => { results := [.lit (.bool false)], args := [d] }
  | _ => none }
def WideOneWrongFalsely : Prop := wideOneRow.holds Tryd.pinned (OpenSpec.ofChange wideOneWrong)

/-- 'naskhlaw01.WideBack': WHATEVER THE INPUT: true; the input reads as it did. -/
def wideBackSpec : ChangeSpec := { name := "wideBack", fn := fun _ => fun
  | [d] => { results := [.lit (.bool true)], args := [d] }
  | _ => none }
def wideBackRow : OpenClaim := { program := "ytoopchpolcfdaaadoor", sum := "0f7170796c3b4711ffad343eb965c89b9155a62e9e7b1a0073f74fcf821c806d", func := "naskh/naskhlaw01.WideBack", spec := "wideBack", unfollowed := true, recurses := true, named := ["naskh/wide.stretches"], apart := false, laid := [("naskh/wide.stretches", laid_naskh_wide_stretches)] }
def WideBackSaid : Prop := wideBackRow.holds Tryd.pinned (OpenSpec.ofChange wideBackSpec)

/-- ITS FALSE NEIGHBOUR: 'it returns false'. Refute it at one input. -/
def wideBackWrong : ChangeSpec := { name := "wideBack", fn := fun _ => fun
  | [d] => { results := [.lit (.bool false)], args := [d] }
  | _ => none }
def WideBackWrongFalsely : Prop := wideBackRow.holds Tryd.pinned (OpenSpec.ofChange wideBackWrong)

/-- 'naskhlaw01.WideParts': WHATEVER THE INPUT: true; the input reads as it did. -/
def widePartsSpec : ChangeSpec := { name := "wideParts", fn := fun _ => fun
  | [d1, d2] => { results := [.lit (.bool true)], args := [d1, d2] }
  | _ => none }
def widePartsRow : OpenClaim := { program := "ytoopchpolcfdaaadoor", sum := "0f7170796c3b4711ffad343eb965c89b9155a62e9e7b1a0073f74fcf821c806d", func := "naskh/naskhlaw01.WideParts", spec := "wideParts", named := ["naskh/wide.stretches"], apart := false, laid := [("naskh/wide.stretches", laid_naskh_wide_stretches)] }
def WidePartsSaid : Prop := widePartsRow.holds Tryd.pinned (OpenSpec.ofChange widePartsSpec)

/-- ITS FALSE NEIGHBOUR: 'it returns false'. Refute it at one input. -/
def widePartsWrong : ChangeSpec := { name := "wideParts", fn := fun _ => fun
  | [d1, d2] => { results := [.lit (.bool false)], args := [d1, d2] }
  | _ => none }
def WidePartsWrongFalsely : Prop := widePartsRow.holds Tryd.pinned (OpenSpec.ofChange widePartsWrong)

/-- 'naskhlaw02.NarrowReads': WHATEVER THE INPUT: true; the input reads as it did. -/
def narrowReadsSpec : ChangeSpec := { name := "narrowReads", fn := fun _ => fun
  | [d] => { results := [.lit (.bool true)], args := [d] }
  | _ => none }
def narrowReadsRow : OpenClaim := { program := "ytoopchpolcfdaaadoor", sum := "0f7170796c3b4711ffad343eb965c89b9155a62e9e7b1a0073f74fcf821c806d", func := "naskh/naskhlaw02.NarrowReads", spec := "narrowReads", named := ["naskh/narrow.lengths", "naskh/narrow.marks", "naskh/narrow.lasts"], apart := false, laid := [("naskh/narrow.lasts", laid_naskh_narrow_lasts), ("naskh/narrow.marks", laid_naskh_narrow_marks), ("naskh/narrow.lengths", laid_naskh_narrow_lengths)] }
def NarrowReadsSaid : Prop := narrowReadsRow.holds Tryd.pinned (OpenSpec.ofChange narrowReadsSpec)

/-- ITS FALSE NEIGHBOUR: 'it returns false'. Refute it at one input. -/
def narrowReadsWrong : ChangeSpec := { name := "narrowReads", fn := fun _ => fun
  | [d] => { results := [.lit (.bool false)], args := [d] }
  | _ => none }
def NarrowReadsWrongFalsely : Prop := narrowReadsRow.holds Tryd.pinned (OpenSpec.ofChange narrowReadsWrong)

/-- 'naskhlaw02.NarrowWrites': WHATEVER THE INPUT: true; the input reads as it did. -/
def narrowWritesSpec : ChangeSpec := { name := "narrowWrites", fn := fun _ => fun
  | [d] => { results := [.lit (.bool true)], args := [d] }
  | _ => none }
def narrowWritesRow : OpenClaim := { program := "ytoopchpolcfdaaadoor", sum := "0f7170796c3b4711ffad343eb965c89b9155a62e9e7b1a0073f74fcf821c806d", func := "naskh/naskhlaw02.NarrowWrites", spec := "narrowWrites", unfollowed := true, recurses := true, named := ["naskh/narrow.lengths", "naskh/narrow.marks", "naskh/narrow.lasts"], apart := false, laid := [("naskh/narrow.lasts", laid_naskh_narrow_lasts), ("naskh/narrow.marks", laid_naskh_narrow_marks), ("naskh/narrow.lengths", laid_naskh_narrow_lengths)] }
def NarrowWritesSaid : Prop := narrowWritesRow.holds Tryd.pinned (OpenSpec.ofChange narrowWritesSpec)

/-- ITS FALSE NEIGHBOUR: 'it returns false'. Refute it at one input. -/
def narrowWritesWrong : ChangeSpec := { name := "narrowWrites", fn := fun _ => fun
  | [d] => { results := [.lit (.bool false)], args := [d] }
  | _ => none }
def NarrowWritesWrongFalsely : Prop := narrowWritesRow.holds Tryd.pinned (OpenSpec.ofChange narrowWritesWrong)

/-- 'naskhlaw02.NarrowOne': WHATEVER THE INPUT: true; the input reads as it did. -/
def narrowOneSpec : ChangeSpec := { name := "narrowOne", fn := fun _ => fun
  | [d] => { results := [.lit (.bool true)], args := [d] }
  | _ => none }
def narrowOneRow : OpenClaim := { program := "ytoopchpolcfdaaadoor", sum := "0f7170796c3b4711ffad343eb965c89b9155a62e9e7b1a0073f74fcf821c806d", func := "naskh/naskhlaw02.NarrowOne", spec := "narrowOne", named := ["naskh/narrow.lasts", "naskh/narrow.lengths", "naskh/narrow.marks"], apart := false, laid := [("naskh/narrow.lasts", laid_naskh_narrow_lasts), ("naskh/narrow.marks", laid_naskh_narrow_marks), ("naskh/narrow.lengths", laid_naskh_narrow_lengths)] }
def NarrowOneSaid : Prop := narrowOneRow.holds Tryd.pinned (OpenSpec.ofChange narrowOneSpec)

/-- ITS FALSE NEIGHBOUR: 'it returns false'. Refute it at one input. -/
def narrowOneWrong : ChangeSpec := { name := "narrowOne", fn := fun _ => fun
  | [d] => { results := [.lit (.bool false)], args := [d] }
  | _ => none }
def NarrowOneWrongFalsely : Prop := narrowOneRow.holds Tryd.pinned (OpenSpec.ofChange narrowOneWrong)

/-- 'naskhlaw02.NarrowBack': WHATEVER THE INPUT: true; the input reads as it did. -/
def narrowBackSpec : ChangeSpec := { name := "narrowBack", fn := fun _ => fun
  | [d] => { results := [.lit (.bool true)], args := [d] }
  | _ => none }
def narrowBackRow : OpenClaim := { program := "ytoopchpolcfdaaadoor", sum := "0f7170796c3b4711ffad343eb965c89b9155a62e9e7b1a0073f74fcf821c806d", func := "naskh/naskhlaw02.NarrowBack", spec := "narrowBack", unfollowed := true, recurses := true, named := ["naskh/narrow.lengths", "naskh/narrow.marks", "naskh/narrow.lasts"], apart := false, laid := [("naskh/narrow.lasts", laid_naskh_narrow_lasts), ("naskh/narrow.marks", laid_naskh_narrow_marks), ("naskh/narrow.lengths", laid_naskh_narrow_lengths)] }
def NarrowBackSaid : Prop := narrowBackRow.holds Tryd.pinned (OpenSpec.ofChange narrowBackSpec)

/-- ITS FALSE NEIGHBOUR: 'it returns false'. Refute it at one input. -/
def narrowBackWrong : ChangeSpec := { name := "narrowBack", fn := fun _ => fun
  | [d] => { results := [.lit (.bool false)], args := [d] }
  | _ => none }
def NarrowBackWrongFalsely : Prop := narrowBackRow.holds Tryd.pinned (OpenSpec.ofChange narrowBackWrong)

/-- 'naskhlaw02.NarrowWhole': WHATEVER THE INPUT: true; the input reads as it did. -/
def narrowWholeSpec : ChangeSpec := { name := "narrowWhole", fn := fun _ => fun
  | [d] => { results := [.lit (.bool true)], args := [d] }
  | _ => none }
def narrowWholeRow : OpenClaim := { program := "ytoopchpolcfdaaadoor", sum := "0f7170796c3b4711ffad343eb965c89b9155a62e9e7b1a0073f74fcf821c806d", func := "naskh/naskhlaw02.NarrowWhole", spec := "narrowWhole", unfollowed := true, recurses := true, named := ["naskh/narrow.lasts", "naskh/narrow.marks", "naskh/narrow.lengths"], apart := false, laid := [("naskh/narrow.lasts", laid_naskh_narrow_lasts), ("naskh/narrow.marks", laid_naskh_narrow_marks), ("naskh/narrow.lengths", laid_naskh_narrow_lengths)] }
def NarrowWholeSaid : Prop := narrowWholeRow.holds Tryd.pinned (OpenSpec.ofChange narrowWholeSpec)

/-- ITS FALSE NEIGHBOUR: 'it returns false'. Refute it at one input. -/
def narrowWholeWrong : ChangeSpec := { name := "narrowWhole", fn := fun _ => fun
  | [d] => { results := [.lit (.bool false)], args := [d] }
  | _ => none }
def NarrowWholeWrongFalsely : Prop := narrowWholeRow.holds Tryd.pinned (OpenSpec.ofChange narrowWholeWrong)

/- THE SECOND FORM. 'bulk': how many values and letters a reading holds, each counted each time it is reached (what is shared counts as often as it is met; a slice's spare places count too). A statement '..UptoSaid' is the law's where the arguments, and the package variables that the reading takes, are together of bulk at most 1048576: NARROWER than '..Said'. Prove '..Said' where nothing that the law and all that it calls make is longer than what came in: it says more and counts as full. Else prove '..UptoSaid'. A law counts once. -/
mutual
def uptoBulk {H : Type} : DataW H → Nat
  | .lit (.string bytes) => bytes.length + 1
  | .lit _ => 1
  | .nil => 1
  | .ptr d => uptoBulk d + 1
  | .slice elems spare => uptoBulkAll elems + uptoBulkAll spare + 1
  | .agg parts => uptoBulkAll parts + 1
  | .iface _ d => uptoBulk d + 1
  | .map entries => uptoBulkEntries entries + 1
  | .held _ => 1
def uptoBulkAll {H : Type} : List (DataW H) → Nat
  | [] => 0
  | d :: r => uptoBulk d + uptoBulkAll r
def uptoBulkEntries {H : Type} : List (Lit × DataW H) → Nat
  | [] => 0
  | x :: r => uptoBulkEntry x + uptoBulkEntries r
def uptoBulkEntry {H : Type} : Lit × DataW H → Nat
  | (.string bytes, d) => bytes.length + uptoBulk d + 1
  | (_, d) => uptoBulk d + 1
 end
def uptoSmall : (H : Type) → List (DataW H) → Bool := fun _ ds => decide (uptoBulkAll ds ≤ 1048576)
def OpenSpec.upto (s : _root_.Go.ChangeSpec) : _root_.Go.OpenSpec := { _root_.Go.OpenSpec.ofChange s with cond := some uptoSmall }

/-- 'naskhlaw01.WideReads', WHERE WHAT IT READS IS OF BULK AT MOST 1048576: true; the input reads as it did. -/
def wideReadsUptoRow : OpenClaim := { program := "ytoopchpolcfdaaadoor", sum := "0f7170796c3b4711ffad343eb965c89b9155a62e9e7b1a0073f74fcf821c806d", func := "naskh/naskhlaw01.WideReads", spec := "wideReads", named := ["naskh/wide.stretches"], apart := false, laid := [("naskh/wide.stretches", laid_naskh_wide_stretches)], narrowed := true }
def WideReadsUptoSaid : Prop := wideReadsUptoRow.holds Tryd.pinned (OpenSpec.upto wideReadsSpec)

/-- 'naskhlaw01.WideWrites', WHERE WHAT IT READS IS OF BULK AT MOST 1048576: true; the input reads as it did. -/
def wideWritesUptoRow : OpenClaim := { program := "ytoopchpolcfdaaadoor", sum := "0f7170796c3b4711ffad343eb965c89b9155a62e9e7b1a0073f74fcf821c806d", func := "naskh/naskhlaw01.WideWrites", spec := "wideWrites", unfollowed := true, recurses := true, named := ["naskh/wide.stretches"], apart := false, laid := [("naskh/wide.stretches", laid_naskh_wide_stretches)], narrowed := true }
def WideWritesUptoSaid : Prop := wideWritesUptoRow.holds Tryd.pinned (OpenSpec.upto wideWritesSpec)

/-- 'naskhlaw01.WideOne', WHERE WHAT IT READS IS OF BULK AT MOST 1048576: true; the input reads as it did. -/
def wideOneUptoRow : OpenClaim := { program := "ytoopchpolcfdaaadoor", sum := "0f7170796c3b4711ffad343eb965c89b9155a62e9e7b1a0073f74fcf821c806d", func := "naskh/naskhlaw01.WideOne", spec := "wideOne", named := ["naskh/wide.stretches"], apart := false, laid := [("naskh/wide.stretches", laid_naskh_wide_stretches)], narrowed := true }
def WideOneUptoSaid : Prop := wideOneUptoRow.holds Tryd.pinned (OpenSpec.upto wideOneSpec)

/-- 'naskhlaw01.WideBack', WHERE WHAT IT READS IS OF BULK AT MOST 1048576: true; the input reads as it did. -/
def wideBackUptoRow : OpenClaim := { program := "ytoopchpolcfdaaadoor", sum := "0f7170796c3b4711ffad343eb965c89b9155a62e9e7b1a0073f74fcf821c806d", func := "naskh/naskhlaw01.WideBack", spec := "wideBack", unfollowed := true, recurses := true, named := ["naskh/wide.stretches"], apart := false, laid := [("naskh/wide.stretches", laid_naskh_wide_stretches)], narrowed := true }
def WideBackUptoSaid : Prop := wideBackUptoRow.holds Tryd.pinned (OpenSpec.upto wideBackSpec)

/-- 'naskhlaw01.WideParts', WHERE WHAT IT READS IS OF BULK AT MOST 1048576: true; the input reads as it did. -/
def widePartsUptoRow : OpenClaim := { program := "ytoopchpolcfdaaadoor", sum := "0f7170796c3b4711ffad343eb965c89b9155a62e9e7b1a0073f74fcf821c806d", func := "naskh/naskhlaw01.WideParts", spec := "wideParts", named := ["naskh/wide.stretches"], apart := false, laid := [("naskh/wide.stretches", laid_naskh_wide_stretches)], narrowed := true }
def WidePartsUptoSaid : Prop := widePartsUptoRow.holds Tryd.pinned (OpenSpec.upto widePartsSpec)

/-- 'naskhlaw02.NarrowReads', WHERE WHAT IT READS IS OF BULK AT MOST 1048576: true; the input reads as it did. -/
def narrowReadsUptoRow : OpenClaim := { program := "ytoopchpolcfdaaadoor", sum := "0f7170796c3b4711ffad343eb965c89b9155a62e9e7b1a0073f74fcf821c806d", func := "naskh/naskhlaw02.NarrowReads", spec := "narrowReads", named := ["naskh/narrow.lengths", "naskh/narrow.marks", "naskh/narrow.lasts"], apart := false, laid := [("naskh/narrow.lasts", laid_naskh_narrow_lasts), ("naskh/narrow.marks", laid_naskh_narrow_marks), ("naskh/narrow.lengths", laid_naskh_narrow_lengths)], narrowed := true }
def NarrowReadsUptoSaid : Prop := narrowReadsUptoRow.holds Tryd.pinned (OpenSpec.upto narrowReadsSpec)

/-- 'naskhlaw02.NarrowWrites', WHERE WHAT IT READS IS OF BULK AT MOST 1048576: true; the input reads as it did. -/
def narrowWritesUptoRow : OpenClaim := { program := "ytoopchpolcfdaaadoor", sum := "0f7170796c3b4711ffad343eb965c89b9155a62e9e7b1a0073f74fcf821c806d", func := "naskh/naskhlaw02.NarrowWrites", spec := "narrowWrites", unfollowed := true, recurses := true, named := ["naskh/narrow.lengths", "naskh/narrow.marks", "naskh/narrow.lasts"], apart := false, laid := [("naskh/narrow.lasts", laid_naskh_narrow_lasts), ("naskh/narrow.marks", laid_naskh_narrow_marks), ("naskh/narrow.lengths", laid_naskh_narrow_lengths)], narrowed := true }
def NarrowWritesUptoSaid : Prop := narrowWritesUptoRow.holds Tryd.pinned (OpenSpec.upto narrowWritesSpec)

/-- 'naskhlaw02.NarrowOne', WHERE WHAT IT READS IS OF BULK AT MOST 1048576: true; the input reads as it did. -/
def narrowOneUptoRow : OpenClaim := { program := "ytoopchpolcfdaaadoor", sum := "0f7170796c3b4711ffad343eb965c89b9155a62e9e7b1a0073f74fcf821c806d", func := "naskh/naskhlaw02.NarrowOne", spec := "narrowOne", named := ["naskh/narrow.lasts", "naskh/narrow.lengths", "naskh/narrow.marks"], apart := false, laid := [("naskh/narrow.lasts", laid_naskh_narrow_lasts), ("naskh/narrow.marks", laid_naskh_narrow_marks), ("naskh/narrow.lengths", laid_naskh_narrow_lengths)], narrowed := true }
def NarrowOneUptoSaid : Prop := narrowOneUptoRow.holds Tryd.pinned (OpenSpec.upto narrowOneSpec)

/-- 'naskhlaw02.NarrowBack', WHERE WHAT IT READS IS OF BULK AT MOST 1048576: true; the input reads as it did. -/
def narrowBackUptoRow : OpenClaim := { program := "ytoopchpolcfdaaadoor", sum := "0f7170796c3b4711ffad343eb965c89b9155a62e9e7b1a0073f74fcf821c806d", func := "naskh/naskhlaw02.NarrowBack", spec := "narrowBack", unfollowed := true, recurses := true, named := ["naskh/narrow.lengths", "naskh/narrow.marks", "naskh/narrow.lasts"], apart := false, laid := [("naskh/narrow.lasts", laid_naskh_narrow_lasts), ("naskh/narrow.marks", laid_naskh_narrow_marks), ("naskh/narrow.lengths", laid_naskh_narrow_lengths)], narrowed := true }
def NarrowBackUptoSaid : Prop := narrowBackUptoRow.holds Tryd.pinned (OpenSpec.upto narrowBackSpec)

/-- 'naskhlaw02.NarrowWhole', WHERE WHAT IT READS IS OF BULK AT MOST 1048576: true; the input reads as it did. -/
def narrowWholeUptoRow : OpenClaim := { program := "ytoopchpolcfdaaadoor", sum := "0f7170796c3b4711ffad343eb965c89b9155a62e9e7b1a0073f74fcf821c806d", func := "naskh/naskhlaw02.NarrowWhole", spec := "narrowWhole", unfollowed := true, recurses := true, named := ["naskh/narrow.lasts", "naskh/narrow.marks", "naskh/narrow.lengths"], apart := false, laid := [("naskh/narrow.lasts", laid_naskh_narrow_lasts), ("naskh/narrow.marks", laid_naskh_narrow_marks), ("naskh/narrow.lengths", laid_naskh_narrow_lengths)], narrowed := true }
def NarrowWholeUptoSaid : Prop := narrowWholeUptoRow.holds Tryd.pinned (OpenSpec.upto narrowWholeSpec)

end Rows
end Go.Proofs.YtoopchpolcfdaaaDoor
