/-
  DERIVED. GIVEN WITH THE SEED: THE CARDS: each row of YtoopchpolcfdaaaDoorRows.lean that lists a variable, with what it lists TIED to the program's text (the seventh form; the later family's looks); each row that meets fmt, with fmt's text TOLD by the authors' own Lean function (tested against real Go, not proved from fmt's source: count such statements apart). THE CARD IS WHAT COUNTS. Prove the row's statement (the work); the ties are given (YtoopchpolcfdaaaDoorTie.lean); close each card by the builder's one call (the guide's Derived/Test/ToyasCard.lean, 'card_holds'). Laid BY PROGRAM, IN A SANDBOX (cutbox-door.mjs). By AI agents, Wed Nov 11 2026. No macro, syntax, notation, axiom, sorry.
-/
import Derived.Test.YtoopchpolcfdaaaDoorRows
import GoSem.ClaimSeven
namespace Go.Proofs.YtoopchpolcfdaaaDoor
namespace Rows

/-- THE TIED CARD OF 'naskhlaw01.WideReads'. -/
def wideReadsCard : Claim7 := { stood := { row := wideReadsRow, standIns := [], harness := (true, "a949d3f865da9f087824fc1c20f6b56578fd522662e454f167fae5399a526466"), looks := false }, kinds := [], alts := [], laidByText := true, laidKinds := [.data], laidTests := true, laidLooks := .later }
def WideReadsCardSaid : Prop := Claim7.holds Tryd.pinned (.plain (OpenSpec.ofChange wideReadsSpec)) wideReadsCard

/-- THE TIED CARD OF 'naskhlaw01.WideWrites'. -/
def wideWritesCard : Claim7 := { stood := { row := wideWritesRow, standIns := [], harness := (true, "a949d3f865da9f087824fc1c20f6b56578fd522662e454f167fae5399a526466"), looks := false }, kinds := [], alts := [], laidByText := true, laidKinds := [.data], laidTests := true, laidLooks := .later }
def WideWritesCardSaid : Prop := Claim7.holds Tryd.pinned (.plain (OpenSpec.ofChange wideWritesSpec)) wideWritesCard

/-- THE TIED CARD OF 'naskhlaw01.WideOne'. -/
def wideOneCard : Claim7 := { stood := { row := wideOneRow, standIns := [], harness := (true, "a949d3f865da9f087824fc1c20f6b56578fd522662e454f167fae5399a526466"), looks := false }, kinds := [], alts := [], laidByText := true, laidKinds := [.data], laidTests := true, laidLooks := .later }
def WideOneCardSaid : Prop := Claim7.holds Tryd.pinned (.plain (OpenSpec.ofChange wideOneSpec)) wideOneCard

/-- THE TIED CARD OF 'naskhlaw01.WideBack'. -/
def wideBackCard : Claim7 := { stood := { row := wideBackRow, standIns := [], harness := (true, "a949d3f865da9f087824fc1c20f6b56578fd522662e454f167fae5399a526466"), looks := false }, kinds := [], alts := [], laidByText := true, laidKinds := [.data], laidTests := true, laidLooks := .later }
def WideBackCardSaid : Prop := Claim7.holds Tryd.pinned (.plain (OpenSpec.ofChange wideBackSpec)) wideBackCard

/-- THE TIED CARD OF 'naskhlaw01.WideParts'. -/
def widePartsCard : Claim7 := { stood := { row := widePartsRow, standIns := [], harness := (true, "a949d3f865da9f087824fc1c20f6b56578fd522662e454f167fae5399a526466"), looks := false }, kinds := [], alts := [], laidByText := true, laidKinds := [.data], laidTests := true, laidLooks := .later }
def WidePartsCardSaid : Prop := Claim7.holds Tryd.pinned (.plain (OpenSpec.ofChange widePartsSpec)) widePartsCard

/-- THE TIED CARD OF 'naskhlaw02.NarrowReads'. -/
def narrowReadsCard : Claim7 := { stood := { row := narrowReadsRow, standIns := [], harness := (true, "a949d3f865da9f087824fc1c20f6b56578fd522662e454f167fae5399a526466"), looks := false }, kinds := [], alts := [], laidByText := true, laidKinds := [.data, .data, .data], laidTests := true, laidLooks := .later }
def NarrowReadsCardSaid : Prop := Claim7.holds Tryd.pinned (.plain (OpenSpec.ofChange narrowReadsSpec)) narrowReadsCard

/-- THE TIED CARD OF 'naskhlaw02.NarrowWrites'. -/
def narrowWritesCard : Claim7 := { stood := { row := narrowWritesRow, standIns := [], harness := (true, "a949d3f865da9f087824fc1c20f6b56578fd522662e454f167fae5399a526466"), looks := false }, kinds := [], alts := [], laidByText := true, laidKinds := [.data, .data, .data], laidTests := true, laidLooks := .later }
def NarrowWritesCardSaid : Prop := Claim7.holds Tryd.pinned (.plain (OpenSpec.ofChange narrowWritesSpec)) narrowWritesCard

/-- THE TIED CARD OF 'naskhlaw02.NarrowOne'. -/
def narrowOneCard : Claim7 := { stood := { row := narrowOneRow, standIns := [], harness := (true, "a949d3f865da9f087824fc1c20f6b56578fd522662e454f167fae5399a526466"), looks := false }, kinds := [], alts := [], laidByText := true, laidKinds := [.data, .data, .data], laidTests := true, laidLooks := .later }
def NarrowOneCardSaid : Prop := Claim7.holds Tryd.pinned (.plain (OpenSpec.ofChange narrowOneSpec)) narrowOneCard

/-- THE TIED CARD OF 'naskhlaw02.NarrowBack'. -/
def narrowBackCard : Claim7 := { stood := { row := narrowBackRow, standIns := [], harness := (true, "a949d3f865da9f087824fc1c20f6b56578fd522662e454f167fae5399a526466"), looks := false }, kinds := [], alts := [], laidByText := true, laidKinds := [.data, .data, .data], laidTests := true, laidLooks := .later }
def NarrowBackCardSaid : Prop := Claim7.holds Tryd.pinned (.plain (OpenSpec.ofChange narrowBackSpec)) narrowBackCard

/-- THE TIED CARD OF 'naskhlaw02.NarrowWhole'. -/
def narrowWholeCard : Claim7 := { stood := { row := narrowWholeRow, standIns := [], harness := (true, "a949d3f865da9f087824fc1c20f6b56578fd522662e454f167fae5399a526466"), looks := false }, kinds := [], alts := [], laidByText := true, laidKinds := [.data, .data, .data], laidTests := true, laidLooks := .later }
def NarrowWholeCardSaid : Prop := Claim7.holds Tryd.pinned (.plain (OpenSpec.ofChange narrowWholeSpec)) narrowWholeCard

/-- THE SECOND FORM's CARD OF 'naskhlaw01.WideReads'. -/
def wideReadsUptoCard : Claim7 := { stood := { row := wideReadsUptoRow, standIns := [], harness := (true, "a949d3f865da9f087824fc1c20f6b56578fd522662e454f167fae5399a526466"), looks := false }, kinds := [], alts := [], laidByText := true, laidKinds := [.data], laidTests := true, laidLooks := .later }
def WideReadsUptoCardSaid : Prop := Claim7.holds Tryd.pinned (.plain (OpenSpec.upto wideReadsSpec)) wideReadsUptoCard

/-- THE SECOND FORM's CARD OF 'naskhlaw01.WideWrites'. -/
def wideWritesUptoCard : Claim7 := { stood := { row := wideWritesUptoRow, standIns := [], harness := (true, "a949d3f865da9f087824fc1c20f6b56578fd522662e454f167fae5399a526466"), looks := false }, kinds := [], alts := [], laidByText := true, laidKinds := [.data], laidTests := true, laidLooks := .later }
def WideWritesUptoCardSaid : Prop := Claim7.holds Tryd.pinned (.plain (OpenSpec.upto wideWritesSpec)) wideWritesUptoCard

/-- THE SECOND FORM's CARD OF 'naskhlaw01.WideOne'. -/
def wideOneUptoCard : Claim7 := { stood := { row := wideOneUptoRow, standIns := [], harness := (true, "a949d3f865da9f087824fc1c20f6b56578fd522662e454f167fae5399a526466"), looks := false }, kinds := [], alts := [], laidByText := true, laidKinds := [.data], laidTests := true, laidLooks := .later }
def WideOneUptoCardSaid : Prop := Claim7.holds Tryd.pinned (.plain (OpenSpec.upto wideOneSpec)) wideOneUptoCard

/-- THE SECOND FORM's CARD OF 'naskhlaw01.WideBack'. -/
def wideBackUptoCard : Claim7 := { stood := { row := wideBackUptoRow, standIns := [], harness := (true, "a949d3f865da9f087824fc1c20f6b56578fd522662e454f167fae5399a526466"), looks := false }, kinds := [], alts := [], laidByText := true, laidKinds := [.data], laidTests := true, laidLooks := .later }
def WideBackUptoCardSaid : Prop := Claim7.holds Tryd.pinned (.plain (OpenSpec.upto wideBackSpec)) wideBackUptoCard

/-- THE SECOND FORM's CARD OF 'naskhlaw01.WideParts'. -/
def widePartsUptoCard : Claim7 := { stood := { row := widePartsUptoRow, standIns := [], harness := (true, "a949d3f865da9f087824fc1c20f6b56578fd522662e454f167fae5399a526466"), looks := false }, kinds := [], alts := [], laidByText := true, laidKinds := [.data], laidTests := true, laidLooks := .later }
def WidePartsUptoCardSaid : Prop := Claim7.holds Tryd.pinned (.plain (OpenSpec.upto widePartsSpec)) widePartsUptoCard

/-- THE SECOND FORM's CARD OF 'naskhlaw02.NarrowReads'. -/
def narrowReadsUptoCard : Claim7 := { stood := { row := narrowReadsUptoRow, standIns := [], harness := (true, "a949d3f865da9f087824fc1c20f6b56578fd522662e454f167fae5399a526466"), looks := false }, kinds := [], alts := [], laidByText := true, laidKinds := [.data, .data, .data], laidTests := true, laidLooks := .later }
def NarrowReadsUptoCardSaid : Prop := Claim7.holds Tryd.pinned (.plain (OpenSpec.upto narrowReadsSpec)) narrowReadsUptoCard

/-- THE SECOND FORM's CARD OF 'naskhlaw02.NarrowWrites'. -/
def narrowWritesUptoCard : Claim7 := { stood := { row := narrowWritesUptoRow, standIns := [], harness := (true, "a949d3f865da9f087824fc1c20f6b56578fd522662e454f167fae5399a526466"), looks := false }, kinds := [], alts := [], laidByText := true, laidKinds := [.data, .data, .data], laidTests := true, laidLooks := .later }
def NarrowWritesUptoCardSaid : Prop := Claim7.holds Tryd.pinned (.plain (OpenSpec.upto narrowWritesSpec)) narrowWritesUptoCard

/-- THE SECOND FORM's CARD OF 'naskhlaw02.NarrowOne'. -/
def narrowOneUptoCard : Claim7 := { stood := { row := narrowOneUptoRow, standIns := [], harness := (true, "a949d3f865da9f087824fc1c20f6b56578fd522662e454f167fae5399a526466"), looks := false }, kinds := [], alts := [], laidByText := true, laidKinds := [.data, .data, .data], laidTests := true, laidLooks := .later }
def NarrowOneUptoCardSaid : Prop := Claim7.holds Tryd.pinned (.plain (OpenSpec.upto narrowOneSpec)) narrowOneUptoCard

/-- THE SECOND FORM's CARD OF 'naskhlaw02.NarrowBack'. -/
def narrowBackUptoCard : Claim7 := { stood := { row := narrowBackUptoRow, standIns := [], harness := (true, "a949d3f865da9f087824fc1c20f6b56578fd522662e454f167fae5399a526466"), looks := false }, kinds := [], alts := [], laidByText := true, laidKinds := [.data, .data, .data], laidTests := true, laidLooks := .later }
def NarrowBackUptoCardSaid : Prop := Claim7.holds Tryd.pinned (.plain (OpenSpec.upto narrowBackSpec)) narrowBackUptoCard

/-- THE SECOND FORM's CARD OF 'naskhlaw02.NarrowWhole'. -/
def narrowWholeUptoCard : Claim7 := { stood := { row := narrowWholeUptoRow, standIns := [], harness := (true, "a949d3f865da9f087824fc1c20f6b56578fd522662e454f167fae5399a526466"), looks := false }, kinds := [], alts := [], laidByText := true, laidKinds := [.data, .data, .data], laidTests := true, laidLooks := .later }
def NarrowWholeUptoCardSaid : Prop := Claim7.holds Tryd.pinned (.plain (OpenSpec.upto narrowWholeSpec)) narrowWholeUptoCard
end Rows
end Go.Proofs.YtoopchpolcfdaaaDoor
