/-
  DERIVED. GIVEN WITH THE SEED: THE CARDS: each row of YtcdogkabdhbjmaaDoorRows.lean that lists a variable, with what it lists TIED to the program's text (the seventh form; the later family's looks); each row that meets fmt, with fmt's text TOLD by the authors' own Lean function (tested against real Go, not proved from fmt's source: count such statements apart). THE CARD IS WHAT COUNTS. Prove the row's statement (the work); the ties are given (YtcdogkabdhbjmaaDoorTie.lean); close each card by the builder's one call (the guide's Derived/Test/ToyasCard.lean, 'card_holds'). Laid BY PROGRAM, IN A SANDBOX (cutbox-door.mjs). By AI agents, Wed Nov 11 2026. No macro, syntax, notation, axiom, sorry.
-/
import Derived.Test.YtcdogkabdhbjmaaDoorRows
import GoSem.ClaimSeven
namespace Go.Proofs.YtcdogkabdhbjmaaDoor
namespace Rows

/-- THE TIED CARD OF 'naskhlaw10.OptionChecks'. -/
def optionChecksCard : Claim7 := { stood := { row := optionChecksRow, standIns := [], harness := (true, "e13f48b70b71907793d805fe0c1da7ea729b08eb8a6c6ab1a52d2928df2c5e40"), looks := false }, kinds := [], alts := [], laidByText := true, laidKinds := [.data], laidTests := true, laidLooks := .later }
def OptionChecksCardSaid : Prop := Claim7.holds Tryd.pinned (.plain (OpenSpec.ofChange optionChecksSpec)) optionChecksCard

/-- THE TIED CARD OF 'naskhlaw10.OptionBits'. -/
def optionBitsCard : Claim7 := { stood := { row := optionBitsRow, standIns := [], harness := (true, "e13f48b70b71907793d805fe0c1da7ea729b08eb8a6c6ab1a52d2928df2c5e40"), looks := false }, kinds := [], alts := [], laidByText := true, laidKinds := [.data], laidTests := true, laidLooks := .later }
def OptionBitsCardSaid : Prop := Claim7.holds Tryd.pinned (.plain (OpenSpec.ofChange optionBitsSpec)) optionBitsCard

/-- THE TIED CARD OF 'naskhlaw10.OptionBack'. -/
def optionBackCard : Claim7 := { stood := { row := optionBackRow, standIns := [], harness := (true, "e13f48b70b71907793d805fe0c1da7ea729b08eb8a6c6ab1a52d2928df2c5e40"), looks := false }, kinds := [], alts := [], laidByText := true, laidKinds := [.data], laidTests := true, laidLooks := .later }
def OptionBackCardSaid : Prop := Claim7.holds Tryd.pinned (.plain (OpenSpec.ofChange optionBackSpec)) optionBackCard

/-- THE TIED CARD OF 'naskhlaw11.SpellPrints'. -/
def spellPrintsCard : Claim7 := { stood := { row := spellPrintsRow, standIns := [], harness := (true, "e13f48b70b71907793d805fe0c1da7ea729b08eb8a6c6ab1a52d2928df2c5e40"), looks := false }, kinds := [], alts := [], laidByText := true, laidKinds := [.data, .data], laidTests := true, laidLooks := .later }
def SpellPrintsCardSaid : Prop := Claim7.holds Tryd.pinned (.plain (OpenSpec.ofChange spellPrintsSpec)) spellPrintsCard

/-- THE TIED CARD OF 'naskhlaw11.SpellParses'. -/
def spellParsesCard : Claim7 := { stood := { row := spellParsesRow, standIns := [], harness := (true, "e13f48b70b71907793d805fe0c1da7ea729b08eb8a6c6ab1a52d2928df2c5e40"), looks := false }, kinds := [], alts := [], laidByText := true, laidKinds := [.data, .data], laidTests := true, laidLooks := .later }
def SpellParsesCardSaid : Prop := Claim7.holds Tryd.pinned (.plain (OpenSpec.ofChange spellParsesSpec)) spellParsesCard

/-- THE TIED CARD OF 'naskhlaw11.SpellBack'. -/
def spellBackCard : Claim7 := { stood := { row := spellBackRow, standIns := [], harness := (true, "e13f48b70b71907793d805fe0c1da7ea729b08eb8a6c6ab1a52d2928df2c5e40"), looks := false }, kinds := [], alts := [], laidByText := true, laidKinds := [.data, .data], laidTests := true, laidLooks := .later }
def SpellBackCardSaid : Prop := Claim7.holds Tryd.pinned (.plain (OpenSpec.ofChange spellBackSpec)) spellBackCard

/-- THE TIED CARD OF 'naskhlaw11.SpellTwice'. -/
def spellTwiceCard : Claim7 := { stood := { row := spellTwiceRow, standIns := [], harness := (true, "e13f48b70b71907793d805fe0c1da7ea729b08eb8a6c6ab1a52d2928df2c5e40"), looks := false }, kinds := [], alts := [], laidByText := true, laidKinds := [.data, .data], laidTests := true, laidLooks := .later }
def SpellTwiceCardSaid : Prop := Claim7.holds Tryd.pinned (.plain (OpenSpec.ofChange spellTwiceSpec)) spellTwiceCard

/-- THE SECOND FORM's CARD OF 'naskhlaw10.OptionChecks'. -/
def optionChecksUptoCard : Claim7 := { stood := { row := optionChecksUptoRow, standIns := [], harness := (true, "e13f48b70b71907793d805fe0c1da7ea729b08eb8a6c6ab1a52d2928df2c5e40"), looks := false }, kinds := [], alts := [], laidByText := true, laidKinds := [.data], laidTests := true, laidLooks := .later }
def OptionChecksUptoCardSaid : Prop := Claim7.holds Tryd.pinned (.plain (OpenSpec.upto optionChecksSpec)) optionChecksUptoCard

/-- THE SECOND FORM's CARD OF 'naskhlaw10.OptionBits'. -/
def optionBitsUptoCard : Claim7 := { stood := { row := optionBitsUptoRow, standIns := [], harness := (true, "e13f48b70b71907793d805fe0c1da7ea729b08eb8a6c6ab1a52d2928df2c5e40"), looks := false }, kinds := [], alts := [], laidByText := true, laidKinds := [.data], laidTests := true, laidLooks := .later }
def OptionBitsUptoCardSaid : Prop := Claim7.holds Tryd.pinned (.plain (OpenSpec.upto optionBitsSpec)) optionBitsUptoCard

/-- THE SECOND FORM's CARD OF 'naskhlaw10.OptionBack'. -/
def optionBackUptoCard : Claim7 := { stood := { row := optionBackUptoRow, standIns := [], harness := (true, "e13f48b70b71907793d805fe0c1da7ea729b08eb8a6c6ab1a52d2928df2c5e40"), looks := false }, kinds := [], alts := [], laidByText := true, laidKinds := [.data], laidTests := true, laidLooks := .later }
def OptionBackUptoCardSaid : Prop := Claim7.holds Tryd.pinned (.plain (OpenSpec.upto optionBackSpec)) optionBackUptoCard

/-- THE SECOND FORM's CARD OF 'naskhlaw11.SpellPrints'. -/
def spellPrintsUptoCard : Claim7 := { stood := { row := spellPrintsUptoRow, standIns := [], harness := (true, "e13f48b70b71907793d805fe0c1da7ea729b08eb8a6c6ab1a52d2928df2c5e40"), looks := false }, kinds := [], alts := [], laidByText := true, laidKinds := [.data, .data], laidTests := true, laidLooks := .later }
def SpellPrintsUptoCardSaid : Prop := Claim7.holds Tryd.pinned (.plain (OpenSpec.upto spellPrintsSpec)) spellPrintsUptoCard

/-- THE SECOND FORM's CARD OF 'naskhlaw11.SpellParses'. -/
def spellParsesUptoCard : Claim7 := { stood := { row := spellParsesUptoRow, standIns := [], harness := (true, "e13f48b70b71907793d805fe0c1da7ea729b08eb8a6c6ab1a52d2928df2c5e40"), looks := false }, kinds := [], alts := [], laidByText := true, laidKinds := [.data, .data], laidTests := true, laidLooks := .later }
def SpellParsesUptoCardSaid : Prop := Claim7.holds Tryd.pinned (.plain (OpenSpec.upto spellParsesSpec)) spellParsesUptoCard

/-- THE SECOND FORM's CARD OF 'naskhlaw11.SpellBack'. -/
def spellBackUptoCard : Claim7 := { stood := { row := spellBackUptoRow, standIns := [], harness := (true, "e13f48b70b71907793d805fe0c1da7ea729b08eb8a6c6ab1a52d2928df2c5e40"), looks := false }, kinds := [], alts := [], laidByText := true, laidKinds := [.data, .data], laidTests := true, laidLooks := .later }
def SpellBackUptoCardSaid : Prop := Claim7.holds Tryd.pinned (.plain (OpenSpec.upto spellBackSpec)) spellBackUptoCard

/-- THE SECOND FORM's CARD OF 'naskhlaw11.SpellTwice'. -/
def spellTwiceUptoCard : Claim7 := { stood := { row := spellTwiceUptoRow, standIns := [], harness := (true, "e13f48b70b71907793d805fe0c1da7ea729b08eb8a6c6ab1a52d2928df2c5e40"), looks := false }, kinds := [], alts := [], laidByText := true, laidKinds := [.data, .data], laidTests := true, laidLooks := .later }
def SpellTwiceUptoCardSaid : Prop := Claim7.holds Tryd.pinned (.plain (OpenSpec.upto spellTwiceSpec)) spellTwiceUptoCard
end Rows
end Go.Proofs.YtcdogkabdhbjmaaDoor
