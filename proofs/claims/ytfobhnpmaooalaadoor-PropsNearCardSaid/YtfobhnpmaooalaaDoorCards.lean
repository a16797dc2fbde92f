/-
  DERIVED. GIVEN WITH THE SEED: THE CARDS: each row of YtfobhnpmaooalaaDoorRows.lean that lists a variable, with what it lists TIED to the program's text (the seventh form; the later family's looks); each row that meets fmt, with fmt's text TOLD by the authors' own Lean function (tested against real Go, not proved from fmt's source: count such statements apart). THE CARD IS WHAT COUNTS. Prove the row's statement (the work); the ties are given (YtfobhnpmaooalaaDoorTie.lean); close each card by the builder's one call (the guide's Derived/Test/ToyasCard.lean, 'card_holds'). Laid BY PROGRAM, IN A SANDBOX (cutbox-door.mjs). By AI agents, Wed Nov 11 2026. No macro, syntax, notation, axiom, sorry.
-/
import Derived.Test.YtfobhnpmaooalaaDoorRows
import GoSem.ClaimSeven
namespace Go.Proofs.YtfobhnpmaooalaaDoor
namespace Rows

/-- THE TIED CARD OF 'naskhlaw07.PropsNear'. -/
def propsNearCard : Claim7 := { stood := { row := propsNearRow, standIns := [], harness := (true, "c040acc02108d58fc265c66454cbd73722d8fe96afc17a4da4e0ebf432f74b03"), looks := false }, kinds := [], alts := [], laidByText := true, laidKinds := [.data], laidTests := true, laidLooks := .later }
def PropsNearCardSaid : Prop := Claim7.holds Tryd.pinned (.plain (OpenSpec.ofChange propsNearSpec)) propsNearCard

/-- THE TIED CARD OF 'naskhlaw10.OptionChecks'. -/
def optionChecksCard : Claim7 := { stood := { row := optionChecksRow, standIns := [], harness := (true, "c040acc02108d58fc265c66454cbd73722d8fe96afc17a4da4e0ebf432f74b03"), looks := false }, kinds := [], alts := [], laidByText := true, laidKinds := [.data], laidTests := true, laidLooks := .later }
def OptionChecksCardSaid : Prop := Claim7.holds Tryd.pinned (.plain (OpenSpec.ofChange optionChecksSpec)) optionChecksCard

/-- THE TIED CARD OF 'naskhlaw10.OptionBits'. -/
def optionBitsCard : Claim7 := { stood := { row := optionBitsRow, standIns := [], harness := (true, "c040acc02108d58fc265c66454cbd73722d8fe96afc17a4da4e0ebf432f74b03"), looks := false }, kinds := [], alts := [], laidByText := true, laidKinds := [.data], laidTests := true, laidLooks := .later }
def OptionBitsCardSaid : Prop := Claim7.holds Tryd.pinned (.plain (OpenSpec.ofChange optionBitsSpec)) optionBitsCard

/-- THE TIED CARD OF 'naskhlaw10.OptionBack'. -/
def optionBackCard : Claim7 := { stood := { row := optionBackRow, standIns := [], harness := (true, "c040acc02108d58fc265c66454cbd73722d8fe96afc17a4da4e0ebf432f74b03"), looks := false }, kinds := [], alts := [], laidByText := true, laidKinds := [.data], laidTests := true, laidLooks := .later }
def OptionBackCardSaid : Prop := Claim7.holds Tryd.pinned (.plain (OpenSpec.ofChange optionBackSpec)) optionBackCard

/-- THE SECOND FORM's CARD OF 'naskhlaw07.PropsNear'. -/
def propsNearUptoCard : Claim7 := { stood := { row := propsNearUptoRow, standIns := [], harness := (true, "c040acc02108d58fc265c66454cbd73722d8fe96afc17a4da4e0ebf432f74b03"), looks := false }, kinds := [], alts := [], laidByText := true, laidKinds := [.data], laidTests := true, laidLooks := .later }
def PropsNearUptoCardSaid : Prop := Claim7.holds Tryd.pinned (.plain (OpenSpec.upto propsNearSpec)) propsNearUptoCard

/-- THE SECOND FORM's CARD OF 'naskhlaw10.OptionChecks'. -/
def optionChecksUptoCard : Claim7 := { stood := { row := optionChecksUptoRow, standIns := [], harness := (true, "c040acc02108d58fc265c66454cbd73722d8fe96afc17a4da4e0ebf432f74b03"), looks := false }, kinds := [], alts := [], laidByText := true, laidKinds := [.data], laidTests := true, laidLooks := .later }
def OptionChecksUptoCardSaid : Prop := Claim7.holds Tryd.pinned (.plain (OpenSpec.upto optionChecksSpec)) optionChecksUptoCard

/-- THE SECOND FORM's CARD OF 'naskhlaw10.OptionBits'. -/
def optionBitsUptoCard : Claim7 := { stood := { row := optionBitsUptoRow, standIns := [], harness := (true, "c040acc02108d58fc265c66454cbd73722d8fe96afc17a4da4e0ebf432f74b03"), looks := false }, kinds := [], alts := [], laidByText := true, laidKinds := [.data], laidTests := true, laidLooks := .later }
def OptionBitsUptoCardSaid : Prop := Claim7.holds Tryd.pinned (.plain (OpenSpec.upto optionBitsSpec)) optionBitsUptoCard

/-- THE SECOND FORM's CARD OF 'naskhlaw10.OptionBack'. -/
def optionBackUptoCard : Claim7 := { stood := { row := optionBackUptoRow, standIns := [], harness := (true, "c040acc02108d58fc265c66454cbd73722d8fe96afc17a4da4e0ebf432f74b03"), looks := false }, kinds := [], alts := [], laidByText := true, laidKinds := [.data], laidTests := true, laidLooks := .later }
def OptionBackUptoCardSaid : Prop := Claim7.holds Tryd.pinned (.plain (OpenSpec.upto optionBackSpec)) optionBackUptoCard
end Rows
end Go.Proofs.YtfobhnpmaooalaaDoor
