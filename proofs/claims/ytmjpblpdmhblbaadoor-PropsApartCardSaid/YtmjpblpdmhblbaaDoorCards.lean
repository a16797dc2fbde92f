/-
  DERIVED. GIVEN WITH THE SEED: THE CARDS: each row of YtmjpblpdmhblbaaDoorRows.lean that lists a variable, with what it lists TIED to the program's text (the seventh form; the later family's looks); each row that meets fmt, with fmt's text TOLD by the authors' own Lean function (tested against real Go, not proved from fmt's source: count such statements apart). THE CARD IS WHAT COUNTS. Prove the row's statement (the work); the ties are given (YtmjpblpdmhblbaaDoorTie.lean); close each card by the builder's one call (the guide's Derived/Test/ToyasCard.lean, 'card_holds'). Laid BY PROGRAM, IN A SANDBOX (cutbox-door.mjs). By AI agents, Wed Nov 11 2026. No macro, syntax, notation, axiom, sorry.
-/
import Derived.Test.YtmjpblpdmhblbaaDoorRows
import GoSem.ClaimSeven
namespace Go.Proofs.YtmjpblpdmhblbaaDoor
namespace Rows

/-- THE TIED CARD OF 'naskhlaw07.PropsNear'. -/
def propsNearCard : Claim7 := { stood := { row := propsNearRow, standIns := [], harness := (true, "d5fd6c779533ecc18f2921cc89a9c6cf80ee11f1b486f66a0e5b20eb1b4d9385"), looks := false }, kinds := [], alts := [], laidByText := true, laidKinds := [.data], laidTests := true, laidLooks := .later }
def PropsNearCardSaid : Prop := Claim7.holds Tryd.pinned (.plain (OpenSpec.ofChange propsNearSpec)) propsNearCard

/-- THE TIED CARD OF 'naskhlaw07.PropsApart'. -/
def propsApartCard : Claim7 := { stood := { row := propsApartRow, standIns := [], harness := (true, "d5fd6c779533ecc18f2921cc89a9c6cf80ee11f1b486f66a0e5b20eb1b4d9385"), looks := false }, kinds := [], alts := [], laidByText := true, laidKinds := [.data], laidTests := true, laidLooks := .later }
def PropsApartCardSaid : Prop := Claim7.holds Tryd.pinned (.plain (OpenSpec.ofChange propsApartSpec)) propsApartCard

/-- THE TIED CARD OF 'naskhlaw07.PropsNobody'. -/
def propsNobodyCard : Claim7 := { stood := { row := propsNobodyRow, standIns := [], harness := (true, "d5fd6c779533ecc18f2921cc89a9c6cf80ee11f1b486f66a0e5b20eb1b4d9385"), looks := false }, kinds := [], alts := [], laidByText := true, laidKinds := [.data], laidTests := true, laidLooks := .later }
def PropsNobodyCardSaid : Prop := Claim7.holds Tryd.pinned (.plain (OpenSpec.ofChange propsNobodySpec)) propsNobodyCard

/-- THE SECOND FORM's CARD OF 'naskhlaw07.PropsNear'. -/
def propsNearUptoCard : Claim7 := { stood := { row := propsNearUptoRow, standIns := [], harness := (true, "d5fd6c779533ecc18f2921cc89a9c6cf80ee11f1b486f66a0e5b20eb1b4d9385"), looks := false }, kinds := [], alts := [], laidByText := true, laidKinds := [.data], laidTests := true, laidLooks := .later }
def PropsNearUptoCardSaid : Prop := Claim7.holds Tryd.pinned (.plain (OpenSpec.upto propsNearSpec)) propsNearUptoCard

/-- THE SECOND FORM's CARD OF 'naskhlaw07.PropsApart'. -/
def propsApartUptoCard : Claim7 := { stood := { row := propsApartUptoRow, standIns := [], harness := (true, "d5fd6c779533ecc18f2921cc89a9c6cf80ee11f1b486f66a0e5b20eb1b4d9385"), looks := false }, kinds := [], alts := [], laidByText := true, laidKinds := [.data], laidTests := true, laidLooks := .later }
def PropsApartUptoCardSaid : Prop := Claim7.holds Tryd.pinned (.plain (OpenSpec.upto propsApartSpec)) propsApartUptoCard

/-- THE SECOND FORM's CARD OF 'naskhlaw07.PropsNobody'. -/
def propsNobodyUptoCard : Claim7 := { stood := { row := propsNobodyUptoRow, standIns := [], harness := (true, "d5fd6c779533ecc18f2921cc89a9c6cf80ee11f1b486f66a0e5b20eb1b4d9385"), looks := false }, kinds := [], alts := [], laidByText := true, laidKinds := [.data], laidTests := true, laidLooks := .later }
def PropsNobodyUptoCardSaid : Prop := Claim7.holds Tryd.pinned (.plain (OpenSpec.upto propsNobodySpec)) propsNobodyUptoCard
end Rows
end Go.Proofs.YtmjpblpdmhblbaaDoor
