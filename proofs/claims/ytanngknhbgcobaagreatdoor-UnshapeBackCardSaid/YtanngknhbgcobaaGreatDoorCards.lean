/-
  DERIVED. GIVEN WITH THE SEED: THE CARDS: each row of YtanngknhbgcobaaGreatDoorRows.lean that lists a variable, with what it lists TIED to the program's text (the seventh form; the later family's looks); each row that meets fmt, with fmt's text TOLD by the authors' own Lean function (tested against real Go, not proved from fmt's source: count such statements apart). THE CARD IS WHAT COUNTS. Prove the row's statement (the work); the ties are given (YtanngknhbgcobaaGreatDoorTie.lean); close each card by the builder's one call (the guide's Derived/Test/ToyasCard.lean, 'card_holds'). Laid BY PROGRAM, IN A SANDBOX (cutbox-door.mjs). By AI agents, Wed Nov 11 2026. No macro, syntax, notation, axiom, sorry.
-/
import Derived.Test.YtanngknhbgcobaaGreatDoorRows
import GoSem.ClaimSeven
namespace Go.Proofs.YtanngknhbgcobaaGreatDoor
namespace Rows

/-- THE TIED CARD OF 'naskhlaw18.UnshapeTakes'. -/
def unshapeTakesCard : Claim7 := { stood := { row := unshapeTakesRow, standIns := [], harness := (true, "197f46cc9a19a6f28dc4a8137ce7a9c4c45bbe782338a4375a9a85429bf99d10"), looks := false }, kinds := [], alts := [], laidByText := true, laidKinds := [.data], laidTests := true, laidLooks := .later }
def UnshapeTakesCardSaid : Prop := Claim7.holds Tryz.pinned (.plain (OpenSpec.ofChange unshapeTakesSpec)) unshapeTakesCard

/-- THE TIED CARD OF 'naskhlaw18.UnshapeBack'. -/
def unshapeBackCard : Claim7 := { stood := { row := unshapeBackRow, standIns := [], harness := (true, "197f46cc9a19a6f28dc4a8137ce7a9c4c45bbe782338a4375a9a85429bf99d10"), looks := false }, kinds := [], alts := [], laidByText := true, laidKinds := [.data], laidTests := true, laidLooks := .later }
def UnshapeBackCardSaid : Prop := Claim7.holds Tryz.pinned (.plain (OpenSpec.ofChange unshapeBackSpec)) unshapeBackCard

/-- THE TIED CARD OF 'naskhlaw18.UnshapeMap'. -/
def unshapeMapCard : Claim7 := { stood := { row := unshapeMapRow, standIns := [], harness := (true, "197f46cc9a19a6f28dc4a8137ce7a9c4c45bbe782338a4375a9a85429bf99d10"), looks := false }, kinds := [], alts := [], laidByText := true, laidKinds := [.data], laidTests := true, laidLooks := .later }
def UnshapeMapCardSaid : Prop := Claim7.holds Tryz.pinned (.plain (OpenSpec.ofChange unshapeMapSpec)) unshapeMapCard

/-- THE TIED CARD OF 'naskhlaw18.UnshapeTwice'. -/
def unshapeTwiceCard : Claim7 := { stood := { row := unshapeTwiceRow, standIns := [], harness := (true, "197f46cc9a19a6f28dc4a8137ce7a9c4c45bbe782338a4375a9a85429bf99d10"), looks := false }, kinds := [], alts := [], laidByText := true, laidKinds := [.data], laidTests := true, laidLooks := .later }
def UnshapeTwiceCardSaid : Prop := Claim7.holds Tryz.pinned (.plain (OpenSpec.ofChange unshapeTwiceSpec)) unshapeTwiceCard

/-- THE SECOND FORM's CARD OF 'naskhlaw18.UnshapeTakes'. -/
def unshapeTakesUptoCard : Claim7 := { stood := { row := unshapeTakesUptoRow, standIns := [], harness := (true, "197f46cc9a19a6f28dc4a8137ce7a9c4c45bbe782338a4375a9a85429bf99d10"), looks := false }, kinds := [], alts := [], laidByText := true, laidKinds := [.data], laidTests := true, laidLooks := .later }
def UnshapeTakesUptoCardSaid : Prop := Claim7.holds Tryz.pinned (.plain (OpenSpec.upto unshapeTakesSpec)) unshapeTakesUptoCard

/-- THE SECOND FORM's CARD OF 'naskhlaw18.UnshapeBack'. -/
def unshapeBackUptoCard : Claim7 := { stood := { row := unshapeBackUptoRow, standIns := [], harness := (true, "197f46cc9a19a6f28dc4a8137ce7a9c4c45bbe782338a4375a9a85429bf99d10"), looks := false }, kinds := [], alts := [], laidByText := true, laidKinds := [.data], laidTests := true, laidLooks := .later }
def UnshapeBackUptoCardSaid : Prop := Claim7.holds Tryz.pinned (.plain (OpenSpec.upto unshapeBackSpec)) unshapeBackUptoCard

/-- THE SECOND FORM's CARD OF 'naskhlaw18.UnshapeMap'. -/
def unshapeMapUptoCard : Claim7 := { stood := { row := unshapeMapUptoRow, standIns := [], harness := (true, "197f46cc9a19a6f28dc4a8137ce7a9c4c45bbe782338a4375a9a85429bf99d10"), looks := false }, kinds := [], alts := [], laidByText := true, laidKinds := [.data], laidTests := true, laidLooks := .later }
def UnshapeMapUptoCardSaid : Prop := Claim7.holds Tryz.pinned (.plain (OpenSpec.upto unshapeMapSpec)) unshapeMapUptoCard

/-- THE SECOND FORM's CARD OF 'naskhlaw18.UnshapeTwice'. -/
def unshapeTwiceUptoCard : Claim7 := { stood := { row := unshapeTwiceUptoRow, standIns := [], harness := (true, "197f46cc9a19a6f28dc4a8137ce7a9c4c45bbe782338a4375a9a85429bf99d10"), looks := false }, kinds := [], alts := [], laidByText := true, laidKinds := [.data], laidTests := true, laidLooks := .later }
def UnshapeTwiceUptoCardSaid : Prop := Claim7.holds Tryz.pinned (.plain (OpenSpec.upto unshapeTwiceSpec)) unshapeTwiceUptoCard
end Rows
end Go.Proofs.YtanngknhbgcobaaGreatDoor
