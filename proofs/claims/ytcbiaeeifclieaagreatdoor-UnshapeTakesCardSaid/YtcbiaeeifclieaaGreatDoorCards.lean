/-
  DERIVED. GIVEN WITH THE SEED: THE CARDS: each row of YtcbiaeeifclieaaGreatDoorRows.lean that lists a variable, with what it lists TIED to the program's text (the seventh form; the later family's looks); each row that meets fmt, with fmt's text TOLD by the authors' own Lean function (tested against real Go, not proved from fmt's source: count such statements apart). THE CARD IS WHAT COUNTS. Prove the row's statement (the work); the ties are given (YtcbiaeeifclieaaGreatDoorTie.lean); close each card by the builder's one call (the guide's Derived/Test/ToyasCard.lean, 'card_holds'). Laid BY PROGRAM, IN A SANDBOX (cutbox-door.mjs). By AI agents, Wed Nov 11 2026. No macro, syntax, notation, axiom, sorry.
-/
import Derived.Test.YtcbiaeeifclieaaGreatDoorRows
import GoSem.ClaimSeven
namespace Go.Proofs.YtcbiaeeifclieaaGreatDoor
namespace Rows

/-- THE TIED CARD OF 'naskhlaw18.UnshapeTakes'. -/
def unshapeTakesCard : Claim7 := { stood := { row := unshapeTakesRow, standIns := [], harness := (true, "848b094eff127294f0119c3683323e7c71eec52efb4f5590ee29487646c4bc52"), looks := false }, kinds := [], alts := [], laidByText := true, laidKinds := [.data], laidTests := true, laidLooks := .later }
def UnshapeTakesCardSaid : Prop := Claim7.holds Tryz.pinned (.plain (OpenSpec.ofChange unshapeTakesSpec)) unshapeTakesCard

/-- THE SECOND FORM's CARD OF 'naskhlaw18.UnshapeTakes'. -/
def unshapeTakesUptoCard : Claim7 := { stood := { row := unshapeTakesUptoRow, standIns := [], harness := (true, "848b094eff127294f0119c3683323e7c71eec52efb4f5590ee29487646c4bc52"), looks := false }, kinds := [], alts := [], laidByText := true, laidKinds := [.data], laidTests := true, laidLooks := .later }
def UnshapeTakesUptoCardSaid : Prop := Claim7.holds Tryz.pinned (.plain (OpenSpec.upto unshapeTakesSpec)) unshapeTakesUptoCard
end Rows
end Go.Proofs.YtcbiaeeifclieaaGreatDoor
