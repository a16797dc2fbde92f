/-
  No cell of these rows narrows 'for every input' (looked for: loops, veiled, ifaces, maps, wideKeys, modest, calm, conditions, laid).
  DERIVED. THE GIVEN ROWS OF THIS SEAT. 8 by the template 'for every input the law returns true; each argument reads behind the call as it read before'; 0 by the template 'total and deterministic' (their statements: YtcjcimdembkbkaaTotals.lean).
  GIVEN WITH THE SEED: the statements are not yours to turn. If you find one false, say at which input.
  Laid BY PROGRAM, IN A SANDBOX (cutbox-rows.mjs): the forced cells as the released guide's own fill.sh prints them over the translation 55170d4e1138cc5c… (all of the seat's roots in one cut). By AI agents, Wed Nov 11 2026. No macro, syntax, notation, axiom, sorry.
-/
import Derived.Test.YtcjcimdembkbkaaChecked
import GoSem.Claim
import GoSem.ClaimJoined
import GoSem.ClaimMapViews
import Derived.JoinedTies
import Derived.KernelRfl
namespace Go.Proofs.Ytcjcimdembkbkaa
/- THE CELL 'sum', in the pinned program and in every row, IS THE sha256 OF THE DUMP (.gsa) THAT YtcjcimdembkbkaaProg.lean LOADS. Nothing in Lean hashes anything: it is a label: what it is worth is what the hold of that sum in a sandbox is worth. -/
noncomputable def Try.pinned : Pinned := { name := "ytcjcimdembkbkaa", sum := "55170d4e1138cc5c0652d59b03ab9663eeac1d54eb99fd8edbf8c33f893bf03e", checked := Try.checked }
namespace Rows
def none {H : Type} : Left H := { results := [], args := [] }

/-- 'naskhlaw13.JoinForms': WHATEVER THE INPUT: true; the input reads as it did. -/
def joinFormsSpec : ChangeSpec := { name := "joinForms", fn := fun _ => fun
  | [d] => { results := [.lit (.bool true)], args := [d] }
  | _ => none }
def joinFormsRow : OpenClaim := { program := "ytcjcimdembkbkaa", sum := "55170d4e1138cc5c0652d59b03ab9663eeac1d54eb99fd8edbf8c33f893bf03e", func := "naskh/naskhlaw13.JoinForms", spec := "joinForms", unfollowed := true, recurses := true, plainKeys := false, apart := false }
def JoinFormsSaid : Prop := joinFormsRow.holds Try.pinned (OpenSpec.ofChange joinFormsSpec)

/-- ITS FALSE NEIGHBOUR: 'it returns false'. Refute it at one input. -/
def joinFormsWrong : ChangeSpec := { name := "joinForms", fn := fun _ => fun
  | [d] => { results := [.lit (.bool false)], args := [d] }
  | _ => none }
def JoinFormsWrongFalsely : Prop := joinFormsRow.holds Try.pinned (OpenSpec.ofChange joinFormsWrong)

/-- 'naskhlaw13.JoinPlaces': WHATEVER THE INPUT: true; the input reads as it did. -/
def joinPlacesSpec : ChangeSpec := { name := "joinPlaces", fn := fun _ => fun
  | [d1, d2] => { results := [.lit (.bool true)], args := [d1, d2] }
  | _ => none }
def joinPlacesRow : OpenClaim := { program := "ytcjcimdembkbkaa", sum := "55170d4e1138cc5c0652d59b03ab9663eeac1d54eb99fd8edbf8c33f893bf03e", func := "naskh/naskhlaw13.JoinPlaces", spec := "joinPlaces", unfollowed := true, recurses := true, plainKeys := false, apart := false }
def JoinPlacesSaid : Prop := joinPlacesRow.holds Try.pinned (OpenSpec.ofChange joinPlacesSpec)

/-- ITS FALSE NEIGHBOUR: 'it returns false'. Refute it at one input. -/
def joinPlacesWrong : ChangeSpec := { name := "joinPlaces", fn := fun _ => fun
  | [d1, d2] => { results := [.lit (.bool false)], args := [d1, d2] }
  | _ => none }
def JoinPlacesWrongFalsely : Prop := joinPlacesRow.holds Try.pinned (OpenSpec.ofChange joinPlacesWrong)

/-- 'naskhlaw13.JoinMeets': WHATEVER THE INPUT: true; the input reads as it did. -/
def joinMeetsSpec : ChangeSpec := { name := "joinMeets", fn := fun _ => fun
  | [d] => { results := [.lit (.bool true)], args := [d] }
  | _ => none }
def joinMeetsRow : OpenClaim := { program := "ytcjcimdembkbkaa", sum := "55170d4e1138cc5c0652d59b03ab9663eeac1d54eb99fd8edbf8c33f893bf03e", func := "naskh/naskhlaw13.JoinMeets", spec := "joinMeets", unfollowed := true, recurses := true, plainKeys := false, apart := false }
def JoinMeetsSaid : Prop := joinMeetsRow.holds Try.pinned (OpenSpec.ofChange joinMeetsSpec)

/-- ITS FALSE NEIGHBOUR: 'it returns false'. Refute it at one input. -/
def joinMeetsWrong : ChangeSpec := { name := "joinMeets", fn := fun _ => fun
  | [d] => { results := [.lit (.bool false)], args := [d] }
  | _ => none }
def JoinMeetsWrongFalsely : Prop := joinMeetsRow.holds Try.pinned (OpenSpec.ofChange joinMeetsWrong)

/-- 'naskhlaw13.JoinApart': WHATEVER THE INPUT: true; the input reads as it did. -/
def joinApartSpec : ChangeSpec := { name := "joinApart", fn := fun _ => fun
  | [d1, d2, d3] => { results := [.lit (.bool true)], args := [d1, d2, d3] }
  | _ => none }
def joinApartRow : OpenClaim := { program := "ytcjcimdembkbkaa", sum := "55170d4e1138cc5c0652d59b03ab9663eeac1d54eb99fd8edbf8c33f893bf03e", func := "naskh/naskhlaw13.JoinApart", spec := "joinApart", unfollowed := true, recurses := true, plainKeys := false, apart := false }
def JoinApartSaid : Prop := joinApartRow.holds Try.pinned (OpenSpec.ofChange joinApartSpec)

/-- ITS FALSE NEIGHBOUR: 'it returns false'. Refute it at one input. -/
def joinApartWrong : ChangeSpec := { name := "joinApart", fn := fun _ => fun
  | [d1, d2, d3] => { results := [.lit (.bool false)], args := [d1, d2, d3] }
  | _ => none }
def JoinApartWrongFalsely : Prop := joinApartRow.holds Try.pinned (OpenSpec.ofChange joinApartWrong)

/-- 'naskhlaw13.JoinMarks': WHATEVER THE INPUT: true; the input reads as it did. -/
def joinMarksSpec : ChangeSpec := { name := "joinMarks", fn := fun _ => fun
  | [d1, d2] => { results := [.lit (.bool true)], args := [d1, d2] }
  | _ => none }
def joinMarksRow : OpenClaim := { program := "ytcjcimdembkbkaa", sum := "55170d4e1138cc5c0652d59b03ab9663eeac1d54eb99fd8edbf8c33f893bf03e", func := "naskh/naskhlaw13.JoinMarks", spec := "joinMarks", inPlace := ["slices.overlaps[int]"], unfollowed := true, recurses := true, plainKeys := false, apart := false }
def JoinMarksSaid : Prop := joinMarksRow.holds Try.pinned (OpenSpec.ofChange joinMarksSpec)

/-- ITS FALSE NEIGHBOUR: 'it returns false'. Refute it at one input. -/
def joinMarksWrong : ChangeSpec := { name := "joinMarks", fn := fun _ => fun
  | [d1, d2] => { results := [.lit (.bool false)], args := [d1, d2] }
  | _ => none }
def JoinMarksWrongFalsely : Prop := joinMarksRow.holds Try.pinned (OpenSpec.ofChange joinMarksWrong)

/-- 'naskhlaw14.LamalefFinds': WHATEVER THE INPUT: true; the input reads as it did. -/
def lamalefFindsSpec : ChangeSpec := { name := "lamalefFinds", fn := fun _ => fun
  | [d1, d2, d3] => { results := [.lit (.bool true)], args := [d1, d2, d3] }
  | _ => none }
def lamalefFindsRow : OpenClaim := { program := "ytcjcimdembkbkaa", sum := "55170d4e1138cc5c0652d59b03ab9663eeac1d54eb99fd8edbf8c33f893bf03e", func := "naskh/naskhlaw14.LamalefFinds", spec := "lamalefFinds", unfollowed := true, recurses := true, plainKeys := false, apart := false }
def LamalefFindsSaid : Prop := lamalefFindsRow.holds Try.pinned (OpenSpec.ofChange lamalefFindsSpec)

/-- ITS FALSE NEIGHBOUR: 'it returns false'. Refute it at one input. -/
def lamalefFindsWrong : ChangeSpec := { name := "lamalefFinds", fn := fun _ => fun
  | [d1, d2, d3] => { results := [.lit (.bool false)], args := [d1, d2, d3] }
  | _ => none }
def LamalefFindsWrongFalsely : Prop := lamalefFindsRow.holds Try.pinned (OpenSpec.ofChange lamalefFindsWrong)

/-- 'naskhlaw14.LamalefCodes': WHATEVER THE INPUT: true; the input reads as it did. -/
def lamalefCodesSpec : ChangeSpec := { name := "lamalefCodes", fn := fun _ => fun
  | [d1, d2, d3] => { results := [.lit (.bool true)], args := [d1, d2, d3] }
  | _ => none }
def lamalefCodesRow : OpenClaim := { program := "ytcjcimdembkbkaa", sum := "55170d4e1138cc5c0652d59b03ab9663eeac1d54eb99fd8edbf8c33f893bf03e", func := "naskh/naskhlaw14.LamalefCodes", spec := "lamalefCodes", unfollowed := true, recurses := true, plainKeys := false, apart := false }
def LamalefCodesSaid : Prop := lamalefCodesRow.holds Try.pinned (OpenSpec.ofChange lamalefCodesSpec)

/-- ITS FALSE NEIGHBOUR: 'it returns false'. Refute it at one input. -/
def lamalefCodesWrong : ChangeSpec := { name := "lamalefCodes", fn := fun _ => fun
  | [d1, d2, d3] => { results := [.lit (.bool false)], args := [d1, d2, d3] }
  | _ => none }
def LamalefCodesWrongFalsely : Prop := lamalefCodesRow.holds Try.pinned (OpenSpec.ofChange lamalefCodesWrong)

/-- 'naskhlaw14.LamalefOnce': WHATEVER THE INPUT: true; the input reads as it did. -/
def lamalefOnceSpec : ChangeSpec := { name := "lamalefOnce", fn := fun _ => fun
  | [d1, d2] => { results := [.lit (.bool true)], args := [d1, d2] }
  | _ => none }
def lamalefOnceRow : OpenClaim := { program := "ytcjcimdembkbkaa", sum := "55170d4e1138cc5c0652d59b03ab9663eeac1d54eb99fd8edbf8c33f893bf03e", func := "naskh/naskhlaw14.LamalefOnce", spec := "lamalefOnce", unfollowed := true, recurses := true, plainKeys := false, apart := false }
def LamalefOnceSaid : Prop := lamalefOnceRow.holds Try.pinned (OpenSpec.ofChange lamalefOnceSpec)

/-- ITS FALSE NEIGHBOUR: 'it returns false'. Refute it at one input. -/
def lamalefOnceWrong : ChangeSpec := { name := "lamalefOnce", fn := fun _ => fun
  | [d1, d2] => { results := [.lit (.bool false)], args := [d1, d2] }
  | _ => none }
def LamalefOnceWrongFalsely : Prop := lamalefOnceRow.holds Try.pinned (OpenSpec.ofChange lamalefOnceWrong)

/- THE SECOND FORM. 'bulk': how many values and letters a reading holds, each counted each time it is reached (what is shared counts as often as it is met; a slice's spare places count too). A statement '..UptoSaid' is the law's where the arguments, and the package variables that the reading takes, are together of bulk at most 1048576: NARROWER than '..Said'. Prove '..Said' where nothing that the law and all that it calls make is longer than what came in: it says more and counts as full. Else prove '..UptoSaid'. A law counts once. -/
mutual
def uptoBulk {H : Type} : DataW H → Nat
  | .lit (.string bytes) => bytes.length + 1
  | .lit _ => 1
  | .nil => 1
  | .ptr d => uptoBulk d + 1
  | .slice elems spare => uptoBulkAll elems + uptoBulkAll spare + 1
  | .agg parts => uptoBulkAll parts + 1
  | .iface _ d => uptoBulk d + 1
  | .map entries => uptoBulkEntries entries + 1
  | .held _ => 1
def uptoBulkAll {H : Type} : List (DataW H) → Nat
  | [] => 0
  | d :: r => uptoBulk d + uptoBulkAll r
def uptoBulkEntries {H : Type} : List (Lit × DataW H) → Nat
  | [] => 0
  | x :: r => uptoBulkEntry x + uptoBulkEntries r
def uptoBulkEntry {H : Type} : Lit × DataW H → Nat
  | (.string bytes, d) => bytes.length + uptoBulk d + 1
  | (_, d) => uptoBulk d + 1
 end
def uptoSmall : (H : Type) → List (DataW H) → Bool := fun _ ds => decide (uptoBulkAll ds ≤ 1048576)
def OpenSpec.upto (s : _root_.Go.ChangeSpec) : _root_.Go.OpenSpec := { _root_.Go.OpenSpec.ofChange s with cond := some uptoSmall }

/-- 'naskhlaw13.JoinForms', WHERE WHAT IT READS IS OF BULK AT MOST 1048576: true; the input reads as it did. -/
def joinFormsUptoRow : OpenClaim := { program := "ytcjcimdembkbkaa", sum := "55170d4e1138cc5c0652d59b03ab9663eeac1d54eb99fd8edbf8c33f893bf03e", func := "naskh/naskhlaw13.JoinForms", spec := "joinForms", unfollowed := true, recurses := true, plainKeys := false, apart := false, narrowed := true }
def JoinFormsUptoSaid : Prop := joinFormsUptoRow.holds Try.pinned (OpenSpec.upto joinFormsSpec)

/-- 'naskhlaw13.JoinPlaces', WHERE WHAT IT READS IS OF BULK AT MOST 1048576: true; the input reads as it did. -/
def joinPlacesUptoRow : OpenClaim := { program := "ytcjcimdembkbkaa", sum := "55170d4e1138cc5c0652d59b03ab9663eeac1d54eb99fd8edbf8c33f893bf03e", func := "naskh/naskhlaw13.JoinPlaces", spec := "joinPlaces", unfollowed := true, recurses := true, plainKeys := false, apart := false, narrowed := true }
def JoinPlacesUptoSaid : Prop := joinPlacesUptoRow.holds Try.pinned (OpenSpec.upto joinPlacesSpec)

/-- 'naskhlaw13.JoinMeets', WHERE WHAT IT READS IS OF BULK AT MOST 1048576: true; the input reads as it did. -/
def joinMeetsUptoRow : OpenClaim := { program := "ytcjcimdembkbkaa", sum := "55170d4e1138cc5c0652d59b03ab9663eeac1d54eb99fd8edbf8c33f893bf03e", func := "naskh/naskhlaw13.JoinMeets", spec := "joinMeets", unfollowed := true, recurses := true, plainKeys := false, apart := false, narrowed := true }
def JoinMeetsUptoSaid : Prop := joinMeetsUptoRow.holds Try.pinned (OpenSpec.upto joinMeetsSpec)

/-- 'naskhlaw13.JoinApart', WHERE WHAT IT READS IS OF BULK AT MOST 1048576: true; the input reads as it did. -/
def joinApartUptoRow : OpenClaim := { program := "ytcjcimdembkbkaa", sum := "55170d4e1138cc5c0652d59b03ab9663eeac1d54eb99fd8edbf8c33f893bf03e", func := "naskh/naskhlaw13.JoinApart", spec := "joinApart", unfollowed := true, recurses := true, plainKeys := false, apart := false, narrowed := true }
def JoinApartUptoSaid : Prop := joinApartUptoRow.holds Try.pinned (OpenSpec.upto joinApartSpec)

/-- 'naskhlaw13.JoinMarks', WHERE WHAT IT READS IS OF BULK AT MOST 1048576: true; the input reads as it did. -/
def joinMarksUptoRow : OpenClaim := { program := "ytcjcimdembkbkaa", sum := "55170d4e1138cc5c0652d59b03ab9663eeac1d54eb99fd8edbf8c33f893bf03e", func := "naskh/naskhlaw13.JoinMarks", spec := "joinMarks", inPlace := ["slices.overlaps[int]"], unfollowed := true, recurses := true, plainKeys := false, apart := false, narrowed := true }
def JoinMarksUptoSaid : Prop := joinMarksUptoRow.holds Try.pinned (OpenSpec.upto joinMarksSpec)

/-- 'naskhlaw14.LamalefFinds', WHERE WHAT IT READS IS OF BULK AT MOST 1048576: true; the input reads as it did. -/
def lamalefFindsUptoRow : OpenClaim := { program := "ytcjcimdembkbkaa", sum := "55170d4e1138cc5c0652d59b03ab9663eeac1d54eb99fd8edbf8c33f893bf03e", func := "naskh/naskhlaw14.LamalefFinds", spec := "lamalefFinds", unfollowed := true, recurses := true, plainKeys := false, apart := false, narrowed := true }
def LamalefFindsUptoSaid : Prop := lamalefFindsUptoRow.holds Try.pinned (OpenSpec.upto lamalefFindsSpec)

/-- 'naskhlaw14.LamalefCodes', WHERE WHAT IT READS IS OF BULK AT MOST 1048576: true; the input reads as it did. -/
def lamalefCodesUptoRow : OpenClaim := { program := "ytcjcimdembkbkaa", sum := "55170d4e1138cc5c0652d59b03ab9663eeac1d54eb99fd8edbf8c33f893bf03e", func := "naskh/naskhlaw14.LamalefCodes", spec := "lamalefCodes", unfollowed := true, recurses := true, plainKeys := false, apart := false, narrowed := true }
def LamalefCodesUptoSaid : Prop := lamalefCodesUptoRow.holds Try.pinned (OpenSpec.upto lamalefCodesSpec)

/-- 'naskhlaw14.LamalefOnce', WHERE WHAT IT READS IS OF BULK AT MOST 1048576: true; the input reads as it did. -/
def lamalefOnceUptoRow : OpenClaim := { program := "ytcjcimdembkbkaa", sum := "55170d4e1138cc5c0652d59b03ab9663eeac1d54eb99fd8edbf8c33f893bf03e", func := "naskh/naskhlaw14.LamalefOnce", spec := "lamalefOnce", unfollowed := true, recurses := true, plainKeys := false, apart := false, narrowed := true }
def LamalefOnceUptoSaid : Prop := lamalefOnceUptoRow.holds Try.pinned (OpenSpec.upto lamalefOnceSpec)

end Rows
end Go.Proofs.Ytcjcimdembkbkaa
