/-
  NARROWER THAN 'FOR EVERY INPUT', by the rows' own cells (each row's printed sentence says how): OptionChecks: laid · OptionBits: laid · OptionBack: laid · SpellPrints: laid · SpellParses: laid · SpellBack: laid · SpellTwice: laid.
  DERIVED. THE GIVEN ROWS OF THIS SEAT. 7 by the template 'for every input the law returns true; each argument reads behind the call as it read before'; 0 by the template 'total and deterministic' (their statements: YtcdogkabdhbjmaaDoorTotals.lean).
  GIVEN WITH THE SEED: the statements are not yours to turn. If you find one false, say at which input.
  Laid BY PROGRAM, IN A SANDBOX (cutbox-rows.mjs): the forced cells as the released guide's own fill.sh prints them over the translation 1f31455da48106d4… (all of the seat's roots in one cut). By AI agents, Wed Nov 11 2026. No macro, syntax, notation, axiom, sorry.
-/
import Derived.Test.YtcdogkabdhbjmaaDoorChecked
import GoSem.Claim
import GoSem.ClaimJoined
import GoSem.ClaimMapViews
import Derived.JoinedTies
import Derived.KernelRfl
namespace Go.Proofs.YtcdogkabdhbjmaaDoor
/- THE CELL 'sum', in the pinned program and in every row, IS THE sha256 OF THE DUMP (.gsa) THAT YtcdogkabdhbjmaaDoorProg.lean LOADS. Nothing in Lean hashes anything: it is a label: what it is worth is what the hold of that sum in a sandbox is worth. -/
noncomputable def Tryd.pinned : Pinned := { name := "ytcdogkabdhbjmaadoor", sum := "1f31455da48106d4ff67cc45235f1656362541a2523a3ee0bee4126bac408974", checked := Tryd.checked }
namespace Rows
def none {H : Type} : Left H := { results := [], args := [] }

/- WHAT THE LISTED PACKAGE-LEVEL VARIABLES READ AS WHEN THE CALL BEGINS. Each datum BY PROGRAM (the guide's laid-datum.mjs) off the statement by which the dump's own 'gosem.cut.vars' lays the variable. In a bare row this is a premise. The card (YtcdogkabdhbjmaaDoorCards.lean) ties it to the program's text. -/
def laid_naskh_option_sizes {H : Type} : DataW H := .agg [.lit (.int .i64 4), .lit (.int .i64 5), .lit (.int .i64 5), .lit (.int .i64 5)]
def laid_naskh_spell_terms {H : Type} : DataW H := .agg [.agg [.lit (.string [108, 116, 114]), .lit (.int .i64 0), .lit (.int .i64 0)], .agg [.lit (.string [114, 116, 108]), .lit (.int .i64 0), .lit (.int .i64 1)], .agg [.lit (.string [102, 105, 114, 115, 116, 45, 108, 116, 114]), .lit (.int .i64 0), .lit (.int .i64 2)], .agg [.lit (.string [102, 105, 114, 115, 116, 45, 114, 116, 108]), .lit (.int .i64 0), .lit (.int .i64 3)], .agg [.lit (.string [108, 97, 109, 45, 114, 101, 115, 105, 122, 101]), .lit (.int .i64 1), .lit (.int .i64 1)], .agg [.lit (.string [108, 97, 109, 45, 110, 101, 97, 114]), .lit (.int .i64 1), .lit (.int .i64 2)], .agg [.lit (.string [108, 97, 109, 45, 98, 101, 103, 105, 110]), .lit (.int .i64 1), .lit (.int .i64 3)], .agg [.lit (.string [108, 97, 109, 45, 101, 110, 100]), .lit (.int .i64 1), .lit (.int .i64 4)], .agg [.lit (.string [109, 97, 114, 107, 45, 105, 115, 111, 108, 97, 116, 101, 100]), .lit (.int .i64 2), .lit (.int .i64 1)], .agg [.lit (.string [109, 97, 114, 107, 45, 109, 101, 100, 105, 97, 108]), .lit (.int .i64 2), .lit (.int .i64 2)], .agg [.lit (.string [109, 97, 114, 107, 45, 114, 101, 109, 111, 118, 101]), .lit (.int .i64 2), .lit (.int .i64 3)], .agg [.lit (.string [109, 97, 114, 107, 45, 116, 97, 116, 119, 101, 101, 108]), .lit (.int .i64 2), .lit (.int .i64 4)], .agg [.lit (.string [116, 111, 45, 97, 114, 97, 98, 105, 99]), .lit (.int .i64 3), .lit (.int .i64 1)], .agg [.lit (.string [116, 111, 45, 101, 117, 114, 111, 112, 101, 97, 110]), .lit (.int .i64 3), .lit (.int .i64 2)], .agg [.lit (.string [99, 111, 110, 116, 101, 120, 116, 45, 108, 116, 114]), .lit (.int .i64 3), .lit (.int .i64 3)], .agg [.lit (.string [99, 111, 110, 116, 101, 120, 116, 45, 97, 114, 97, 98, 105, 99]), .lit (.int .i64 3), .lit (.int .i64 4)], .agg [.lit (.string [101, 97, 115, 116, 101, 114, 110]), .lit (.int .i64 4), .lit (.int .i64 1)], .agg [.lit (.string [108, 101, 116, 116, 101, 114, 115]), .lit (.int .i64 5), .lit (.int .i64 1)], .agg [.lit (.string [116, 104, 114, 111, 117, 103, 104]), .lit (.int .i64 6), .lit (.int .i64 1)], .agg [.lit (.string [112, 105, 108, 101]), .lit (.int .i64 7), .lit (.int .i64 1)], .agg [.lit (.string [115, 101, 101, 110]), .lit (.int .i64 8), .lit (.int .i64 1)], .agg [.lit (.string [121, 101, 104]), .lit (.int .i64 9), .lit (.int .i64 1)], .agg [.lit (.string [114, 101, 111, 114, 100, 101, 114]), .lit (.int .i64 10), .lit (.int .i64 1)], .agg [.lit (.string [109, 97, 114, 107, 115]), .lit (.int .i64 11), .lit (.int .i64 1)], .agg [.lit (.string [109, 105, 114, 114, 111, 114]), .lit (.int .i64 12), .lit (.int .i64 1)], .agg [.lit (.string [115, 116, 114, 105, 112]), .lit (.int .i64 13), .lit (.int .i64 1)]]

/-- 'naskhlaw10.OptionChecks': WHATEVER THE INPUT: true; the input reads as it did. -/
def optionChecksSpec : ChangeSpec := { name := "optionChecks", fn := fun _ => fun
  | [d1, d2] => { results := [.lit (.bool true)], args := [d1, d2] }
  | _ => none }
def optionChecksRow : OpenClaim := { program := "ytcdogkabdhbjmaadoor", sum := "1f31455da48106d4ff67cc45235f1656362541a2523a3ee0bee4126bac408974", func := "naskh/naskhlaw10.OptionChecks", spec := "optionChecks", named := ["naskh/option.sizes"], apart := false, laid := [("naskh/option.sizes", laid_naskh_option_sizes)] }
def OptionChecksSaid : Prop := optionChecksRow.holds Tryd.pinned (OpenSpec.ofChange optionChecksSpec)

/-- ITS FALSE NEIGHBOUR: 'it returns false'. Refute it at one input. -/
def optionChecksWrong : ChangeSpec := { name := "optionChecks", fn := fun _ => fun
  | [d1, d2] => { results := [.lit (.bool false)], args := [d1, d2] }
  | _ => none }
def OptionChecksWrongFalsely : Prop := optionChecksRow.holds Tryd.pinned (OpenSpec.ofChange optionChecksWrong)

/-- 'naskhlaw10.OptionBits': WHATEVER THE INPUT: true; the input reads as it did. -/
def optionBitsSpec : ChangeSpec := { name := "optionBits", fn := fun _ => fun
  | [d1, d2] => { results := [.lit (.bool true)], args := [d1, d2] }
  | _ => none }
def optionBitsRow : OpenClaim := { program := "ytcdogkabdhbjmaadoor", sum := "1f31455da48106d4ff67cc45235f1656362541a2523a3ee0bee4126bac408974", func := "naskh/naskhlaw10.OptionBits", spec := "optionBits", named := ["naskh/option.sizes"], apart := false, laid := [("naskh/option.sizes", laid_naskh_option_sizes)] }
def OptionBitsSaid : Prop := optionBitsRow.holds Tryd.pinned (OpenSpec.ofChange optionBitsSpec)

/-- ITS FALSE NEIGHBOUR: 'it returns false'. Refute it at one input. -/
def optionBitsWrong : ChangeSpec := { name := "optionBits", fn := fun _ => fun
  | [d1, d2] => { results := [.lit (.bool false)], args := [d1, d2] }
  | _ => none }
def OptionBitsWrongFalsely : Prop := optionBitsRow.holds Tryd.pinned (OpenSpec.ofChange optionBitsWrong)

/-- 'naskhlaw10.OptionBack': WHATEVER THE INPUT: true; the input reads as it did. -/
def optionBackSpec : ChangeSpec := { name := "optionBack", fn := fun _ => fun
  | [d1, d2] => { results := [.lit (.bool true)], args := [d1, d2] }
  | _ => none }
def optionBackRow : OpenClaim := { program := "ytcdogkabdhbjmaadoor", sum := "1f31455da48106d4ff67cc45235f1656362541a2523a3ee0bee4126bac408974", func := "naskh/naskhlaw10.OptionBack", spec := "optionBack", named := ["naskh/option.sizes"], apart := false, laid := [("naskh/option.sizes", laid_naskh_option_sizes)] }
def OptionBackSaid : Prop := optionBackRow.holds Tryd.pinned (OpenSpec.ofChange optionBackSpec)

/-- ITS FALSE NEIGHBOUR: 'it returns false'. Refute it at one input. -/
def optionBackWrong : ChangeSpec := { name := "optionBack", fn := fun _ => fun
  | [d1, d2] => { results := [.lit (.bool false)], args := [d1, d2] }
  | _ => none }
def OptionBackWrongFalsely : Prop := optionBackRow.holds Tryd.pinned (OpenSpec.ofChange optionBackWrong)

/-- 'naskhlaw11.SpellPrints': WHATEVER THE INPUT: true; the input reads as it did. -/
def spellPrintsSpec : ChangeSpec := { name := "spellPrints", fn := fun _ => fun
  | [d] => { results := [.lit (.bool true)], args := [d] }
  | _ => none }
def spellPrintsRow : OpenClaim := { program := "ytcdogkabdhbjmaadoor", sum := "1f31455da48106d4ff67cc45235f1656362541a2523a3ee0bee4126bac408974", func := "naskh/naskhlaw11.SpellPrints", spec := "spellPrints", inPlace := ["internal/abi.NoEscape", "internal/bytealg.MakeNoZero"], unfollowed := true, recurses := true, named := ["naskh/spell.terms", "naskh/option.sizes"], apart := false, laid := [("naskh/option.sizes", laid_naskh_option_sizes), ("naskh/spell.terms", laid_naskh_spell_terms)] }
def SpellPrintsSaid : Prop := spellPrintsRow.holds Tryd.pinned (OpenSpec.ofChange spellPrintsSpec)

/-- ITS FALSE NEIGHBOUR: 'it returns false'. Refute it at one input. -/
def spellPrintsWrong : ChangeSpec := { name := "spellPrints", fn := fun _ => fun
  | [d] => { results := [.lit (.bool false)], args := [d] }
  | _ => none }
def SpellPrintsWrongFalsely : Prop := spellPrintsRow.holds Tryd.pinned (OpenSpec.ofChange spellPrintsWrong)

/-- 'naskhlaw11.SpellParses': WHATEVER THE INPUT: true; the input reads as it did. -/
def spellParsesSpec : ChangeSpec := { name := "spellParses", fn := fun _ => fun
  | [d] => { results := [.lit (.bool true)], args := [d] }
  | _ => none }
def spellParsesRow : OpenClaim := { program := "ytcdogkabdhbjmaadoor", sum := "1f31455da48106d4ff67cc45235f1656362541a2523a3ee0bee4126bac408974", func := "naskh/naskhlaw11.SpellParses", spec := "spellParses", unfollowed := true, recurses := true, named := ["naskh/spell.terms", "naskh/option.sizes"], apart := false, laid := [("naskh/option.sizes", laid_naskh_option_sizes), ("naskh/spell.terms", laid_naskh_spell_terms)] }
def SpellParsesSaid : Prop := spellParsesRow.holds Tryd.pinned (OpenSpec.ofChange spellParsesSpec)

/-- ITS FALSE NEIGHBOUR: 'it returns false'. Refute it at one input. -/
def spellParsesWrong : ChangeSpec := { name := "spellParses", fn := fun _ => fun
  | [d] => { results := [.lit (.bool false)], args := [d] }
  | _ => none }
def SpellParsesWrongFalsely : Prop := spellParsesRow.holds Tryd.pinned (OpenSpec.ofChange spellParsesWrong)

/-- 'naskhlaw11.SpellBack': WHATEVER THE INPUT: true; the input reads as it did. -/
def spellBackSpec : ChangeSpec := { name := "spellBack", fn := fun _ => fun
  | [d1, d2] => { results := [.lit (.bool true)], args := [d1, d2] }
  | _ => none }
def spellBackRow : OpenClaim := { program := "ytcdogkabdhbjmaadoor", sum := "1f31455da48106d4ff67cc45235f1656362541a2523a3ee0bee4126bac408974", func := "naskh/naskhlaw11.SpellBack", spec := "spellBack", inPlace := ["internal/abi.NoEscape", "internal/bytealg.MakeNoZero"], unfollowed := true, recurses := true, named := ["naskh/spell.terms", "naskh/option.sizes"], apart := false, laid := [("naskh/option.sizes", laid_naskh_option_sizes), ("naskh/spell.terms", laid_naskh_spell_terms)] }
def SpellBackSaid : Prop := spellBackRow.holds Tryd.pinned (OpenSpec.ofChange spellBackSpec)

/-- ITS FALSE NEIGHBOUR: 'it returns false'. Refute it at one input. -/
def spellBackWrong : ChangeSpec := { name := "spellBack", fn := fun _ => fun
  | [d1, d2] => { results := [.lit (.bool false)], args := [d1, d2] }
  | _ => none }
def SpellBackWrongFalsely : Prop := spellBackRow.holds Tryd.pinned (OpenSpec.ofChange spellBackWrong)

/-- 'naskhlaw11.SpellTwice': WHATEVER THE INPUT: true; the input reads as it did. -/
def spellTwiceSpec : ChangeSpec := { name := "spellTwice", fn := fun _ => fun
  | [d1, d2] => { results := [.lit (.bool true)], args := [d1, d2] }
  | _ => none }
def spellTwiceRow : OpenClaim := { program := "ytcdogkabdhbjmaadoor", sum := "1f31455da48106d4ff67cc45235f1656362541a2523a3ee0bee4126bac408974", func := "naskh/naskhlaw11.SpellTwice", spec := "spellTwice", unfollowed := true, recurses := true, named := ["naskh/spell.terms", "naskh/option.sizes"], apart := false, laid := [("naskh/option.sizes", laid_naskh_option_sizes), ("naskh/spell.terms", laid_naskh_spell_terms)] }
def SpellTwiceSaid : Prop := spellTwiceRow.holds Tryd.pinned (OpenSpec.ofChange spellTwiceSpec)

/-- ITS FALSE NEIGHBOUR: 'it returns false'. Refute it at one input. -/
def spellTwiceWrong : ChangeSpec := { name := "spellTwice", fn := fun _ => fun
  | [d1, d2] => { results := [.lit (.bool false)], args := [d1, d2] }
  | _ => none }
def SpellTwiceWrongFalsely : Prop := spellTwiceRow.holds Tryd.pinned (OpenSpec.ofChange spellTwiceWrong)

/- THE SECOND FORM. 'bulk': how many values and letters a reading holds, each counted each time it is reached (what is shared counts as often as it is met; a slice's spare places count too). A statement '..UptoSaid' is the law's where the arguments, and the package variables that the reading takes, are together of bulk at most 1048576: NARROWER than '..Said'. Prove '..Said' where nothing that the law and all that it calls make is longer than what came in: it says more and counts as full. Else prove '..UptoSaid'. A law counts once. -/
mutual
def uptoBulk {H : Type} : DataW H → Nat
  | .lit (.string bytes) => bytes.length + 1
  | .lit _ => 1
  | .nil => 1
  | .ptr d => uptoBulk d + 1
  | .slice elems spare => uptoBulkAll elems + uptoBulkAll spare + 1
  | .agg parts => uptoBulkAll parts + 1
  | .iface _ d => uptoBulk d + 1
  | .map entries => uptoBulkEntries entries + 1
  | .held _ => 1
def uptoBulkAll {H : Type} : List (DataW H) → Nat
  | [] => 0
  | d :: r => uptoBulk d + uptoBulkAll r
def uptoBulkEntries {H : Type} : List (Lit × DataW H) → Nat
  | [] => 0
  | x :: r => uptoBulkEntry x + uptoBulkEntries r
def uptoBulkEntry {H : Type} : Lit × DataW H → Nat
  | (.string bytes, d) => bytes.length + uptoBulk d + 1
  | (_, d) => uptoBulk d + 1
 end
def uptoSmall : (H : Type) → List (DataW H) → Bool := fun _ ds => decide (uptoBulkAll ds ≤ 1048576)
def OpenSpec.upto (s : _root_.Go.ChangeSpec) : _root_.Go.OpenSpec := { _root_.Go.OpenSpec.ofChange s with cond := some uptoSmall }

/-- 'naskhlaw10.OptionChecks', WHERE WHAT IT READS IS OF BULK AT MOST 1048576: true; the input reads as it did. -/
def optionChecksUptoRow : OpenClaim := { program := "ytcdogkabdhbjmaadoor", sum := "1f31455da48106d4ff67cc45235f1656362541a2523a3ee0bee4126bac408974", func := "naskh/naskhlaw10.OptionChecks", spec := "optionChecks", named := ["naskh/option.sizes"], apart := false, laid := [("naskh/option.sizes", laid_naskh_option_sizes)], narrowed := true }
def OptionChecksUptoSaid : Prop := optionChecksUptoRow.holds Tryd.pinned (OpenSpec.upto optionChecksSpec)

/-- 'naskhlaw10.OptionBits', WHERE WHAT IT READS IS OF BULK AT MOST 1048576: true; the input reads as it did. -/
def optionBitsUptoRow : OpenClaim := { program := "ytcdogkabdhbjmaadoor", sum := "1f31455da48106d4ff67cc45235f1656362541a2523a3ee0bee4126bac408974", func := "naskh/naskhlaw10.OptionBits", spec := "optionBits", named := ["naskh/option.sizes"], apart := false, laid := [("naskh/option.sizes", laid_naskh_option_sizes)], narrowed := true }
def OptionBitsUptoSaid : Prop := optionBitsUptoRow.holds Tryd.pinned (OpenSpec.upto optionBitsSpec)

/-- 'naskhlaw10.OptionBack', WHERE WHAT IT READS IS OF BULK AT MOST 1048576: true; the input reads as it did. -/
def optionBackUptoRow : OpenClaim := { program := "ytcdogkabdhbjmaadoor", sum := "1f31455da48106d4ff67cc45235f1656362541a2523a3ee0bee4126bac408974", func := "naskh/naskhlaw10.OptionBack", spec := "optionBack", named := ["naskh/option.sizes"], apart := false, laid := [("naskh/option.sizes", laid_naskh_option_sizes)], narrowed := true }
def OptionBackUptoSaid : Prop := optionBackUptoRow.holds Tryd.pinned (OpenSpec.upto optionBackSpec)

/-- 'naskhlaw11.SpellPrints', WHERE WHAT IT READS IS OF BULK AT MOST 1048576: true; the input reads as it did. -/
def spellPrintsUptoRow : OpenClaim := { program := "ytcdogkabdhbjmaadoor", sum := "1f31455da48106d4ff67cc45235f1656362541a2523a3ee0bee4126bac408974", func := "naskh/naskhlaw11.SpellPrints", spec := "spellPrints", inPlace := ["internal/abi.NoEscape", "internal/bytealg.MakeNoZero"], unfollowed := true, recurses := true, named := ["naskh/spell.terms", "naskh/option.sizes"], apart := false, laid := [("naskh/option.sizes", laid_naskh_option_sizes), ("naskh/spell.terms", laid_naskh_spell_terms)], narrowed := true }
def SpellPrintsUptoSaid : Prop := spellPrintsUptoRow.holds Tryd.pinned (OpenSpec.upto spellPrintsSpec)

/-- 'naskhlaw11.SpellParses', WHERE WHAT IT READS IS OF BULK AT MOST 1048576: true; the input reads as it did. -/
def spellParsesUptoRow : OpenClaim := { program := "ytcdogkabdhbjmaadoor", sum := "1f31455da48106d4ff67cc45235f1656362541a2523a3ee0bee4126bac408974", func := "naskh/naskhlaw11.SpellParses", spec := "spellParses", unfollowed := true, recurses := true, named := ["naskh/spell.terms", "naskh/option.sizes"], apart := false, laid := [("naskh/option.sizes", laid_naskh_option_sizes), ("naskh/spell.terms", laid_naskh_spell_terms)], narrowed := true }
def SpellParsesUptoSaid : Prop := spellParsesUptoRow.holds Tryd.pinned (OpenSpec.upto spellParsesSpec)

/-- 'naskhlaw11.SpellBack', WHERE WHAT IT READS IS OF BULK AT MOST 1048576: true; the input reads as it did. -/
def spellBackUptoRow : OpenClaim := { program := "ytcdogkabdhbjmaadoor", sum := "1f31455da48106d4ff67cc45235f1656362541a2523a3ee0bee4126bac408974", func := "naskh/naskhlaw11.SpellBack", spec := "spellBack", inPlace := ["internal/abi.NoEscape", "internal/bytealg.MakeNoZero"], unfollowed := true, recurses := true, named := ["naskh/spell.terms", "naskh/option.sizes"], apart := false, laid := [("naskh/option.sizes", laid_naskh_option_sizes), ("naskh/spell.terms", laid_naskh_spell_terms)], narrowed := true }
def SpellBackUptoSaid : Prop := spellBackUptoRow.holds Tryd.pinned (OpenSpec.upto spellBackSpec)

/-- 'naskhlaw11.SpellTwice', WHERE WHAT IT READS IS OF BULK AT MOST 1048576: true; the input reads as it did. -/
def spellTwiceUptoRow : OpenClaim := { program := "ytcdogkabdhbjmaadoor", sum := "1f31455da48106d4ff67cc45235f1656362541a2523a3ee0bee4126bac408974", func := "naskh/naskhlaw11.SpellTwice", spec := "spellTwice", unfollowed := true, recurses := true, named := ["naskh/spell.terms", "naskh/option.sizes"], apart := false, laid := [("naskh/option.sizes", laid_naskh_option_sizes), ("naskh/spell.terms", laid_naskh_spell_terms)], narrowed := true }
def SpellTwiceUptoSaid : Prop := spellTwiceUptoRow.holds Tryd.pinned (OpenSpec.upto spellTwiceSpec)

end Rows
end Go.Proofs.YtcdogkabdhbjmaaDoor
