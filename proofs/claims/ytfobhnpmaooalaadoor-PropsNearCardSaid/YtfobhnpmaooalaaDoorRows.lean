/-
  NARROWER THAN 'FOR EVERY INPUT', by the rows' own cells (each row's printed sentence says how): PropsNear: laid · OptionChecks: laid · OptionBits: laid · OptionBack: laid.
  DERIVED. THE GIVEN ROWS OF THIS SEAT. 4 by the template 'for every input the law returns true; each argument reads behind the call as it read before'; 0 by the template 'total and deterministic' (their statements: YtfobhnpmaooalaaDoorTotals.lean).
  GIVEN WITH THE SEED: the statements are not yours to turn. If you find one false, say at which input.
  Laid BY PROGRAM, IN A SANDBOX (cutbox-rows.mjs): the forced cells as the released guide's own fill.sh prints them over the translation d82cb37c3e3117c6… (all of the seat's roots in one cut). By AI agents, Wed Nov 11 2026. No macro, syntax, notation, axiom, sorry.
-/
import Derived.Test.YtfobhnpmaooalaaDoorChecked
import GoSem.Claim
import GoSem.ClaimJoined
import GoSem.ClaimMapViews
import Derived.JoinedTies
import Derived.KernelRfl
namespace Go.Proofs.YtfobhnpmaooalaaDoor
/- THE CELL 'sum', in the pinned program and in every row, IS THE sha256 OF THE DUMP (.gsa) THAT YtfobhnpmaooalaaDoorProg.lean LOADS. Nothing in Lean hashes anything: it is a label: what it is worth is what the hold of that sum in a sandbox is worth. -/
noncomputable def Tryd.pinned : Pinned := { name := "ytfobhnpmaooalaadoor", sum := "d82cb37c3e3117c63c52a4aec7876c4fb6a277f324f761938f6c9d8606d31026", checked := Tryd.checked }
namespace Rows
def none {H : Type} : Left H := { results := [], args := [] }

/- WHAT THE LISTED PACKAGE-LEVEL VARIABLES READ AS WHEN THE CALL BEGINS. Each datum BY PROGRAM (the guide's laid-datum.mjs) off the statement by which the dump's own 'gosem.cut.vars' lays the variable. In a bare row this is a premise. The card (YtfobhnpmaooalaaDoorCards.lean) ties it to the program's text. -/
def laid_naskh_props_zeros {H : Type} : DataW H := .agg [.lit (.int .i64 48), .lit (.int .i64 1632), .lit (.int .i64 1776)]
def laid_naskh_option_sizes {H : Type} : DataW H := .agg [.lit (.int .i64 4), .lit (.int .i64 5), .lit (.int .i64 5), .lit (.int .i64 5)]

/-- 'naskhlaw07.PropsNear': WHATEVER THE INPUT: true; the input reads as it did. -/
def propsNearSpec : ChangeSpec := { name := "propsNear", fn := fun _ => fun
  | [d1, d2] => { results := [.lit (.bool true)], args := [d1, d2] }
  | _ => none }
def propsNearRow : OpenClaim := { program := "ytfobhnpmaooalaadoor", sum := "d82cb37c3e3117c63c52a4aec7876c4fb6a277f324f761938f6c9d8606d31026", func := "naskh/naskhlaw07.PropsNear", spec := "propsNear", named := ["naskh/props.zeros"], plainKeys := false, apart := false, laid := [("naskh/props.zeros", laid_naskh_props_zeros)] }
def PropsNearSaid : Prop := propsNearRow.holds Tryd.pinned (OpenSpec.ofChange propsNearSpec)

/-- ITS FALSE NEIGHBOUR: 'it returns false'. Refute it at one input. -/
def propsNearWrong : ChangeSpec := { name := "propsNear", fn := fun _ => fun
  | [d1, d2] => { results := [.lit (.bool false)], args := [d1, d2] }
  | _ => none }
def PropsNearWrongFalsely : Prop := propsNearRow.holds Tryd.pinned (OpenSpec.ofChange propsNearWrong)

/-- 'naskhlaw10.OptionChecks': WHATEVER THE INPUT: true; the input reads as it did. -/
def optionChecksSpec : ChangeSpec := { name := "optionChecks", fn := fun _ => fun
  | [d1, d2] => { results := [.lit (.bool true)], args := [d1, d2] }
  | _ => none }
def optionChecksRow : OpenClaim := { program := "ytfobhnpmaooalaadoor", sum := "d82cb37c3e3117c63c52a4aec7876c4fb6a277f324f761938f6c9d8606d31026", func := "naskh/naskhlaw10.OptionChecks", spec := "optionChecks", named := ["naskh/option.sizes"], plainKeys := false, apart := false, laid := [("naskh/option.sizes", laid_naskh_option_sizes)] }
def OptionChecksSaid : Prop := optionChecksRow.holds Tryd.pinned (OpenSpec.ofChange optionChecksSpec)

/-- ITS FALSE NEIGHBOUR: 'it returns false'. Refute it at one input. -/
def optionChecksWrong : ChangeSpec := { name := "optionChecks", fn := fun _ => fun
  | [d1, d2] => { results := [.lit (.bool false)], args := [d1, d2] }
  | _ => none }
def OptionChecksWrongFalsely : Prop := optionChecksRow.holds Tryd.pinned (OpenSpec.ofChange optionChecksWrong)

/-- 'naskhlaw10.OptionBits': WHATEVER THE INPUT: true; the input reads as it did. -/
def optionBitsSpec : ChangeSpec := { name := "optionBits", fn := fun _ => fun
  | [d1, d2] => { results := [.lit (.bool true)], args := [d1, d2] }
  | _ => none }
def optionBitsRow : OpenClaim := { program := "ytfobhnpmaooalaadoor", sum := "d82cb37c3e3117c63c52a4aec7876c4fb6a277f324f761938f6c9d8606d31026", func := "naskh/naskhlaw10.OptionBits", spec := "optionBits", named := ["naskh/option.sizes"], plainKeys := false, apart := false, laid := [("naskh/option.sizes", laid_naskh_option_sizes)] }
def OptionBitsSaid : Prop := optionBitsRow.holds Tryd.pinned (OpenSpec.ofChange optionBitsSpec)

/-- ITS FALSE NEIGHBOUR: 'it returns false'. Refute it at one input. -/
def optionBitsWrong : ChangeSpec := { name := "optionBits", fn := fun _ => fun
  | [d1, d2] => { results := [.lit (.bool false)], args := [d1, d2] }
  | _ => none }
def OptionBitsWrongFalsely : Prop := optionBitsRow.holds Tryd.pinned (OpenSpec.ofChange optionBitsWrong)

/-- 'naskhlaw10.OptionBack': WHATEVER THE INPUT: true; the input reads as it did. -/
def optionBackSpec : ChangeSpec := { name := "optionBack", fn := fun _ => fun
  | [d1, d2] => { results := [.lit (.bool true)], args := [d1, d2] }
  | _ => none }
def optionBackRow : OpenClaim := { program := "ytfobhnpmaooalaadoor", sum := "d82cb37c3e3117c63c52a4aec7876c4fb6a277f324f761938f6c9d8606d31026", func := "naskh/naskhlaw10.OptionBack", spec := "optionBack", named := ["naskh/option.sizes"], plainKeys := false, apart := false, laid := [("naskh/option.sizes", laid_naskh_option_sizes)] }
def OptionBackSaid : Prop := optionBackRow.holds Tryd.pinned (OpenSpec.ofChange optionBackSpec)

/-- ITS FALSE NEIGHBOUR: 'it returns false'. Refute it at one input. -/
def optionBackWrong : ChangeSpec := { name := "optionBack", fn := fun _ => fun
  | [d1, d2] => { results := [.lit (.bool false)], args := [d1, d2] }
  | _ => none }
def OptionBackWrongFalsely : Prop := optionBackRow.holds Tryd.pinned (OpenSpec.ofChange optionBackWrong)

/- THE SECOND FORM. 'bulk': how many values and letters a reading holds, each counted each time it is reached (what is shared counts as often as it is met; a slice's spare places count too). A statement '..UptoSaid' is the law's where the arguments, and the package variables that the reading takes, are together of bulk at most 1048576: NARROWER than '..Said'. Prove '..Said' where nothing that the law and all that it calls make is longer than what came in: it says more and counts as full. Else prove '..UptoSaid'. A law counts once. -/
mutual
def uptoBulk {H : Type} : DataW H → Nat
  | .lit (.string bytes) => bytes.length + 1
  | .lit _ => 1
  | .nil => 1
  | .ptr d => uptoBulk d + 1
  | .slice elems spare => uptoBulkAll elems + uptoBulkAll spare + 1
  | .agg parts => uptoBulkAll parts + 1
  | .iface _ d => uptoBulk d + 1
  | .map entries => uptoBulkEntries entries + 1
  | .held _ => 1
def uptoBulkAll {H : Type} : List (DataW H) → Nat
  | [] => 0
  | d :: r => uptoBulk d + uptoBulkAll r
def uptoBulkEntries {H : Type} : List (Lit × DataW H) → Nat
  | [] => 0
  | x :: r => uptoBulkEntry x + uptoBulkEntries r
def uptoBulkEntry {H : Type} : Lit × DataW H → Nat
  | (.string bytes, d) => bytes.length + uptoBulk d + 1
  | (_, d) => uptoBulk d + 1
 end
def uptoSmall : (H : Type) → List (DataW H) → Bool := fun _ ds => decide (uptoBulkAll ds ≤ 1048576)
def OpenSpec.upto (s : _root_.Go.ChangeSpec) : _root_.Go.OpenSpec := { _root_.Go.OpenSpec.ofChange s with cond := some uptoSmall }

/-- 'naskhlaw07.PropsNear', WHERE WHAT IT READS IS OF BULK AT MOST 1048576: true; the input reads as it did. -/
def propsNearUptoRow : OpenClaim := { program := "ytfobhnpmaooalaadoor", sum := "d82cb37c3e3117c63c52a4aec7876c4fb6a277f324f761938f6c9d8606d31026", func := "naskh/naskhlaw07.PropsNear", spec := "propsNear", named := ["naskh/props.zeros"], plainKeys := false, apart := false, laid := [("naskh/props.zeros", laid_naskh_props_zeros)], narrowed := true }
def PropsNearUptoSaid : Prop := propsNearUptoRow.holds Tryd.pinned (OpenSpec.upto propsNearSpec)

/-- 'naskhlaw10.OptionChecks', WHERE WHAT IT READS IS OF BULK AT MOST 1048576: true; the input reads as it did. -/
def optionChecksUptoRow : OpenClaim := { program := "ytfobhnpmaooalaadoor", sum := "d82cb37c3e3117c63c52a4aec7876c4fb6a277f324f761938f6c9d8606d31026", func := "naskh/naskhlaw10.OptionChecks", spec := "optionChecks", named := ["naskh/option.sizes"], plainKeys := false, apart := false, laid := [("naskh/option.sizes", laid_naskh_option_sizes)], narrowed := true }
def OptionChecksUptoSaid : Prop := optionChecksUptoRow.holds Tryd.pinned (OpenSpec.upto optionChecksSpec)

/-- 'naskhlaw10.OptionBits', WHERE WHAT IT READS IS OF BULK AT MOST 1048576: true; the input reads as it did. -/
def optionBitsUptoRow : OpenClaim := { program := "ytfobhnpmaooalaadoor", sum := "d82cb37c3e3117c63c52a4aec7876c4fb6a277f324f761938f6c9d8606d31026", func := "naskh/naskhlaw10.OptionBits", spec := "optionBits", named := ["naskh/option.sizes"], plainKeys := false, apart := false, laid := [("naskh/option.sizes", laid_naskh_option_sizes)], narrowed := true }
def OptionBitsUptoSaid : Prop := optionBitsUptoRow.holds Tryd.pinned (OpenSpec.upto optionBitsSpec)

/-- 'naskhlaw10.OptionBack', WHERE WHAT IT READS IS OF BULK AT MOST 1048576: true; the input reads as it did. -/
def optionBackUptoRow : OpenClaim := { program := "ytfobhnpmaooalaadoor", sum := "d82cb37c3e3117c63c52a4aec7876c4fb6a277f324f761938f6c9d8606d31026", func := "naskh/naskhlaw10.OptionBack", spec := "optionBack", named := ["naskh/option.sizes"], plainKeys := false, apart := false, laid := [("naskh/option.sizes", laid_naskh_option_sizes)], narrowed := true }
def OptionBackUptoSaid : Prop := optionBackUptoRow.holds Tryd.pinned (OpenSpec.upto optionBackSpec)

end Rows
end Go.Proofs.YtfobhnpmaooalaaDoor
