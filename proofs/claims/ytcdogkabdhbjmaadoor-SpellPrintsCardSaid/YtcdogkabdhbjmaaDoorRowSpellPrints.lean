/- The row of naskhlaw11.SpellPrints, and its card: for all options the call returns true and the arguments read as they did. Condition: the package's arrays of sizes and of words start as the program's text lays them (the card ties them). -/
import Derived.Test.YtcdogkabdhbjmaaDoorRows
import Derived.Test.YtcdogkabdhbjmaaDoorSwL3
import Derived.Test.YtcdogkabdhbjmaaDoorLaidSw
import Derived.Test.YtcdogkabdhbjmaaDoorOpOp
import Derived.Test.YtcdogkabdhbjmaaDoorLaw
import Derived.Test.YtcdogkabdhbjmaaDoorTie
import Derived.Test.YtcdogkabdhbjmaaDoorCards
import Derived.SevenTiedAt
namespace Go.Proofs.YtcdogkabdhbjmaaDoor
open Go.ChangeShapes Go.WideShapes Go.ChangeAt Go.RowKit

set_option maxRecDepth 100000 in
theorem spellPrints_walk {H : Type} {enc : TypeId × Value → H} : LawWalk H enc 6 Tryd.f6 laidSw := by
  intro W base args ds p hval hA hL
  rw [Tryd.params6] at hA hval
  obtain ⟨v0, d0, rfl, rfl, h0⟩ := trodAll_one hA
  have k0 := hval 0 23 v0 rfl rfl
  obtain ⟨⟨d, l, t, g, b0, b1, b2, b3, b4, b5, b6, b7, b8, b9⟩, rfl, _⟩ := open_opts k0 h0
  exact spellPrints_any d l t g b0 b1 b2 b3 b4 b5 b6 b7 b8 b9 W (tabSw_of_laid hL).2 (tabSw_of_laid hL).1

set_option maxRecDepth 100000 in
theorem spellPrints_lifted (os : Os) (started : os.Started) (H : Type) (enc : TypeId × Value → H) :
    ReturnsInHanded {} Tryd.checked os 6 .any (fun w args => (Rows.spellPrintsSpec.pre enc Tryd.prog Tryd.f6 [] false w args ∧ laidMetH Tryd.prog laidSw w) ∧ sizedMet enc Tryd.prog Tryd.f6 (OpenSpec.ofChange Rows.spellPrintsSpec) false w args)
      (Rows.spellPrintsSpec.post enc Tryd.prog Tryd.f6 false true false false) :=
  law_lifted started Rows.spellPrintsSpec 6 Tryd.f6 4 laidSw rfl (fun ds h => by rw [Tryd.params6] at h; match ds, h with | [d0], _ => rfl) Tryd.func6 (by kernel_rfl) rfl Tryd.underlying4
    (fun t ht => by
      rw [Tryd.params6] at ht
      have hall : ([23].all fun u => Tryd.prog.readableRec u && decide (u < Tryd.prog.types.size)) = true := by kernel_rfl
      have := List.all_eq_true.1 hall t (by simpa using ht)
      simpa using this)
    (ChangeSpec.witness_shaped (enc := enc) (C := Tryd.checked) (os := os) (X := fun w _ => laidMetH Tryd.prog laidSw w) false (World.doorLaid Tryd.prog 400 os) #[.agg #[.int .i64 0, .int .i64 0, .int .i64 0, .int .i64 0, .bool false, .bool false, .bool false, .bool false, .bool false, .bool false, .bool false, .bool false, .bool false, .bool false]] 8 rfl (door_shaped os _) (by kernel_rfl) (by kernel_rfl) (by kernel_rfl) (doorSw_met os _)) spellPrints_walk

theorem spellPrints_holds : Rows.SpellPrintsSaid :=
  OpenClaim.holds_of_wide 6 Tryd.f6 rfl rfl rfl rfl rfl rfl rfl ⟨rfl, rfl, rfl, rfl, rfl⟩ rfl rfl rfl rfl rfl (by kernel_rfl) Tryd.func6 (by kernel_rfl)
    (of_decide_eq_true (by kernel_rfl)) (by unfold Func.isWrapper; first | (rw [if_pos (by decide +kernel)]; kernel_rfl) | (rw [if_neg (by decide +kernel)]; exact ⟨rfl, rfl⟩))
    (fun os started H enc _ => spellPrints_lifted os started H enc)
theorem spellPrints_card : Rows.SpellPrintsCardSaid :=
  Claim7.holds_tied_plain_at .later [] [.data, .data] true (true, Rows.spellPrintsCard.stood.harness.2) false
    spellPrints_holds (fun _ h => by cases h) (by kernel_rfl) (fun _ h => by cases h) spellPrints_row_tie rfl ⟨rfl, rfl⟩ (by kernel_rfl) rfl
    (fun f fn hf hfn => by
      obtain rfl : f = 6 := Option.some.inj ((show Tryd.prog.funcNamed "naskh/naskhlaw11.SpellPrints" = some 6 by kernel_rfl).symm.trans hf) |>.symm
      obtain rfl : fn = Tryd.f6 := (Option.some.inj (Tryd.func6.symm.trans hfn)).symm
      exact ⟨by kernel_rfl, fun j t ht => by
        rw [Tryd.params6] at ht
        have hm : t ∈ [23] := by simpa using Array.mem_of_getElem? ht
        have hall : ([23].all fun u => !Tryd.prog.wantsStandIn u) = true := by kernel_rfl
        exact (show Tryd.prog.wantsStandIn t = false by simpa using List.all_eq_true.1 hall t hm)⟩)
    (by kernel_rfl)
#print axioms spellPrints_card
end Go.Proofs.YtcdogkabdhbjmaaDoor
