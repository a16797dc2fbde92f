/- The row of naskhlaw11.SpellParses, and its card: for every text the call returns true and the arguments read as they did. Condition: the package's arrays of sizes and of words start as the program's text lays them (the card ties them). -/
import Derived.Test.YtcdogkabdhbjmaaDoorRows
import Derived.Test.YtcdogkabdhbjmaaDoorSwL1
import Derived.Test.YtcdogkabdhbjmaaDoorLaidSw
import Derived.Test.YtcdogkabdhbjmaaDoorLaw
import Derived.Test.YtcdogkabdhbjmaaDoorTie
import Derived.Test.YtcdogkabdhbjmaaDoorCards
import Derived.SevenTiedAt
namespace Go.Proofs.YtcdogkabdhbjmaaDoor
open Go.ChangeShapes Go.WideShapes Go.ChangeAt Go.RowKit

set_option maxRecDepth 100000 in
theorem spellParses_walk {H : Type} {enc : TypeId × Value → H} : LawWalk H enc 7 Tryd.f7 laidSw := by
  intro W base args ds p hval hA hL
  rw [Tryd.params7] at hA hval
  obtain ⟨v0, d0, rfl, rfl, h0⟩ := trodAll_one hA
  have k0 := hval 0 9 v0 rfl rfl
  obtain ⟨s, rfl, rfl, rfl, _⟩ := Go.ChangeMaps.open_string Tryd.underlying9 k0 h0
  exact spellParses_any s W (tabSw_of_laid hL).2 (tabSw_of_laid hL).1

set_option maxRecDepth 100000 in
theorem spellParses_lifted (os : Os) (started : os.Started) (H : Type) (enc : TypeId × Value → H) :
    ReturnsInHanded {} Tryd.checked os 7 .any (fun w args => (Rows.spellParsesSpec.pre enc Tryd.prog Tryd.f7 [] false w args ∧ laidMetH Tryd.prog laidSw w) ∧ sizedMet enc Tryd.prog Tryd.f7 (OpenSpec.ofChange Rows.spellParsesSpec) false w args)
      (Rows.spellParsesSpec.post enc Tryd.prog Tryd.f7 false true false false) :=
  law_lifted started Rows.spellParsesSpec 7 Tryd.f7 4 laidSw rfl (fun ds h => by rw [Tryd.params7] at h; match ds, h with | [d0], _ => rfl) Tryd.func7 (by kernel_rfl) rfl Tryd.underlying4
    (fun t ht => by
      rw [Tryd.params7] at ht
      have hall : ([9].all fun u => Tryd.prog.readableRec u && decide (u < Tryd.prog.types.size)) = true := by kernel_rfl
      have := List.all_eq_true.1 hall t (by simpa using ht)
      simpa using this)
    (ChangeSpec.witness_shaped (enc := enc) (C := Tryd.checked) (os := os) (X := fun w _ => laidMetH Tryd.prog laidSw w) false (World.doorLaid Tryd.prog 400 os) #[.string ⟨#[]⟩] 8 rfl (door_shaped os _) (by kernel_rfl) (by kernel_rfl) (by kernel_rfl) (doorSw_met os _)) spellParses_walk

theorem spellParses_holds : Rows.SpellParsesSaid :=
  OpenClaim.holds_of_wide 7 Tryd.f7 rfl rfl rfl rfl rfl rfl rfl ⟨rfl, rfl, rfl, rfl, rfl⟩ rfl rfl rfl rfl rfl (by kernel_rfl) Tryd.func7 (by kernel_rfl)
    (of_decide_eq_true (by kernel_rfl)) (by unfold Func.isWrapper; first | (rw [if_pos (by decide +kernel)]; kernel_rfl) | (rw [if_neg (by decide +kernel)]; exact ⟨rfl, rfl⟩))
    (fun os started H enc _ => spellParses_lifted os started H enc)
theorem spellParses_card : Rows.SpellParsesCardSaid :=
  Claim7.holds_tied_plain_at .later [] [.data, .data] true (true, Rows.spellParsesCard.stood.harness.2) false
    spellParses_holds (fun _ h => by cases h) (by kernel_rfl) (fun _ h => by cases h) spellParses_row_tie rfl ⟨rfl, rfl⟩ (by kernel_rfl) rfl
    (fun f fn hf hfn => by
      obtain rfl : f = 7 := Option.some.inj ((show Tryd.prog.funcNamed "naskh/naskhlaw11.SpellParses" = some 7 by kernel_rfl).symm.trans hf) |>.symm
      obtain rfl : fn = Tryd.f7 := (Option.some.inj (Tryd.func7.symm.trans hfn)).symm
      exact ⟨by kernel_rfl, fun j t ht => by
        rw [Tryd.params7] at ht
        have hm : t ∈ [9] := by simpa using Array.mem_of_getElem? ht
        have hall : ([9].all fun u => !Tryd.prog.wantsStandIn u) = true := by kernel_rfl
        exact (show Tryd.prog.wantsStandIn t = false by simpa using List.all_eq_true.1 hall t hm)⟩)
    (by kernel_rfl)
#print axioms spellParses_card
end Go.Proofs.YtcdogkabdhbjmaaDoor
