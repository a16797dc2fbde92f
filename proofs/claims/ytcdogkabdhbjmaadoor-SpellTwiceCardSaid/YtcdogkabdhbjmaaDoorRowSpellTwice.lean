/- The row of naskhlaw11.SpellTwice, and its card: for every two bytes the call returns true and the arguments read as they did. Condition: the package's arrays of sizes and of words start as the program's text lays them (the card ties them). -/
import Derived.Test.YtcdogkabdhbjmaaDoorRows
import Derived.Test.YtcdogkabdhbjmaaDoorSwL4
import Derived.Test.YtcdogkabdhbjmaaDoorLaidSw
import Derived.Test.YtcdogkabdhbjmaaDoorLaw
import Derived.Test.YtcdogkabdhbjmaaDoorTie
import Derived.Test.YtcdogkabdhbjmaaDoorCards
import Derived.SevenTiedAt
namespace Go.Proofs.YtcdogkabdhbjmaaDoor
open Go.ChangeShapes Go.WideShapes Go.ChangeAt Go.RowKit

set_option maxRecDepth 100000 in
theorem spellTwice_walk {H : Type} {enc : TypeId × Value → H} : LawWalk H enc 9 Tryd.f9 laidSw := by
  intro W base args ds p hval hA hL
  rw [Tryd.params9] at hA hval
  obtain ⟨v0, v1, d0, d1, p0, p1, rfl, rfl, rfl, h0, h1⟩ := trodAll_two hA
  have k0 := hval 0 5 v0 rfl rfl
  have k1 := hval 1 5 v1 rfl rfl
  obtain ⟨x, rfl, rfl, rfl, wx⟩ := open_int Tryd.underlying5 k0 h0
  obtain ⟨y, rfl, rfl, rfl, wy⟩ := open_int Tryd.underlying5 k1 h1
  obtain ⟨a, rfl, ha⟩ := byte_of_wf wx
  obtain ⟨b, rfl, hb⟩ := byte_of_wf wy
  exact spellTwice_any a b ha hb W (tabSw_of_laid hL).2 (tabSw_of_laid hL).1

set_option maxRecDepth 100000 in
theorem spellTwice_lifted (os : Os) (started : os.Started) (H : Type) (enc : TypeId × Value → H) :
    ReturnsInHanded {} Tryd.checked os 9 .any (fun w args => (Rows.spellTwiceSpec.pre enc Tryd.prog Tryd.f9 [] false w args ∧ laidMetH Tryd.prog laidSw w) ∧ sizedMet enc Tryd.prog Tryd.f9 (OpenSpec.ofChange Rows.spellTwiceSpec) false w args)
      (Rows.spellTwiceSpec.post enc Tryd.prog Tryd.f9 false true false false) :=
  law_lifted started Rows.spellTwiceSpec 9 Tryd.f9 4 laidSw rfl (fun ds h => by rw [Tryd.params9] at h; match ds, h with | [d0, d1], _ => rfl) Tryd.func9 (by kernel_rfl) rfl Tryd.underlying4
    (fun t ht => by
      rw [Tryd.params9] at ht
      have hall : ([5, 5].all fun u => Tryd.prog.readableRec u && decide (u < Tryd.prog.types.size)) = true := by kernel_rfl
      have := List.all_eq_true.1 hall t (by simpa using ht)
      simpa using this)
    (ChangeSpec.witness_shaped (enc := enc) (C := Tryd.checked) (os := os) (X := fun w _ => laidMetH Tryd.prog laidSw w) false (World.doorLaid Tryd.prog 400 os) #[.int .u8 0, .int .u8 0] 8 rfl (door_shaped os _) (by kernel_rfl) (by kernel_rfl) (by kernel_rfl) (doorSw_met os _)) spellTwice_walk

theorem spellTwice_holds : Rows.SpellTwiceSaid :=
  OpenClaim.holds_of_wide 9 Tryd.f9 rfl rfl rfl rfl rfl rfl rfl ⟨rfl, rfl, rfl, rfl, rfl⟩ rfl rfl rfl rfl rfl (by kernel_rfl) Tryd.func9 (by kernel_rfl)
    (of_decide_eq_true (by kernel_rfl)) (by unfold Func.isWrapper; first | (rw [if_pos (by decide +kernel)]; kernel_rfl) | (rw [if_neg (by decide +kernel)]; exact ⟨rfl, rfl⟩))
    (fun os started H enc _ => spellTwice_lifted os started H enc)
theorem spellTwice_card : Rows.SpellTwiceCardSaid :=
  Claim7.holds_tied_plain_at .later [] [.data, .data] true (true, Rows.spellTwiceCard.stood.harness.2) false
    spellTwice_holds (fun _ h => by cases h) (by kernel_rfl) (fun _ h => by cases h) spellTwice_row_tie rfl ⟨rfl, rfl⟩ (by kernel_rfl) rfl
    (fun f fn hf hfn => by
      obtain rfl : f = 9 := Option.some.inj ((show Tryd.prog.funcNamed "naskh/naskhlaw11.SpellTwice" = some 9 by kernel_rfl).symm.trans hf) |>.symm
      obtain rfl : fn = Tryd.f9 := (Option.some.inj (Tryd.func9.symm.trans hfn)).symm
      exact ⟨by kernel_rfl, fun j t ht => by
        rw [Tryd.params9] at ht
        have hm : t ∈ [5, 5] := by simpa using Array.mem_of_getElem? ht
        have hall : ([5, 5].all fun u => !Tryd.prog.wantsStandIn u) = true := by kernel_rfl
        exact (show Tryd.prog.wantsStandIn t = false by simpa using List.all_eq_true.1 hall t hm)⟩)
    (by kernel_rfl)
#print axioms spellTwice_card
end Go.Proofs.YtcdogkabdhbjmaaDoor
