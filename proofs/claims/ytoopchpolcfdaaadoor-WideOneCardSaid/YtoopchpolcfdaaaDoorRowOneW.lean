/- The row of naskhlaw01.WideOne, and its card: for every number the call returns true and the number reads as it did. Condition: the package's arrays start as the program's text lays them (the card ties them). -/
import Derived.Test.YtoopchpolcfdaaaDoorRows
import Derived.Test.YtoopchpolcfdaaaDoorOneW
import Derived.Test.YtoopchpolcfdaaaDoorLaidW
import Derived.Test.YtoopchpolcfdaaaDoorLaw
import Derived.Test.YtoopchpolcfdaaaDoorTie
import Derived.Test.YtoopchpolcfdaaaDoorCards
import Derived.SevenTiedAt
namespace Go.Proofs.YtoopchpolcfdaaaDoor
open Go.ChangeShapes Go.WideShapes Go.ChangeAt Go.RowKit

theorem wideOne_walk {H : Type} {enc : TypeId × Value → H} : LawWalk H enc 5 Tryd.f5 laidW := by
  intro W base args ds p hval hA hL
  rw [Tryd.params5] at hA hval
  obtain ⟨v0, d0, rfl, rfl, h0⟩ := trodAll_one hA
  have k0 := hval 0 3 v0 rfl rfl
  obtain ⟨c, rfl, rfl, rfl, wc⟩ := open_int Tryd.underlying3 k0 h0
  exact wideOne_any c W (stretches_of_laid hL)

set_option maxRecDepth 100000 in
theorem wideOne_lifted (os : Os) (started : os.Started) (H : Type) (enc : TypeId × Value → H) :
    ReturnsInHanded {} Tryd.checked os 5 .any (fun w args => (Rows.wideOneSpec.pre enc Tryd.prog Tryd.f5 [] false w args ∧ laidMetH Tryd.prog laidW w) ∧ sizedMet enc Tryd.prog Tryd.f5 (OpenSpec.ofChange Rows.wideOneSpec) false w args)
      (Rows.wideOneSpec.post enc Tryd.prog Tryd.f5 false true false false) :=
  law_lifted started Rows.wideOneSpec 5 Tryd.f5 4 laidW rfl (fun ds h => by rw [Tryd.params5] at h; match ds, h with | [d0], _ => rfl) Tryd.func5 (by kernel_rfl) rfl Tryd.underlying4
    (fun t ht => by
      rw [Tryd.params5] at ht
      have hall : ([3].all fun u => Tryd.prog.readableRec u && decide (u < Tryd.prog.types.size)) = true := by kernel_rfl
      have := List.all_eq_true.1 hall t (by simpa using ht)
      simpa using this)
    (ChangeSpec.witness_shaped (enc := enc) (C := Tryd.checked) (os := os) (X := fun w _ => laidMetH Tryd.prog laidW w) false (World.doorLaid Tryd.prog 400 os) #[.int .i64 0] 8 rfl (door_shaped os _) (by kernel_rfl) (by kernel_rfl) (by kernel_rfl) (doorW_met os _)) wideOne_walk

theorem wideOne_holds : Rows.WideOneSaid :=
  OpenClaim.holds_of_wide 5 Tryd.f5 rfl rfl rfl rfl rfl rfl rfl ⟨rfl, rfl, rfl, rfl, rfl⟩ rfl rfl rfl rfl rfl (by kernel_rfl) Tryd.func5 (by kernel_rfl)
    (of_decide_eq_true (by kernel_rfl)) (by unfold Func.isWrapper; first | (rw [if_pos (by decide +kernel)]; kernel_rfl) | (rw [if_neg (by decide +kernel)]; exact ⟨rfl, rfl⟩))
    (fun os started H enc _ => wideOne_lifted os started H enc)
theorem wideOne_card : Rows.WideOneCardSaid :=
  Claim7.holds_tied_plain_at .later [] [.data] true (true, Rows.wideOneCard.stood.harness.2) false
    wideOne_holds (fun _ h => by cases h) (by kernel_rfl) (fun _ h => by cases h) wideOne_row_tie rfl ⟨rfl, rfl⟩ (by kernel_rfl) rfl
    (fun f fn hf hfn => by
      obtain rfl : f = 5 := Option.some.inj ((show Tryd.prog.funcNamed "naskh/naskhlaw01.WideOne" = some 5 by kernel_rfl).symm.trans hf) |>.symm
      obtain rfl : fn = Tryd.f5 := (Option.some.inj (Tryd.func5.symm.trans hfn)).symm
      exact ⟨by kernel_rfl, fun j t ht => by
        rw [Tryd.params5] at ht
        have hm : t ∈ [3] := by simpa using Array.mem_of_getElem? ht
        have hall : ([3].all fun u => !Tryd.prog.wantsStandIn u) = true := by kernel_rfl
        exact (show Tryd.prog.wantsStandIn t = false by simpa using List.all_eq_true.1 hall t hm)⟩)
    (by kernel_rfl)
#print axioms wideOne_card
end Go.Proofs.YtoopchpolcfdaaaDoor
