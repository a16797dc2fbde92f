/- The row of naskhlaw02.NarrowWhole, and its card: for every slice of numbers the call returns true and the slice reads as it did. Condition: the package's arrays start as the program's text lays them (the card ties them). -/
import Derived.Test.YtoopchpolcfdaaaDoorRows
import Derived.Test.YtoopchpolcfdaaaDoorWholeN
import Derived.Test.YtoopchpolcfdaaaDoorOpen
import Derived.Test.YtoopchpolcfdaaaDoorLaidN
import Derived.Test.YtoopchpolcfdaaaDoorLaw
import Derived.Test.YtoopchpolcfdaaaDoorTie
import Derived.Test.YtoopchpolcfdaaaDoorCards
import Derived.SevenTiedAt
namespace Go.Proofs.YtoopchpolcfdaaaDoor
open Go.ChangeShapes Go.WideShapes Go.ChangeAt Go.RowKit

theorem narrowWhole_walk {H : Type} {enc : TypeId × Value → H} : LawWalk H enc 12 Tryd.f12 laidN := by
  intro W base args ds p hval hA hL
  rw [Tryd.params12] at hA hval
  obtain ⟨v0, d0, rfl, rfl, h0⟩ := trodAll_one hA
  have k0 := hval 0 27 v0 rfl rfl
  obtain ⟨A0, n0, c0, us0, rfl, hc0, hm0, hr0, hl0, hwf0⟩ := open_sl Tryd.underlying27 Tryd.underlying3 (by kernel_rfl) k0 h0
  exact narrowWhole_any A0 n0 c0 us0 W (tabN_of_laid hL) hr0 (Nat.le_trans hc0 hm0)

set_option maxRecDepth 100000 in
theorem narrowWhole_lifted (os : Os) (started : os.Started) (H : Type) (enc : TypeId × Value → H) :
    ReturnsInHanded {} Tryd.checked os 12 .any (fun w args => (Rows.narrowWholeSpec.pre enc Tryd.prog Tryd.f12 [] false w args ∧ laidMetH Tryd.prog laidN w) ∧ sizedMet enc Tryd.prog Tryd.f12 (OpenSpec.ofChange Rows.narrowWholeSpec) false w args)
      (Rows.narrowWholeSpec.post enc Tryd.prog Tryd.f12 false true false false) :=
  law_lifted started Rows.narrowWholeSpec 12 Tryd.f12 4 laidN rfl (fun ds h => by rw [Tryd.params12] at h; match ds, h with | [d0], _ => rfl) Tryd.func12 (by kernel_rfl) rfl Tryd.underlying4
    (fun t ht => by
      rw [Tryd.params12] at ht
      have hall : ([27].all fun u => Tryd.prog.readableRec u && decide (u < Tryd.prog.types.size)) = true := by kernel_rfl
      have := List.all_eq_true.1 hall t (by simpa using ht)
      simpa using this)
    (ChangeSpec.witness_shaped (enc := enc) (C := Tryd.checked) (os := os) (X := fun w _ => laidMetH Tryd.prog laidN w) false (World.doorLaid Tryd.prog 400 os) #[.slice none 0 0] 8 rfl (door_shaped os _) (by kernel_rfl) (by kernel_rfl) (by kernel_rfl) (doorN_met os _)) narrowWhole_walk

theorem narrowWhole_holds : Rows.NarrowWholeSaid :=
  OpenClaim.holds_of_wide 12 Tryd.f12 rfl rfl rfl rfl rfl rfl rfl ⟨rfl, rfl, rfl, rfl, rfl⟩ rfl rfl rfl rfl rfl (by kernel_rfl) Tryd.func12 (by kernel_rfl)
    (of_decide_eq_true (by kernel_rfl)) (by unfold Func.isWrapper; first | (rw [if_pos (by decide +kernel)]; kernel_rfl) | (rw [if_neg (by decide +kernel)]; exact ⟨rfl, rfl⟩))
    (fun os started H enc _ => narrowWhole_lifted os started H enc)
theorem narrowWhole_card : Rows.NarrowWholeCardSaid :=
  Claim7.holds_tied_plain_at .later [] [.data, .data, .data] true (true, Rows.narrowWholeCard.stood.harness.2) false
    narrowWhole_holds (fun _ h => by cases h) (by kernel_rfl) (fun _ h => by cases h) narrowWhole_row_tie rfl ⟨rfl, rfl⟩ (by kernel_rfl) rfl
    (fun f fn hf hfn => by
      obtain rfl : f = 12 := Option.some.inj ((show Tryd.prog.funcNamed "naskh/naskhlaw02.NarrowWhole" = some 12 by kernel_rfl).symm.trans hf) |>.symm
      obtain rfl : fn = Tryd.f12 := (Option.some.inj (Tryd.func12.symm.trans hfn)).symm
      exact ⟨by kernel_rfl, fun j t ht => by
        rw [Tryd.params12] at ht
        have hm : t ∈ [27] := by simpa using Array.mem_of_getElem? ht
        have hall : ([27].all fun u => !Tryd.prog.wantsStandIn u) = true := by kernel_rfl
        exact (show Tryd.prog.wantsStandIn t = false by simpa using List.all_eq_true.1 hall t hm)⟩)
    (by kernel_rfl)
#print axioms narrowWhole_card
end Go.Proofs.YtoopchpolcfdaaaDoor
