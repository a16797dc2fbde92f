/- The row of naskhlaw01.WideWrites, and its card: for every slice of numbers the call returns true and the slice reads as it did. Condition: the package's arrays start as the program's text lays them (the card ties them). -/
import Derived.Test.YtoopchpolcfdaaaDoorRows
import Derived.Test.YtoopchpolcfdaaaDoorWritesW
import Derived.Test.YtoopchpolcfdaaaDoorOpen
import Derived.Test.YtoopchpolcfdaaaDoorLaidW
import Derived.Test.YtoopchpolcfdaaaDoorLaw
import Derived.Test.YtoopchpolcfdaaaDoorTie
import Derived.Test.YtoopchpolcfdaaaDoorCards
import Derived.SevenTiedAt
namespace Go.Proofs.YtoopchpolcfdaaaDoor
open Go.ChangeShapes Go.WideShapes Go.ChangeAt Go.RowKit

theorem wideWrites_walk {H : Type} {enc : TypeId × Value → H} : LawWalk H enc 4 Tryd.f4 laidW := by
  intro W base args ds p hval hA hL
  rw [Tryd.params4] at hA hval
  obtain ⟨v0, d0, rfl, rfl, h0⟩ := trodAll_one hA
  have k0 := hval 0 27 v0 rfl rfl
  obtain ⟨A0, n0, c0, us0, rfl, hc0, hm0, hr0, hl0, hwf0⟩ := open_sl Tryd.underlying27 Tryd.underlying3 (by kernel_rfl) k0 h0
  exact wideWrites_any A0 n0 c0 us0 W (stretches_of_laid hL) hr0

set_option maxRecDepth 100000 in
theorem wideWrites_lifted (os : Os) (started : os.Started) (H : Type) (enc : TypeId × Value → H) :
    ReturnsInHanded {} Tryd.checked os 4 .any (fun w args => (Rows.wideWritesSpec.pre enc Tryd.prog Tryd.f4 [] false w args ∧ laidMetH Tryd.prog laidW w) ∧ sizedMet enc Tryd.prog Tryd.f4 (OpenSpec.ofChange Rows.wideWritesSpec) false w args)
      (Rows.wideWritesSpec.post enc Tryd.prog Tryd.f4 false true false false) :=
  law_lifted started Rows.wideWritesSpec 4 Tryd.f4 4 laidW rfl (fun ds h => by rw [Tryd.params4] at h; match ds, h with | [d0], _ => rfl) Tryd.func4 (by kernel_rfl) rfl Tryd.underlying4
    (fun t ht => by
      rw [Tryd.params4] at ht
      have hall : ([27].all fun u => Tryd.prog.readableRec u && decide (u < Tryd.prog.types.size)) = true := by kernel_rfl
      have := List.all_eq_true.1 hall t (by simpa using ht)
      simpa using this)
    (ChangeSpec.witness_shaped (enc := enc) (C := Tryd.checked) (os := os) (X := fun w _ => laidMetH Tryd.prog laidW w) false (World.doorLaid Tryd.prog 400 os) #[.slice none 0 0] 8 rfl (door_shaped os _) (by kernel_rfl) (by kernel_rfl) (by kernel_rfl) (doorW_met os _)) wideWrites_walk

theorem wideWrites_holds : Rows.WideWritesSaid :=
  OpenClaim.holds_of_wide 4 Tryd.f4 rfl rfl rfl rfl rfl rfl rfl ⟨rfl, rfl, rfl, rfl, rfl⟩ rfl rfl rfl rfl rfl (by kernel_rfl) Tryd.func4 (by kernel_rfl)
    (of_decide_eq_true (by kernel_rfl)) (by unfold Func.isWrapper; first | (rw [if_pos (by decide +kernel)]; kernel_rfl) | (rw [if_neg (by decide +kernel)]; exact ⟨rfl, rfl⟩))
    (fun os started H enc _ => wideWrites_lifted os started H enc)
theorem wideWrites_card : Rows.WideWritesCardSaid :=
  Claim7.holds_tied_plain_at .later [] [.data] true (true, Rows.wideWritesCard.stood.harness.2) false
    wideWrites_holds (fun _ h => by cases h) (by kernel_rfl) (fun _ h => by cases h) wideWrites_row_tie rfl ⟨rfl, rfl⟩ (by kernel_rfl) rfl
    (fun f fn hf hfn => by
      obtain rfl : f = 4 := Option.some.inj ((show Tryd.prog.funcNamed "naskh/naskhlaw01.WideWrites" = some 4 by kernel_rfl).symm.trans hf) |>.symm
      obtain rfl : fn = Tryd.f4 := (Option.some.inj (Tryd.func4.symm.trans hfn)).symm
      exact ⟨by kernel_rfl, fun j t ht => by
        rw [Tryd.params4] at ht
        have hm : t ∈ [27] := by simpa using Array.mem_of_getElem? ht
        have hall : ([27].all fun u => !Tryd.prog.wantsStandIn u) = true := by kernel_rfl
        exact (show Tryd.prog.wantsStandIn t = false by simpa using List.all_eq_true.1 hall t hm)⟩)
    (by kernel_rfl)
#print axioms wideWrites_card
end Go.Proofs.YtoopchpolcfdaaaDoor
