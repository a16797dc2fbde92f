/- The row of naskhlaw02.NarrowOne, and its card: for every number the call returns true and the number reads as it did. Condition: the package's arrays start as the program's text lays them (the card ties them). -/
import Derived.Test.YtoopchpolcfdaaaDoorRows
import Derived.Test.YtoopchpolcfdaaaDoorOneLN
import Derived.Test.YtoopchpolcfdaaaDoorLaidN
import Derived.Test.YtoopchpolcfdaaaDoorLaw
import Derived.Test.YtoopchpolcfdaaaDoorTie
import Derived.Test.YtoopchpolcfdaaaDoorCards
import Derived.SevenTiedAt
namespace Go.Proofs.YtoopchpolcfdaaaDoor
open Go.ChangeShapes Go.WideShapes Go.ChangeAt Go.RowKit

theorem narrowOne_walk {H : Type} {enc : TypeId × Value → H} : LawWalk H enc 10 Tryd.f10 laidN := by
  intro W base args ds p hval hA hL
  rw [Tryd.params10] at hA hval
  obtain ⟨v0, d0, rfl, rfl, h0⟩ := trodAll_one hA
  have k0 := hval 0 3 v0 rfl rfl
  obtain ⟨c, rfl, rfl, rfl, wc⟩ := open_int Tryd.underlying3 k0 h0
  exact narrowOne_any c W (tabN_of_laid hL)

set_option maxRecDepth 100000 in
theorem narrowOne_lifted (os : Os) (started : os.Started) (H : Type) (enc : TypeId × Value → H) :
    ReturnsInHanded {} Tryd.checked os 10 .any (fun w args => (Rows.narrowOneSpec.pre enc Tryd.prog Tryd.f10 [] false w args ∧ laidMetH Tryd.prog laidN w) ∧ sizedMet enc Tryd.prog Tryd.f10 (OpenSpec.ofChange Rows.narrowOneSpec) false w args)
      (Rows.narrowOneSpec.post enc Tryd.prog Tryd.f10 false true false false) :=
  law_lifted started Rows.narrowOneSpec 10 Tryd.f10 4 laidN rfl (fun ds h => by rw [Tryd.params10] at h; match ds, h with | [d0], _ => rfl) Tryd.func10 (by kernel_rfl) rfl Tryd.underlying4
    (fun t ht => by
      rw [Tryd.params10] at ht
      have hall : ([3].all fun u => Tryd.prog.readableRec u && decide (u < Tryd.prog.types.size)) = true := by kernel_rfl
      have := List.all_eq_true.1 hall t (by simpa using ht)
      simpa using this)
    (ChangeSpec.witness_shaped (enc := enc) (C := Tryd.checked) (os := os) (X := fun w _ => laidMetH Tryd.prog laidN w) false (World.doorLaid Tryd.prog 400 os) #[.int .i64 0] 8 rfl (door_shaped os _) (by kernel_rfl) (by kernel_rfl) (by kernel_rfl) (doorN_met os _)) narrowOne_walk

theorem narrowOne_holds : Rows.NarrowOneSaid :=
  OpenClaim.holds_of_wide 10 Tryd.f10 rfl rfl rfl rfl rfl rfl rfl ⟨rfl, rfl, rfl, rfl, rfl⟩ rfl rfl rfl rfl rfl (by kernel_rfl) Tryd.func10 (by kernel_rfl)
    (of_decide_eq_true (by kernel_rfl)) (by unfold Func.isWrapper; first | (rw [if_pos (by decide +kernel)]; kernel_rfl) | (rw [if_neg (by decide +kernel)]; exact ⟨rfl, rfl⟩))
    (fun os started H enc _ => narrowOne_lifted os started H enc)
theorem narrowOne_card : Rows.NarrowOneCardSaid :=
  Claim7.holds_tied_plain_at .later [] [.data, .data, .data] true (true, Rows.narrowOneCard.stood.harness.2) false
    narrowOne_holds (fun _ h => by cases h) (by kernel_rfl) (fun _ h => by cases h) narrowOne_row_tie rfl ⟨rfl, rfl⟩ (by kernel_rfl) rfl
    (fun f fn hf hfn => by
      obtain rfl : f = 10 := Option.some.inj ((show Tryd.prog.funcNamed "naskh/naskhlaw02.NarrowOne" = some 10 by kernel_rfl).symm.trans hf) |>.symm
      obtain rfl : fn = Tryd.f10 := (Option.some.inj (Tryd.func10.symm.trans hfn)).symm
      exact ⟨by kernel_rfl, fun j t ht => by
        rw [Tryd.params10] at ht
        have hm : t ∈ [3] := by simpa using Array.mem_of_getElem? ht
        have hall : ([3].all fun u => !Tryd.prog.wantsStandIn u) = true := by kernel_rfl
        exact (show Tryd.prog.wantsStandIn t = false by simpa using List.all_eq_true.1 hall t hm)⟩)
    (by kernel_rfl)
#print axioms narrowOne_card
end Go.Proofs.YtoopchpolcfdaaaDoor
