/- The row of naskhlaw07.PropsApart, and its card: for every number the call returns true and the number reads as it did. Condition: the package's array of zeros starts as the program's text lays it (the card ties it). -/
import Derived.Test.YtmjpblpdmhblbaaDoorRows
import Derived.Test.YtmjpblpdmhblbaaDoorPpL
import Derived.Test.YtmjpblpdmhblbaaDoorLaidPp
import Derived.Test.YtmjpblpdmhblbaaDoorLaw
import Derived.Test.YtmjpblpdmhblbaaDoorTie
import Derived.Test.YtmjpblpdmhblbaaDoorCards
import Derived.SevenTiedAt
namespace Go.Proofs.YtmjpblpdmhblbaaDoor
open Go.ChangeShapes Go.WideShapes Go.ChangeAt Go.RowKit

theorem propsApart_walk {H : Type} {enc : TypeId × Value → H} : LawWalk H enc 4 Tryd.f4 laidPp := by
  intro W base args ds p hval hA hL
  rw [Tryd.params4] at hA hval
  obtain ⟨v0, d0, rfl, rfl, h0⟩ := trodAll_one hA
  have k0 := hval 0 3 v0 rfl rfl
  obtain ⟨c, rfl, rfl, rfl, wc⟩ := open_int Tryd.underlying3 k0 h0
  exact propsApart_any c W (zeros_of_laid hL)

set_option maxRecDepth 100000 in
theorem propsApart_lifted (os : Os) (started : os.Started) (H : Type) (enc : TypeId × Value → H) :
    ReturnsInHanded {} Tryd.checked os 4 .any (fun w args => (Rows.propsApartSpec.pre enc Tryd.prog Tryd.f4 [] false w args ∧ laidMetH Tryd.prog laidPp w) ∧ sizedMet enc Tryd.prog Tryd.f4 (OpenSpec.ofChange Rows.propsApartSpec) false w args)
      (Rows.propsApartSpec.post enc Tryd.prog Tryd.f4 false true false false) :=
  law_lifted started Rows.propsApartSpec 4 Tryd.f4 4 laidPp rfl (fun ds h => by rw [Tryd.params4] at h; match ds, h with | [d0], _ => rfl) Tryd.func4 (by kernel_rfl) rfl Tryd.underlying4
    (fun t ht => by
      rw [Tryd.params4] at ht
      have hall : ([3].all fun u => Tryd.prog.readableRec u && decide (u < Tryd.prog.types.size)) = true := by kernel_rfl
      have := List.all_eq_true.1 hall t (by simpa using ht)
      simpa using this)
    (ChangeSpec.witness_shaped (enc := enc) (C := Tryd.checked) (os := os) (X := fun w _ => laidMetH Tryd.prog laidPp w) false (World.doorLaid Tryd.prog 400 os) #[.int .i64 0] 8 rfl (door_shaped os _) (by kernel_rfl) (by kernel_rfl) (by kernel_rfl) (doorPp_met os _)) propsApart_walk

theorem propsApart_holds : Rows.PropsApartSaid :=
  OpenClaim.holds_of_wide 4 Tryd.f4 rfl rfl rfl rfl rfl rfl rfl ⟨rfl, rfl, rfl, rfl, rfl⟩ rfl rfl rfl rfl rfl (by kernel_rfl) Tryd.func4 (by kernel_rfl)
    (of_decide_eq_true (by kernel_rfl)) (by unfold Func.isWrapper; first | (rw [if_pos (by decide +kernel)]; kernel_rfl) | (rw [if_neg (by decide +kernel)]; exact ⟨rfl, rfl⟩))
    (fun os started H enc _ => propsApart_lifted os started H enc)
theorem propsApart_card : Rows.PropsApartCardSaid :=
  Claim7.holds_tied_plain_at .later [] [.data] true (true, Rows.propsApartCard.stood.harness.2) false
    propsApart_holds (fun _ h => by cases h) (by kernel_rfl) (fun _ h => by cases h) propsApart_row_tie rfl ⟨rfl, rfl⟩ (by kernel_rfl) rfl
    (fun f fn hf hfn => by
      obtain rfl : f = 4 := Option.some.inj ((show Tryd.prog.funcNamed "naskh/naskhlaw07.PropsApart" = some 4 by kernel_rfl).symm.trans hf) |>.symm
      obtain rfl : fn = Tryd.f4 := (Option.some.inj (Tryd.func4.symm.trans hfn)).symm
      exact ⟨by kernel_rfl, fun j t ht => by
        rw [Tryd.params4] at ht
        have hm : t ∈ [3] := by simpa using Array.mem_of_getElem? ht
        have hall : ([3].all fun u => !Tryd.prog.wantsStandIn u) = true := by kernel_rfl
        exact (show Tryd.prog.wantsStandIn t = false by simpa using List.all_eq_true.1 hall t hm)⟩)
    (by kernel_rfl)
#print axioms propsApart_card
end Go.Proofs.YtmjpblpdmhblbaaDoor
