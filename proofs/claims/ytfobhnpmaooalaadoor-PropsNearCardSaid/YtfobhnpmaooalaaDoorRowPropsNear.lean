/- The row of naskhlaw07.PropsNear, and its card: for every two numbers the call returns true and the numbers read as they did. Condition: the package's array of zeros starts as the program's text lays it (the card ties it). -/
import Derived.Test.YtfobhnpmaooalaaDoorRows
import Derived.Test.YtfobhnpmaooalaaDoorPpN
import Derived.Test.YtfobhnpmaooalaaDoorLaidPp
import Derived.Test.YtfobhnpmaooalaaDoorLaw
import Derived.Test.YtfobhnpmaooalaaDoorTie
import Derived.Test.YtfobhnpmaooalaaDoorCards
import Derived.SevenTiedAt
namespace Go.Proofs.YtfobhnpmaooalaaDoor
open Go.ChangeShapes Go.WideShapes Go.ChangeAt Go.RowKit

theorem propsNear_walk {H : Type} {enc : TypeId × Value → H} : LawWalk H enc 3 Tryd.f3 laidPp := by
  intro W base args ds p hval hA hL
  rw [Tryd.params3] at hA hval
  obtain ⟨v0, v1, d0, d1, p0, p1, rfl, rfl, rfl, h0, h1⟩ := trodAll_two hA
  have k0 := hval 0 3 v0 rfl rfl
  have k1 := hval 1 3 v1 rfl rfl
  obtain ⟨c, rfl, rfl, rfl, wc⟩ := open_int Tryd.underlying3 k0 h0
  obtain ⟨d, rfl, rfl, rfl, wd⟩ := open_int Tryd.underlying3 k1 h1
  exact propsNear_any c d W (zeros_of_laid hL)

set_option maxRecDepth 100000 in
theorem propsNear_lifted (os : Os) (started : os.Started) (H : Type) (enc : TypeId × Value → H) :
    ReturnsInHanded {} Tryd.checked os 3 .any (fun w args => (Rows.propsNearSpec.pre enc Tryd.prog Tryd.f3 [] false w args ∧ laidMetH Tryd.prog laidPp w) ∧ sizedMet enc Tryd.prog Tryd.f3 (OpenSpec.ofChange Rows.propsNearSpec) false w args)
      (Rows.propsNearSpec.post enc Tryd.prog Tryd.f3 false true false false) :=
  law_lifted started Rows.propsNearSpec 3 Tryd.f3 4 laidPp rfl (fun ds h => by rw [Tryd.params3] at h; match ds, h with | [d0, d1], _ => rfl) Tryd.func3 (by kernel_rfl) rfl Tryd.underlying4
    (fun t ht => by
      rw [Tryd.params3] at ht
      have hall : ([3, 3].all fun u => Tryd.prog.readableRec u && decide (u < Tryd.prog.types.size)) = true := by kernel_rfl
      have := List.all_eq_true.1 hall t (by simpa using ht)
      simpa using this)
    (ChangeSpec.witness_shaped (enc := enc) (C := Tryd.checked) (os := os) (X := fun w _ => laidMetH Tryd.prog laidPp w) false (World.doorLaid Tryd.prog 400 os) #[.int .i64 0, .int .i64 0] 8 rfl (door_shaped os _) (by kernel_rfl) (by kernel_rfl) (by kernel_rfl) (doorPp_met os _)) propsNear_walk

theorem propsNear_holds : Rows.PropsNearSaid :=
  OpenClaim.holds_of_wide 3 Tryd.f3 rfl rfl rfl rfl rfl rfl rfl ⟨rfl, rfl, rfl, rfl, rfl⟩ rfl rfl rfl rfl rfl (by kernel_rfl) Tryd.func3 (by kernel_rfl)
    (of_decide_eq_true (by kernel_rfl)) (by unfold Func.isWrapper; first | (rw [if_pos (by decide +kernel)]; kernel_rfl) | (rw [if_neg (by decide +kernel)]; exact ⟨rfl, rfl⟩))
    (fun os started H enc _ => propsNear_lifted os started H enc)
theorem propsNear_card : Rows.PropsNearCardSaid :=
  Claim7.holds_tied_plain_at .later [] [.data] true (true, Rows.propsNearCard.stood.harness.2) false
    propsNear_holds (fun _ h => by cases h) (by kernel_rfl) (fun _ h => by cases h) propsNear_row_tie rfl ⟨rfl, rfl⟩ (by kernel_rfl) rfl
    (fun f fn hf hfn => by
      obtain rfl : f = 3 := Option.some.inj ((show Tryd.prog.funcNamed "naskh/naskhlaw07.PropsNear" = some 3 by kernel_rfl).symm.trans hf) |>.symm
      obtain rfl : fn = Tryd.f3 := (Option.some.inj (Tryd.func3.symm.trans hfn)).symm
      exact ⟨by kernel_rfl, fun j t ht => by
        rw [Tryd.params3] at ht
        have hm : t ∈ [3, 3] := by simpa using Array.mem_of_getElem? ht
        have hall : ([3, 3].all fun u => !Tryd.prog.wantsStandIn u) = true := by kernel_rfl
        exact (show Tryd.prog.wantsStandIn t = false by simpa using List.all_eq_true.1 hall t hm)⟩)
    (by kernel_rfl)
#print axioms propsNear_card
end Go.Proofs.YtfobhnpmaooalaaDoor
