/- The row of naskhlaw01.WideParts, and its card: for every two slices of units the call returns true and the slices read as they did. Condition: the package's arrays start as the program's text lays them (the card ties them). -/
import Derived.Test.YtoopchpolcfdaaaDoorRows
import Derived.Test.YtoopchpolcfdaaaDoorPartsW
import Derived.Test.YtoopchpolcfdaaaDoorOpen
import Derived.Test.YtoopchpolcfdaaaDoorLaidW
import Derived.Test.YtoopchpolcfdaaaDoorLaw
import Derived.Test.YtoopchpolcfdaaaDoorTie
import Derived.Test.YtoopchpolcfdaaaDoorCards
import Derived.SevenTiedAt
namespace Go.Proofs.YtoopchpolcfdaaaDoor
open Go.ChangeShapes Go.WideShapes Go.ChangeAt Go.RowKit

theorem wideParts_walk {H : Type} {enc : TypeId × Value → H} : LawWalk H enc 7 Tryd.f7 laidW := by
  intro W base args ds p hval hA hL
  rw [Tryd.params7] at hA hval
  obtain ⟨v0, v1, d0, d1, p0, p1, rfl, rfl, rfl, h0, h1⟩ := trodAll_two hA
  have k0 := hval 0 22 v0 rfl rfl
  have k1 := hval 1 22 v1 rfl rfl
  obtain ⟨A0, n0, c0, us0, rfl, hc0, hm0, hr0, hl0, hwf0⟩ := open_sl Tryd.underlying22 Tryd.underlying25 (by kernel_rfl) k0 h0
  obtain ⟨A1, n1, c1, us1, rfl, hc1, hm1, hr1, hl1, hwf1⟩ := open_sl Tryd.underlying22 Tryd.underlying25 (by kernel_rfl) k1 h1
  exact wideParts_any A0 A1 n0 n1 c0 c1 us0 us1 W ⟨stretches_of_laid hL, hr0, hr1, fun x hx => unit_of_wf (hwf0 x hx), fun x hx => unit_of_wf (hwf1 x hx), hc0, hc1⟩

set_option maxRecDepth 100000 in
theorem wideParts_lifted (os : Os) (started : os.Started) (H : Type) (enc : TypeId × Value → H) :
    ReturnsInHanded {} Tryd.checked os 7 .any (fun w args => (Rows.widePartsSpec.pre enc Tryd.prog Tryd.f7 [] false w args ∧ laidMetH Tryd.prog laidW w) ∧ sizedMet enc Tryd.prog Tryd.f7 (OpenSpec.ofChange Rows.widePartsSpec) false w args)
      (Rows.widePartsSpec.post enc Tryd.prog Tryd.f7 false true false false) :=
  law_lifted started Rows.widePartsSpec 7 Tryd.f7 4 laidW rfl (fun ds h => by rw [Tryd.params7] at h; match ds, h with | [d0, d1], _ => rfl) Tryd.func7 (by kernel_rfl) rfl Tryd.underlying4
    (fun t ht => by
      rw [Tryd.params7] at ht
      have hall : ([22, 22].all fun u => Tryd.prog.readableRec u && decide (u < Tryd.prog.types.size)) = true := by kernel_rfl
      have := List.all_eq_true.1 hall t (by simpa using ht)
      simpa using this)
    (ChangeSpec.witness_shaped (enc := enc) (C := Tryd.checked) (os := os) (X := fun w _ => laidMetH Tryd.prog laidW w) false (World.doorLaid Tryd.prog 400 os) #[.slice none 0 0, .slice none 0 0] 8 rfl (door_shaped os _) (by kernel_rfl) (by kernel_rfl) (by kernel_rfl) (doorW_met os _)) wideParts_walk

theorem wideParts_holds : Rows.WidePartsSaid :=
  OpenClaim.holds_of_wide 7 Tryd.f7 rfl rfl rfl rfl rfl rfl rfl ⟨rfl, rfl, rfl, rfl, rfl⟩ rfl rfl rfl rfl rfl (by kernel_rfl) Tryd.func7 (by kernel_rfl)
    (of_decide_eq_true (by kernel_rfl)) (by unfold Func.isWrapper; first | (rw [if_pos (by decide +kernel)]; kernel_rfl) | (rw [if_neg (by decide +kernel)]; exact ⟨rfl, rfl⟩))
    (fun os started H enc _ => wideParts_lifted os started H enc)
theorem wideParts_card : Rows.WidePartsCardSaid :=
  Claim7.holds_tied_plain_at .later [] [.data] true (true, Rows.widePartsCard.stood.harness.2) false
    wideParts_holds (fun _ h => by cases h) (by kernel_rfl) (fun _ h => by cases h) wideParts_row_tie rfl ⟨rfl, rfl⟩ (by kernel_rfl) rfl
    (fun f fn hf hfn => by
      obtain rfl : f = 7 := Option.some.inj ((show Tryd.prog.funcNamed "naskh/naskhlaw01.WideParts" = some 7 by kernel_rfl).symm.trans hf) |>.symm
      obtain rfl : fn = Tryd.f7 := (Option.some.inj (Tryd.func7.symm.trans hfn)).symm
      exact ⟨by kernel_rfl, fun j t ht => by
        rw [Tryd.params7] at ht
        have hm : t ∈ [22, 22] := by simpa using Array.mem_of_getElem? ht
        have hall : ([22, 22].all fun u => !Tryd.prog.wantsStandIn u) = true := by kernel_rfl
        exact (show Tryd.prog.wantsStandIn t = false by simpa using List.all_eq_true.1 hall t hm)⟩)
    (by kernel_rfl)
#print axioms wideParts_card
end Go.Proofs.YtoopchpolcfdaaaDoor
