/- The row of naskhlaw18.UnshapeBack, and its card: for every slice of codes the call returns true and the codes read as they did. Condition: the package's array of sizes starts as the program's text lays it (the card ties it). -/
import Derived.Test.YtanngknhbgcobaaGreatDoorRows
import Derived.Test.YtanngknhbgcobaaGreatDoorTie
import Derived.Test.YtanngknhbgcobaaGreatDoorCards
import Derived.SevenTiedAt
import Derived.Test.YtanngknhbgcobaaGreatDoorMgTb11
import Derived.Test.YtanngknhbgcobaaGreatDoorMgTb25
import Derived.Test.YtanngknhbgcobaaGreatDoorMgTb26
import Derived.Test.YtanngknhbgcobaaGreatDoorMgTb27
import Derived.Test.YtanngknhbgcobaaGreatDoorMgTb37
namespace Go.Proofs.YtanngknhbgcobaaGreatDoor
open Go.ChangeShapes Go.WideShapes Go.ChangeAt Go.RowKit

set_option maxRecDepth 100000 in
theorem unshapeBack_walk {H : Type} {enc : TypeId × Value → H} : LawWalk H enc 4 Tryz.f4 laidOp := by
  intro W base args ds p hval hA hL
  rw [Tryz.params4] at hA hval
  obtain ⟨v0, d0, rfl, rfl, h0⟩ := trodAll_one hA
  have k0 := hval 0 22 v0 rfl rfl
  obtain ⟨A, n, c, xs, rfl, hnc, hc, hr, _, hfit⟩ := open_ints_ k0 h0
  exact unshapeBack_any A n c xs W (sizes_of_laid hL) hr (fun x hx => key_of_fit (hfit x hx)) (Nat.le_trans hnc hc)

set_option maxRecDepth 100000 in
theorem unshapeBack_lifted (os : Os) (started : os.Started) (H : Type) (enc : TypeId × Value → H) :
    ReturnsInHanded {} Tryz.checked os 4 .any (fun w args => (Rows.unshapeBackSpec.pre enc Tryz.prog Tryz.f4 [] false w args ∧ laidMetH Tryz.prog laidOp w) ∧ sizedMet enc Tryz.prog Tryz.f4 (OpenSpec.ofChange Rows.unshapeBackSpec) false w args)
      (Rows.unshapeBackSpec.post enc Tryz.prog Tryz.f4 false true false false) :=
  law_lifted started Rows.unshapeBackSpec 4 Tryz.f4 4 laidOp rfl (fun ds h => by rw [Tryz.params4] at h; match ds, h with | [d0], _ => rfl) Tryz.func4 (by kernel_rfl) rfl Tryz.underlying4
    (fun t ht => by
      rw [Tryz.params4] at ht
      have hall : ([22].all fun u => Tryz.prog.readableRec u && decide (u < Tryz.prog.types.size)) = true := by kernel_rfl
      have := List.all_eq_true.1 hall t (by simpa using ht)
      simpa using this)
    (ChangeSpec.witness_shaped (enc := enc) (C := Tryz.checked) (os := os) (X := fun w _ => laidMetH Tryz.prog laidOp w) false (World.doorLaid Tryz.prog 400 os) #[.slice none 0 0] 8 rfl (door_shaped os _) (by kernel_rfl) (by kernel_rfl) (by kernel_rfl) (doorOp_met os _)) unshapeBack_walk

theorem unshapeBack_holds : Rows.UnshapeBackSaid :=
  OpenClaim.holds_of_wide 4 Tryz.f4 rfl rfl rfl rfl rfl rfl rfl ⟨rfl, rfl, rfl, rfl, rfl⟩ rfl rfl rfl rfl rfl (by kernel_rfl) Tryz.func4 (by kernel_rfl)
    (of_decide_eq_true (by kernel_rfl)) (by unfold Func.isWrapper; first | (rw [if_pos (by decide +kernel)]; kernel_rfl) | (rw [if_neg (by decide +kernel)]; exact ⟨rfl, rfl⟩))
    (fun os started H enc _ => unshapeBack_lifted os started H enc)
theorem unshapeBack_card : Rows.UnshapeBackCardSaid :=
  Claim7.holds_tied_plain_at .later [] [.data] true (true, Rows.unshapeBackCard.stood.harness.2) false
    unshapeBack_holds (fun _ h => by cases h) (by kernel_rfl) (fun _ h => by cases h) unshapeBack_row_tie rfl ⟨rfl, rfl⟩ (by kernel_rfl) rfl
    (fun f fn hf hfn => by
      obtain rfl : f = 4 := Option.some.inj ((show Tryz.prog.funcNamed "naskh/naskhlaw18.UnshapeBack" = some 4 by kernel_rfl).symm.trans hf) |>.symm
      obtain rfl : fn = Tryz.f4 := (Option.some.inj (Tryz.func4.symm.trans hfn)).symm
      exact ⟨by kernel_rfl, fun j t ht => by
        rw [Tryz.params4] at ht
        have hm : t ∈ [22] := by simpa using Array.mem_of_getElem? ht
        have hall : ([22].all fun u => !Tryz.prog.wantsStandIn u) = true := by kernel_rfl
        exact (show Tryz.prog.wantsStandIn t = false by simpa using List.all_eq_true.1 hall t hm)⟩)
    (by kernel_rfl)
#print axioms unshapeBack_card
end Go.Proofs.YtanngknhbgcobaaGreatDoor
