/- The row of naskhlaw18.UnshapeTakes, and its card: for every slice of codes and all options the call returns true and the arguments read as they did. Condition: the package's array of sizes starts as the program's text lays it (the card ties it). -/
import Derived.Test.YtcbiaeeifclieaaGreatDoorRows
import Derived.Test.YtcbiaeeifclieaaGreatDoorTie
import Derived.Test.YtcbiaeeifclieaaGreatDoorCards
import Derived.SevenTiedAt
import Derived.Test.YtcbiaeeifclieaaGreatDoorMgM10
import Derived.Test.YtcbiaeeifclieaaGreatDoorMgM26
import Derived.Test.YtcbiaeeifclieaaGreatDoorMgM27
import Derived.Test.YtcbiaeeifclieaaGreatDoorMgM28
import Derived.Test.YtcbiaeeifclieaaGreatDoorMgM38
namespace Go.Proofs.YtcbiaeeifclieaaGreatDoor
open Go.ChangeShapes Go.WideShapes Go.ChangeAt Go.RowKit

set_option maxRecDepth 100000 in
theorem unshapeTakes_walk {H : Type} {enc : TypeId × Value → H} : LawWalk H enc 3 Tryz.f3 laidOp := by
  intro W base args ds p hval hA hL
  rw [Tryz.params3] at hA hval
  obtain ⟨v0, v1, d0, d1, p0, p1, rfl, rfl, rfl, h0, h1⟩ := trodAll_two hA
  have k0 := hval 0 22 v0 rfl rfl
  have k1 := hval 1 24 v1 rfl rfl
  obtain ⟨A, n, c, xs, rfl, hnc, hc, hr, _, hfit⟩ := open_ints_ k0 h0
  obtain ⟨o, rfl, _⟩ := open_opts k1 h1
  obtain ⟨d, l, t, g, b0, b1, b2, b3, b4, b5, b6, b7, b8, b9⟩ := o
  exact unshapeTakes_any A n c xs d l t g b0 b1 b2 b3 b4 b5 b6 b7 b8 b9 W (sizes_of_laid hL) hr (fun x hx => key_of_fit (hfit x hx)) (Nat.le_trans hnc hc)

set_option maxRecDepth 100000 in
theorem unshapeTakes_lifted (os : Os) (started : os.Started) (H : Type) (enc : TypeId × Value → H) :
    ReturnsInHanded {} Tryz.checked os 3 .any (fun w args => (Rows.unshapeTakesSpec.pre enc Tryz.prog Tryz.f3 [] false w args ∧ laidMetH Tryz.prog laidOp w) ∧ sizedMet enc Tryz.prog Tryz.f3 (OpenSpec.ofChange Rows.unshapeTakesSpec) false w args)
      (Rows.unshapeTakesSpec.post enc Tryz.prog Tryz.f3 false true false false) :=
  law_lifted started Rows.unshapeTakesSpec 3 Tryz.f3 4 laidOp rfl (fun ds h => by rw [Tryz.params3] at h; match ds, h with | [d0, d1], _ => rfl) Tryz.func3 (by kernel_rfl) rfl Tryz.underlying4
    (fun t ht => by
      rw [Tryz.params3] at ht
      have hall : ([22, 24].all fun u => Tryz.prog.readableRec u && decide (u < Tryz.prog.types.size)) = true := by kernel_rfl
      have := List.all_eq_true.1 hall t (by simpa using ht)
      simpa using this)
    (ChangeSpec.witness_shaped (enc := enc) (C := Tryz.checked) (os := os) (X := fun w _ => laidMetH Tryz.prog laidOp w) false (World.doorLaid Tryz.prog 400 os) #[.slice none 0 0, .agg #[.int .i64 0, .int .i64 0, .int .i64 0, .int .i64 0, .bool false, .bool false, .bool false, .bool false, .bool false, .bool false, .bool false, .bool false, .bool false, .bool false]] 8 rfl (door_shaped os _) (by kernel_rfl) (by kernel_rfl) (by kernel_rfl) (doorOp_met os _)) unshapeTakes_walk

theorem unshapeTakes_holds : Rows.UnshapeTakesSaid :=
  OpenClaim.holds_of_wide 3 Tryz.f3 rfl rfl rfl rfl rfl rfl rfl ⟨rfl, rfl, rfl, rfl, rfl⟩ rfl rfl rfl rfl rfl (by kernel_rfl) Tryz.func3 (by kernel_rfl)
    (of_decide_eq_true (by kernel_rfl)) (by unfold Func.isWrapper; first | (rw [if_pos (by decide +kernel)]; kernel_rfl) | (rw [if_neg (by decide +kernel)]; exact ⟨rfl, rfl⟩))
    (fun os started H enc _ => unshapeTakes_lifted os started H enc)
theorem unshapeTakes_card : Rows.UnshapeTakesCardSaid :=
  Claim7.holds_tied_plain_at .later [] [.data] true (true, Rows.unshapeTakesCard.stood.harness.2) false
    unshapeTakes_holds (fun _ h => by cases h) (by kernel_rfl) (fun _ h => by cases h) unshapeTakes_row_tie rfl ⟨rfl, rfl⟩ (by kernel_rfl) rfl
    (fun f fn hf hfn => by
      obtain rfl : f = 3 := Option.some.inj ((show Tryz.prog.funcNamed "naskh/naskhlaw18.UnshapeTakes" = some 3 by kernel_rfl).symm.trans hf) |>.symm
      obtain rfl : fn = Tryz.f3 := (Option.some.inj (Tryz.func3.symm.trans hfn)).symm
      exact ⟨by kernel_rfl, fun j t ht => by
        rw [Tryz.params3] at ht
        have hm : t ∈ [22, 24] := by simpa using Array.mem_of_getElem? ht
        have hall : ([22, 24].all fun u => !Tryz.prog.wantsStandIn u) = true := by kernel_rfl
        exact (show Tryz.prog.wantsStandIn t = false by simpa using List.all_eq_true.1 hall t hm)⟩)
    (by kernel_rfl)
#print axioms unshapeTakes_card
end Go.Proofs.YtcbiaeeifclieaaGreatDoor
