/- The row of naskhlaw18.UnshapeMap, and its card: for every slice of codes and all options the call returns true and the arguments read as they did. Condition: the package's array of sizes starts as the program's text lays it (the card ties it). -/
import Derived.Test.YtanngknhbgcobaaGreatDoorRows
import Derived.Test.YtanngknhbgcobaaGreatDoorTie
import Derived.Test.YtanngknhbgcobaaGreatDoorCards
import Derived.SevenTiedAt
import Derived.Test.YtanngknhbgcobaaGreatDoorMgMp10
import Derived.Test.YtanngknhbgcobaaGreatDoorMgMp24
import Derived.Test.YtanngknhbgcobaaGreatDoorMgMp25
import Derived.Test.YtanngknhbgcobaaGreatDoorMgMp26
import Derived.Test.YtanngknhbgcobaaGreatDoorMgMp34
namespace Go.Proofs.YtanngknhbgcobaaGreatDoor
open Go.ChangeShapes Go.WideShapes Go.ChangeAt Go.RowKit

set_option maxRecDepth 100000 in
theorem unshapeMap_walk {H : Type} {enc : TypeId × Value → H} : LawWalk H enc 5 Tryz.f5 laidOp := by
  intro W base args ds p hval hA hL
  rw [Tryz.params5] at hA hval
  obtain ⟨v0, v1, d0, d1, p0, p1, rfl, rfl, rfl, h0, h1⟩ := trodAll_two hA
  have k0 := hval 0 22 v0 rfl rfl
  have k1 := hval 1 24 v1 rfl rfl
  obtain ⟨A, n, c, xs, rfl, hnc, hc, hr, _, hfit⟩ := open_ints_ k0 h0
  obtain ⟨o, rfl, _⟩ := open_opts k1 h1
  obtain ⟨d, l, t, g, b0, b1, b2, b3, b4, b5, b6, b7, b8, b9⟩ := o
  exact unshapeMap_any A n c xs d l t g b0 b1 b2 b3 b4 b5 b6 b7 b8 b9 W (sizes_of_laid hL) hr (fun x hx => key_of_fit (hfit x hx)) (Nat.le_trans hnc hc)

set_option maxRecDepth 100000 in
theorem unshapeMap_lifted (os : Os) (started : os.Started) (H : Type) (enc : TypeId × Value → H) :
    ReturnsInHanded {} Tryz.checked os 5 .any (fun w args => (Rows.unshapeMapSpec.pre enc Tryz.prog Tryz.f5 [] false w args ∧ laidMetH Tryz.prog laidOp w) ∧ sizedMet enc Tryz.prog Tryz.f5 (OpenSpec.ofChange Rows.unshapeMapSpec) false w args)
      (Rows.unshapeMapSpec.post enc Tryz.prog Tryz.f5 false true false false) :=
  law_lifted started Rows.unshapeMapSpec 5 Tryz.f5 4 laidOp rfl (fun ds h => by rw [Tryz.params5] at h; match ds, h with | [d0, d1], _ => rfl) Tryz.func5 (by kernel_rfl) rfl Tryz.underlying4
    (fun t ht => by
      rw [Tryz.params5] at ht
      have hall : ([22, 24].all fun u => Tryz.prog.readableRec u && decide (u < Tryz.prog.types.size)) = true := by kernel_rfl
      have := List.all_eq_true.1 hall t (by simpa using ht)
      simpa using this)
    (ChangeSpec.witness_shaped (enc := enc) (C := Tryz.checked) (os := os) (X := fun w _ => laidMetH Tryz.prog laidOp w) false (World.doorLaid Tryz.prog 400 os) #[.slice none 0 0, .agg #[.int .i64 0, .int .i64 0, .int .i64 0, .int .i64 0, .bool false, .bool false, .bool false, .bool false, .bool false, .bool false, .bool false, .bool false, .bool false, .bool false]] 8 rfl (door_shaped os _) (by kernel_rfl) (by kernel_rfl) (by kernel_rfl) (doorOp_met os _)) unshapeMap_walk

theorem unshapeMap_holds : Rows.UnshapeMapSaid :=
  OpenClaim.holds_of_wide 5 Tryz.f5 rfl rfl rfl rfl rfl rfl rfl ⟨rfl, rfl, rfl, rfl, rfl⟩ rfl rfl rfl rfl rfl (by kernel_rfl) Tryz.func5 (by kernel_rfl)
    (of_decide_eq_true (by kernel_rfl)) (by unfold Func.isWrapper; first | (rw [if_pos (by decide +kernel)]; kernel_rfl) | (rw [if_neg (by decide +kernel)]; exact ⟨rfl, rfl⟩))
    (fun os started H enc _ => unshapeMap_lifted os started H enc)
theorem unshapeMap_card : Rows.UnshapeMapCardSaid :=
  Claim7.holds_tied_plain_at .later [] [.data] true (true, Rows.unshapeMapCard.stood.harness.2) false
    unshapeMap_holds (fun _ h => by cases h) (by kernel_rfl) (fun _ h => by cases h) unshapeMap_row_tie rfl ⟨rfl, rfl⟩ (by kernel_rfl) rfl
    (fun f fn hf hfn => by
      obtain rfl : f = 5 := Option.some.inj ((show Tryz.prog.funcNamed "naskh/naskhlaw18.UnshapeMap" = some 5 by kernel_rfl).symm.trans hf) |>.symm
      obtain rfl : fn = Tryz.f5 := (Option.some.inj (Tryz.func5.symm.trans hfn)).symm
      exact ⟨by kernel_rfl, fun j t ht => by
        rw [Tryz.params5] at ht
        have hm : t ∈ [22, 24] := by simpa using Array.mem_of_getElem? ht
        have hall : ([22, 24].all fun u => !Tryz.prog.wantsStandIn u) = true := by kernel_rfl
        exact (show Tryz.prog.wantsStandIn t = false by simpa using List.all_eq_true.1 hall t hm)⟩)
    (by kernel_rfl)
#print axioms unshapeMap_card
end Go.Proofs.YtanngknhbgcobaaGreatDoor
