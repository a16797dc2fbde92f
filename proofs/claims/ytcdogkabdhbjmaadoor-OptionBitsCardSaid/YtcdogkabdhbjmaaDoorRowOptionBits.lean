/- The row of naskhlaw10.OptionBits, and its card: for all options and every number the call returns true and the arguments read as they did. Condition: the package's array of sizes starts as the program's text lays it (the card ties it). -/
import Derived.Test.YtcdogkabdhbjmaaDoorRows
import Derived.Test.YtcdogkabdhbjmaaDoorOpL1
import Derived.Test.YtcdogkabdhbjmaaDoorLaidOp
import Derived.Test.YtcdogkabdhbjmaaDoorOpOp
import Derived.Test.YtcdogkabdhbjmaaDoorLaw
import Derived.Test.YtcdogkabdhbjmaaDoorTie
import Derived.Test.YtcdogkabdhbjmaaDoorCards
import Derived.SevenTiedAt
namespace Go.Proofs.YtcdogkabdhbjmaaDoor
open Go.ChangeShapes Go.WideShapes Go.ChangeAt Go.RowKit

set_option maxRecDepth 100000 in
theorem optionBits_walk {H : Type} {enc : TypeId × Value → H} : LawWalk H enc 4 Tryd.f4 laidOp := by
  intro W base args ds p hval hA hL
  rw [Tryd.params4] at hA hval
  obtain ⟨v0, v1, d0, d1, p0, p1, rfl, rfl, rfl, h0, h1⟩ := trodAll_two hA
  have k0 := hval 0 23 v0 rfl rfl
  have k1 := hval 1 3 v1 rfl rfl
  obtain ⟨⟨d, l, t, g, b0, b1, b2, b3, b4, b5, b6, b7, b8, b9⟩, rfl, _⟩ := open_opts k0 h0
  obtain ⟨n, rfl, rfl, rfl, _⟩ := open_int Tryd.underlying3 k1 h1
  exact optionBits_any d l t g b0 b1 b2 b3 b4 b5 b6 b7 b8 b9 n W (sizes_of_laid hL)

set_option maxRecDepth 100000 in
theorem optionBits_lifted (os : Os) (started : os.Started) (H : Type) (enc : TypeId × Value → H) :
    ReturnsInHanded {} Tryd.checked os 4 .any (fun w args => (Rows.optionBitsSpec.pre enc Tryd.prog Tryd.f4 [] false w args ∧ laidMetH Tryd.prog laidOp w) ∧ sizedMet enc Tryd.prog Tryd.f4 (OpenSpec.ofChange Rows.optionBitsSpec) false w args)
      (Rows.optionBitsSpec.post enc Tryd.prog Tryd.f4 false true false false) :=
  law_lifted started Rows.optionBitsSpec 4 Tryd.f4 4 laidOp rfl (fun ds h => by rw [Tryd.params4] at h; match ds, h with | [d0, d1], _ => rfl) Tryd.func4 (by kernel_rfl) rfl Tryd.underlying4
    (fun t ht => by
      rw [Tryd.params4] at ht
      have hall : ([23, 3].all fun u => Tryd.prog.readableRec u && decide (u < Tryd.prog.types.size)) = true := by kernel_rfl
      have := List.all_eq_true.1 hall t (by simpa using ht)
      simpa using this)
    (ChangeSpec.witness_shaped (enc := enc) (C := Tryd.checked) (os := os) (X := fun w _ => laidMetH Tryd.prog laidOp w) false (World.doorLaid Tryd.prog 400 os) #[.agg #[.int .i64 0, .int .i64 0, .int .i64 0, .int .i64 0, .bool false, .bool false, .bool false, .bool false, .bool false, .bool false, .bool false, .bool false, .bool false, .bool false], .int .i64 0] 8 rfl (door_shaped os _) (by kernel_rfl) (by kernel_rfl) (by kernel_rfl) (doorOp_met os _)) optionBits_walk

theorem optionBits_holds : Rows.OptionBitsSaid :=
  OpenClaim.holds_of_wide 4 Tryd.f4 rfl rfl rfl rfl rfl rfl rfl ⟨rfl, rfl, rfl, rfl, rfl⟩ rfl rfl rfl rfl rfl (by kernel_rfl) Tryd.func4 (by kernel_rfl)
    (of_decide_eq_true (by kernel_rfl)) (by unfold Func.isWrapper; first | (rw [if_pos (by decide +kernel)]; kernel_rfl) | (rw [if_neg (by decide +kernel)]; exact ⟨rfl, rfl⟩))
    (fun os started H enc _ => optionBits_lifted os started H enc)
theorem optionBits_card : Rows.OptionBitsCardSaid :=
  Claim7.holds_tied_plain_at .later [] [.data] true (true, Rows.optionBitsCard.stood.harness.2) false
    optionBits_holds (fun _ h => by cases h) (by kernel_rfl) (fun _ h => by cases h) optionBits_row_tie rfl ⟨rfl, rfl⟩ (by kernel_rfl) rfl
    (fun f fn hf hfn => by
      obtain rfl : f = 4 := Option.some.inj ((show Tryd.prog.funcNamed "naskh/naskhlaw10.OptionBits" = some 4 by kernel_rfl).symm.trans hf) |>.symm
      obtain rfl : fn = Tryd.f4 := (Option.some.inj (Tryd.func4.symm.trans hfn)).symm
      exact ⟨by kernel_rfl, fun j t ht => by
        rw [Tryd.params4] at ht
        have hm : t ∈ [23, 3] := by simpa using Array.mem_of_getElem? ht
        have hall : ([23, 3].all fun u => !Tryd.prog.wantsStandIn u) = true := by kernel_rfl
        exact (show Tryd.prog.wantsStandIn t = false by simpa using List.all_eq_true.1 hall t hm)⟩)
    (by kernel_rfl)
#print axioms optionBits_card
end Go.Proofs.YtcdogkabdhbjmaaDoor
