/- The row of naskhlaw11.SpellBack, and its card: for all options and every text the call returns true and the arguments read as they did. Condition: the package's arrays of sizes and of words start as the program's text lays them (the card ties them). -/
import Derived.Test.YtcdogkabdhbjmaaDoorRows
import Derived.Test.YtcdogkabdhbjmaaDoorTie
import Derived.Test.YtcdogkabdhbjmaaDoorCards
import Derived.SevenTiedAt
import Derived.Test.YtcdogkabdhbjmaaDoorMgSb10
import Derived.Test.YtcdogkabdhbjmaaDoorMgSb11
namespace Go.Proofs.YtcdogkabdhbjmaaDoor
open Go.ChangeShapes Go.WideShapes Go.ChangeAt Go.RowKit

set_option maxRecDepth 100000 in
theorem spellBack_walk {H : Type} {enc : TypeId × Value → H} : LawWalk H enc 8 Tryd.f8 laidSw := by
  intro W base args ds p hval hA hL
  rw [Tryd.params8] at hA hval
  obtain ⟨v0, v1, d0, d1, p0, p1, rfl, rfl, rfl, h0, h1⟩ := trodAll_two hA
  have k0 := hval 0 23 v0 rfl rfl
  have k1 := hval 1 9 v1 rfl rfl
  obtain ⟨⟨d, l, t, g, b0, b1, b2, b3, b4, b5, b6, b7, b8, b9⟩, rfl, _⟩ := open_opts k0 h0
  obtain ⟨s, rfl, rfl, rfl, _⟩ := Go.ChangeMaps.open_string Tryd.underlying9 k1 h1
  exact spellBack_any d l t g b0 b1 b2 b3 b4 b5 b6 b7 b8 b9 s W (tabSw_of_laid hL).2 (tabSw_of_laid hL).1

set_option maxRecDepth 100000 in
theorem spellBack_lifted (os : Os) (started : os.Started) (H : Type) (enc : TypeId × Value → H) :
    ReturnsInHanded {} Tryd.checked os 8 .any (fun w args => (Rows.spellBackSpec.pre enc Tryd.prog Tryd.f8 [] false w args ∧ laidMetH Tryd.prog laidSw w) ∧ sizedMet enc Tryd.prog Tryd.f8 (OpenSpec.ofChange Rows.spellBackSpec) false w args)
      (Rows.spellBackSpec.post enc Tryd.prog Tryd.f8 false true false false) :=
  law_lifted started Rows.spellBackSpec 8 Tryd.f8 4 laidSw rfl (fun ds h => by rw [Tryd.params8] at h; match ds, h with | [d0, d1], _ => rfl) Tryd.func8 (by kernel_rfl) rfl Tryd.underlying4
    (fun t ht => by
      rw [Tryd.params8] at ht
      have hall : ([23, 9].all fun u => Tryd.prog.readableRec u && decide (u < Tryd.prog.types.size)) = true := by kernel_rfl
      have := List.all_eq_true.1 hall t (by simpa using ht)
      simpa using this)
    (ChangeSpec.witness_shaped (enc := enc) (C := Tryd.checked) (os := os) (X := fun w _ => laidMetH Tryd.prog laidSw w) false (World.doorLaid Tryd.prog 400 os) #[.agg #[.int .i64 0, .int .i64 0, .int .i64 0, .int .i64 0, .bool false, .bool false, .bool false, .bool false, .bool false, .bool false, .bool false, .bool false, .bool false, .bool false], .string ⟨#[]⟩] 8 rfl (door_shaped os _) (by kernel_rfl) (by kernel_rfl) (by kernel_rfl) (doorSw_met os _)) spellBack_walk

theorem spellBack_holds : Rows.SpellBackSaid :=
  OpenClaim.holds_of_wide 8 Tryd.f8 rfl rfl rfl rfl rfl rfl rfl ⟨rfl, rfl, rfl, rfl, rfl⟩ rfl rfl rfl rfl rfl (by kernel_rfl) Tryd.func8 (by kernel_rfl)
    (of_decide_eq_true (by kernel_rfl)) (by unfold Func.isWrapper; first | (rw [if_pos (by decide +kernel)]; kernel_rfl) | (rw [if_neg (by decide +kernel)]; exact ⟨rfl, rfl⟩))
    (fun os started H enc _ => spellBack_lifted os started H enc)
theorem spellBack_card : Rows.SpellBackCardSaid :=
  Claim7.holds_tied_plain_at .later [] [.data, .data] true (true, Rows.spellBackCard.stood.harness.2) false
    spellBack_holds (fun _ h => by cases h) (by kernel_rfl) (fun _ h => by cases h) spellBack_row_tie rfl ⟨rfl, rfl⟩ (by kernel_rfl) rfl
    (fun f fn hf hfn => by
      obtain rfl : f = 8 := Option.some.inj ((show Tryd.prog.funcNamed "naskh/naskhlaw11.SpellBack" = some 8 by kernel_rfl).symm.trans hf) |>.symm
      obtain rfl : fn = Tryd.f8 := (Option.some.inj (Tryd.func8.symm.trans hfn)).symm
      exact ⟨by kernel_rfl, fun j t ht => by
        rw [Tryd.params8] at ht
        have hm : t ∈ [23, 9] := by simpa using Array.mem_of_getElem? ht
        have hall : ([23, 9].all fun u => !Tryd.prog.wantsStandIn u) = true := by kernel_rfl
        exact (show Tryd.prog.wantsStandIn t = false by simpa using List.all_eq_true.1 hall t hm)⟩)
    (by kernel_rfl)
#print axioms spellBack_card
end Go.Proofs.YtcdogkabdhbjmaaDoor
