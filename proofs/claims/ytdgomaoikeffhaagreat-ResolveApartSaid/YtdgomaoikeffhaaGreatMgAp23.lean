/- Texts of one claim, one behind the other. -/
import Derived.Laws.EntriesVeiled
import Derived.Shelf.Abstract
import Derived.Test.YtdgomaoikeffhaaGreatMgAp22
/- para's Level, walked. -/
namespace Go.Proofs.YtdgomaoikeffhaaGreat
open Go.RowKit

set_option maxRecDepth 100000 in
set_option maxHeartbeats 1000000 in
theorem prLevel_any (A : Option Addr) (n c : Nat) (xs : List Int) (d : Int) (w : World) (hr : Rd w 1 A n (xs.map (Value.int .i64))) (hn : n ≤ 1000000) (hnc : n ≤ c) :
    Calls Tryz.prog 23 #[.slice A n c, .int .i64 d] w fun e w' => e = .returned (.int .i64 (levelF xs d)) ∧ Below w.heap.size w w' := by
  have hbn := below_new w (.cells #[.slice A n c] 22)
  have c0 : (w.alloc (.cells #[.slice A n c] 22)).cell? ⟨w.heap.size, 0, none⟩ = some (.slice A n c) := by rw [World.cell?_alloc_at _ _ _ _ rfl]; rfl
  have eg : ∀ args w, (callFunc 35 args).run Tryz.prog w = .ok (.enter 35 args) w := enters_of Tryz.func35 (by kernel_rfl) rfl
  have HC := Lib.hid (fun o => prLevel1_any A n c w.heap.size xs o _ (hr.below hbn) hn hnc c0)
  have HB := Lib.hid hbn
  have EG := Lib.hid eg
  clear hr hbn c0 eg
  by_cases h1 : d = 1
  · subst h1
    rw [show levelF xs 1 = 1 by unfold levelF; rw [if_pos rfl]]
    go_enter Tryz.func23, Tryz.ntmps23
    go_wp2
    go_ret
    exact ⟨rfl, HB.out⟩
  · have g1 : (d == 1) = false := by simp [h1]
    by_cases h2 : d = 2
    · subst h2
      have HC0 := Lib.hid (HC.out 0)
      obtain ⟨v, hv⟩ : ∃ v, (if fstF xs 0 = -1 then (0 : Int) else fstF xs 0) = v := ⟨_, rfl⟩
      rw [hv] at HC0
      rw [show levelF xs 2 = v by rw [← hv]; unfold levelF; rw [if_neg (by decide), if_pos rfl]]
      clear h1 g1 hv
      have eg := EG.out
      go_enter Tryz.func23, Tryz.ntmps23
      go_wp2_with (first | (go_at_fn 35; with_reducible refine HC0.out.mono ?_; rintro e w1 ⟨rfl, hb1⟩; have hb2 := below_self HB.out hb1) | fail)
      go_ret
      exact ⟨rfl, hb2⟩
    · have g2 : (d == 2) = false := by simp [h2]
      by_cases h3 : d = 3
      · subst h3
        have HC0 := Lib.hid (HC.out 1)
        obtain ⟨v, hv⟩ : ∃ v, (if fstF xs 0 = -1 then (1 : Int) else fstF xs 0) = v := ⟨_, rfl⟩
        rw [hv] at HC0
        rw [show levelF xs 3 = v by rw [← hv]; unfold levelF; rw [if_neg (by decide), if_neg (by decide), if_pos rfl]]
        clear h1 h2 g1 g2 hv
        have eg := EG.out
        go_enter Tryz.func23, Tryz.ntmps23
        go_wp2_with (first | (go_at_fn 35; with_reducible refine HC0.out.mono ?_; rintro e w1 ⟨rfl, hb1⟩; have hb2 := below_self HB.out hb1) | fail)
        go_ret
        exact ⟨rfl, hb2⟩
      · have g3 : (d == 3) = false := by simp [h3]
        rw [show levelF xs d = 0 by unfold levelF; rw [if_neg h1, if_neg h2, if_neg h3]]
        clear h1 h2 h3
        go_enter Tryz.func23, Tryz.ntmps23
        go_wp2
        go_ret
        exact ⟨rfl, HB.out⟩
end Go.Proofs.YtdgomaoikeffhaaGreat
