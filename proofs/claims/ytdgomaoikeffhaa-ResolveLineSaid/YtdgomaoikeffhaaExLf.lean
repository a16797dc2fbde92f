/- explicit.Left, walked. -/
import Derived.Test.YtdgomaoikeffhaaMem
import Derived.Test.YtdgomaoikeffhaaExD
import Derived.WalkKit
namespace Go.Proofs.Ytdgomaoikeffhaa
open Go.RowKit

set_option maxRecDepth 100000 in
theorem exLeft_any (x : Int) (w : World) : Calls Try.prog 33 #[.int .i64 x] w fun e w' => e = .returned (.bool (leftC x)) ∧ w = w' := by
  have fin : ∀ (b : Bool), leftC x = b → (Calls Try.prog 33 #[.int .i64 x] w fun e w' => e = .returned (.bool b) ∧ w = w') → Calls Try.prog 33 #[.int .i64 x] w fun e w' => e = .returned (.bool (leftC x)) ∧ w = w' := fun b h h2 => by rw [h]; exact h2
  by_cases h14 : x = 14
  · subst h14; refine fin true (by decide) ?_; go_enter Try.func33, Try.ntmps33; go_wp2; go_ret; exact ⟨rfl, rfl⟩
  by_cases h15 : x = 15
  · subst h15; refine fin true (by decide) ?_; go_enter Try.func33, Try.ntmps33; go_wp2; go_ret; exact ⟨rfl, rfl⟩
  by_cases h16 : x = 16
  · subst h16; refine fin true (by decide) ?_; go_enter Try.func33, Try.ntmps33; go_wp2; go_ret; exact ⟨rfl, rfl⟩
  by_cases h17 : x = 17
  · subst h17; refine fin true (by decide) ?_; go_enter Try.func33, Try.ntmps33; go_wp2; go_ret; exact ⟨rfl, rfl⟩
  by_cases h18 : x = 18
  · subst h18; refine fin true (by decide) ?_; go_enter Try.func33, Try.ntmps33; go_wp2; go_ret; exact ⟨rfl, rfl⟩
  by_cases h9 : x = 9
  · subst h9; refine fin true (by decide) ?_; go_enter Try.func33, Try.ntmps33; go_wp2; go_ret; exact ⟨rfl, rfl⟩
  have g14 : (x == 14) = false := by simp [h14]
  have g15 : (x == 15) = false := by simp [h15]
  have g16 : (x == 16) = false := by simp [h16]
  have g17 : (x == 17) = false := by simp [h17]
  have g18 : (x == 18) = false := by simp [h18]
  have g9 : (x == 9) = false := by simp [h9]
  refine fin false ?_ ?_
  · unfold leftC
    simp only [Bool.or_eq_false_iff, Bool.and_eq_false_iff, decide_eq_false_iff_not]
    omega
  · clear h14 h15 h16 h17 h18 h9
    go_enter Try.func33, Try.ntmps33
    go_wp2
    go_ret
    exact ⟨rfl, rfl⟩
end Go.Proofs.Ytdgomaoikeffhaa
