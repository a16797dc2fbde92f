/- The reference's Left, walked. -/
import Derived.Test.YtdgomaoikeffhaaExD
import Derived.Test.YtdgomaoikeffhaaMem3
namespace Go.Proofs.Ytdgomaoikeffhaa
open Go.RowKit

set_option maxRecDepth 100000 in
theorem rxLeft_any (x : Int) (w : World) : Calls Try.prog 45 #[.int .i64 x] w fun e w' => e = .returned (.bool (leftC x)) ∧ w = w' := by
  obtain ⟨v, hv⟩ : ∃ v, leftC x = v := ⟨_, rfl⟩
  rw [hv]
  have HV := Lib.hid hv
  clear hv
  by_cases h14 : 14 ≤ x
  · have d14 : decide ((14 : Int) ≤ x) = true := decide_eq_true h14
    by_cases h18 : x ≤ 18
    · have d18 : decide (x ≤ 18) = true := decide_eq_true h18
      obtain rfl : v = true := by rw [← HV.out]; unfold leftC; simp [h14, h18]
      go_enter Try.func45, Try.ntmps45
      go_wp2
      go_ret
      exact ⟨rfl, rfl⟩
    · have d18 : decide (x ≤ 18) = false := decide_eq_false h18
      have g9 : (x == 9) = false := by simp; omega
      obtain rfl : v = false := by rw [← HV.out]; unfold leftC; simp; omega
      go_enter Try.func45, Try.ntmps45
      go_wp2
      go_ret
      exact ⟨rfl, rfl⟩
  · have d14 : decide ((14 : Int) ≤ x) = false := decide_eq_false h14
    by_cases h9 : x = 9
    · subst h9
      obtain rfl : v = true := by rw [← HV.out]; decide
      go_enter Try.func45, Try.ntmps45
      go_wp2
      go_ret
      exact ⟨rfl, rfl⟩
    · have g9 : (x == 9) = false := by simp [h9]
      obtain rfl : v = false := by rw [← HV.out]; unfold leftC; simp [h14, h9]
      go_enter Try.func45, Try.ntmps45
      go_wp2
      go_ret
      exact ⟨rfl, rfl⟩
end Go.Proofs.Ytdgomaoikeffhaa
