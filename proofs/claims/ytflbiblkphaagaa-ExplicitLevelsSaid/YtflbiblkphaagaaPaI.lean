/- para's isolates, naskhref20's Opens. -/
import Derived.Test.YtflbiblkphaagaaPaD
namespace Go.Proofs.Ytflbiblkphaagaa
open Go.RowKit

theorem opB_cases (c : Int) : (c = 19 ∧ opB c = true) ∨ (c = 20 ∧ opB c = true) ∨ (c = 21 ∧ opB c = true) ∨ (c ≠ 19 ∧ c ≠ 20 ∧ c ≠ 21 ∧ opB c = false) := by
  by_cases h1 : c = 19
  · exact .inl ⟨h1, (opB_iff c).2 (.inl h1)⟩
  by_cases h2 : c = 20
  · exact .inr (.inl ⟨h2, (opB_iff c).2 (.inr (.inl h2))⟩)
  by_cases h3 : c = 21
  · exact .inr (.inr (.inl ⟨h3, (opB_iff c).2 (.inr (.inr h3))⟩))
  refine .inr (.inr (.inr ⟨h1, h2, h3, ?_⟩))
  rw [Bool.eq_false_iff]
  intro h
  rw [opB_iff] at h
  omega
theorem prIso_of (c : Int) (v : Bool) (hv : opB c = v) (w : World) : Calls Try.prog 52 #[.int .i64 c] w fun e w' => e = .returned (.bool v) ∧ w = w' := by
  subst hv
  rcases opB_cases c with ⟨rfl, h⟩ | ⟨rfl, h⟩ | ⟨rfl, h⟩ | ⟨h1, h2, h3, h⟩
  iterate 3
    · rw [h]
      clear h
      go_enter Try.func52, Try.ntmps52
      go_wp2
      go_ret
      exact ⟨rfl, rfl⟩
  · rw [h]
    have g1 : (c == 19) = false := by simp [h1]
    have g2 : (c == 20) = false := by simp [h2]
    have g3 : (c == 21) = false := by simp [h3]
    clear h h1 h2 h3
    go_enter Try.func52, Try.ntmps52
    go_wp2
    go_ret
    exact ⟨rfl, rfl⟩
theorem rfOpens_of (c : Int) (v : Bool) (hv : opB c = v) (w : World) : Calls Try.prog 34 #[.int .i64 c] w fun e w' => e = .returned (.bool v) ∧ w = w' := by
  subst hv
  rcases opB_cases c with ⟨rfl, h⟩ | ⟨rfl, h⟩ | ⟨rfl, h⟩ | ⟨h1, h2, h3, h⟩
  iterate 3
    · rw [h]
      clear h
      go_enter Try.func34, Try.ntmps34
      go_wp2
      go_ret
      exact ⟨rfl, rfl⟩
  · rw [h]
    have g1 : (c == 19) = false := by simp [h1]
    have g2 : (c == 20) = false := by simp [h2]
    have g3 : (c == 21) = false := by simp [h3]
    clear h h1 h2 h3
    go_enter Try.func34, Try.ntmps34
    go_wp2
    go_ret
    exact ⟨rfl, rfl⟩
end Go.Proofs.Ytflbiblkphaagaa
