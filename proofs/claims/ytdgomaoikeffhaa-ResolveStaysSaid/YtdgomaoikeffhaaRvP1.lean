/- resolve's within and atEnd, walked. -/
import Derived.Test.YtdgomaoikeffhaaRvD
import Derived.Test.YtdgomaoikeffhaaExLf
import Derived.Test.YtdgomaoikeffhaaMem3
import Derived.BigQuiet
namespace Go.Proofs.Ytdgomaoikeffhaa
open Go.RowKit

theorem endK_left (c : Int) (h1 : c ≠ 12) (h2 : c ≠ 19) (h3 : c ≠ 20) (h4 : c ≠ 21) (h5 : c ≠ 22) (h6 : c ≠ 11) (h7 : c ≠ 10) : endK c = if leftC c = true then 1 else 0 := by
  have : blkB c = leftC c := by
    rw [Bool.eq_iff_iff]
    simp [blkB, leftC]
    omega
  rw [endK, if_neg (by omega), this]
set_option maxRecDepth 100000 in
theorem rvEnd_any (c : Int) (w : World) : Calls Try.prog 23 #[.int .i64 c] w fun e w' => e = .returned (.int .i64 (endK c)) ∧ w = w' := by
  by_cases h : c = 11 ∨ c = 10 ∨ c = 12 ∨ c = 19 ∨ c = 20 ∨ c = 21 ∨ c = 22
  · have one : ∀ v, endK c = v → (Calls Try.prog 23 #[.int .i64 c] w fun e w' => e = .returned (.int .i64 v) ∧ w = w') → Calls Try.prog 23 #[.int .i64 c] w fun e w' => e = .returned (.int .i64 (endK c)) ∧ w = w' := fun v h h2 => by rw [h]; exact h2
    rcases h with rfl | rfl | h
    · refine one 2 rfl ?_
      go_enter Try.func23, Try.ntmps23
      go_wp2
      go_ret
      exact ⟨rfl, rfl⟩
    · refine one 2 rfl ?_
      go_enter Try.func23, Try.ntmps23
      go_wp2
      go_ret
      exact ⟨rfl, rfl⟩
    · rcases h with rfl | rfl | rfl | rfl | rfl
      all_goals
        refine one 1 rfl ?_
        go_enter Try.func23, Try.ntmps23
        go_wp2
        go_ret
        exact ⟨rfl, rfl⟩
  · have h6 : ¬ c = 11 := fun e => h (by omega)
    have h7 : ¬ c = 10 := fun e => h (by omega)
    have h1 : ¬ c = 12 := fun e => h (by omega)
    have h2 : ¬ c = 19 := fun e => h (by omega)
    have h3 : ¬ c = 20 := fun e => h (by omega)
    have h4 : ¬ c = 21 := fun e => h (by omega)
    have h5 : ¬ c = 22 := fun e => h (by omega)
    have HL := Lib.hid (exLeft_any c w)
    rw [endK_left c h1 h2 h3 h4 h5 h6 h7]
    have g6 : (c == 11) = false := by simp [h6]
    have g7 : (c == 10) = false := by simp [h7]
    have g1 : (c == 12) = false := by simp [h1]
    have g2 : (c == 19) = false := by simp [h2]
    have g3 : (c == 20) = false := by simp [h3]
    have g4 : (c == 21) = false := by simp [h4]
    have g5 : (c == 22) = false := by simp [h5]
    clear h h1 h2 h3 h4 h5 h6 h7
    cases hv : leftC c with
    | true =>
      rw [hv] at HL
      clear hv
      go_enter Try.func23, Try.ntmps23
      go_wp2_with (first
        | (go_at_call 33; refine HL.out.mono ?_; rintro e w1 ⟨rfl, rfl⟩)
        | fail)
      go_ret
      exact ⟨rfl, rfl⟩
    | false =>
      rw [hv] at HL
      clear hv
      go_enter Try.func23, Try.ntmps23
      go_wp2_with (first
        | (go_at_call 33; refine HL.out.mono ?_; rintro e w1 ⟨rfl, rfl⟩)
        | fail)
      go_ret
      exact ⟨rfl, rfl⟩
/-- A span lies within n places. -/
def withB (x y : Int) (n : Nat) : Bool := decide (0 ≤ x) && decide (x < y) && decide (y ≤ (n : Int))
set_option maxRecDepth 100000 in
theorem rvWithin_any (x y : Int) (n : Nat) (w : World) (hn : n ≤ 1000000) :
    Calls Try.prog 20 #[.agg #[.int .i64 x, .int .i64 y], .int .i64 (n : Int)] w fun e w' => e = .returned (.bool (withB x y n)) ∧ Below w.heap.size w w' := by
  have hb := below_new w (.cells #[.int .i64 x, .int .i64 y] 24)
  have one : ∀ v, withB x y n = v → (Calls Try.prog 20 #[.agg #[.int .i64 x, .int .i64 y], .int .i64 (n : Int)] w fun e w' => e = .returned (.bool v) ∧ Below w.heap.size w w') → Calls Try.prog 20 #[.agg #[.int .i64 x, .int .i64 y], .int .i64 (n : Int)] w fun e w' => e = .returned (.bool (withB x y n)) ∧ Below w.heap.size w w' := fun v h h2 => by rw [h]; exact h2
  by_cases h0 : 0 ≤ x
  · by_cases h1 : x < y
    · by_cases h2 : y ≤ (n : Int)
      · have d0 : decide (0 ≤ x) = true := decide_eq_true h0
        have d1 : decide (x < y) = true := decide_eq_true h1
        have d2 : decide (y ≤ (n : Int)) = true := decide_eq_true h2
        refine one true (by unfold withB; rw [d0, d1, d2]; rfl) ?_
        go_enter Try.func20, Try.ntmps20
        go_wp2
        go_ret
        exact ⟨rfl, hb⟩
      · have d0 : decide (0 ≤ x) = true := decide_eq_true h0
        have d1 : decide (x < y) = true := decide_eq_true h1
        have d2 : decide (y ≤ (n : Int)) = false := decide_eq_false h2
        refine one false (by unfold withB; rw [d0, d1, d2]; rfl) ?_
        go_enter Try.func20, Try.ntmps20
        go_wp2
        go_ret
        exact ⟨rfl, hb⟩
    · have d0 : decide (0 ≤ x) = true := decide_eq_true h0
      have d1 : decide (x < y) = false := decide_eq_false h1
      refine one false (by unfold withB; rw [d0, d1]; rfl) ?_
      go_enter Try.func20, Try.ntmps20
      go_wp2
      go_ret
      exact ⟨rfl, hb⟩
  · have d0 : decide (0 ≤ x) = false := decide_eq_false h0
    refine one false (by unfold withB; rw [d0]; rfl) ?_
    go_enter Try.func20, Try.ntmps20
    go_wp2
    go_ret
    exact ⟨rfl, hb⟩
end Go.Proofs.Ytdgomaoikeffhaa
