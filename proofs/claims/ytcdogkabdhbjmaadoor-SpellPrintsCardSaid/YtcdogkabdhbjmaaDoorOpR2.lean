/- The reference's in of options. -/
import Derived.Test.YtcdogkabdhbjmaaDoorOpP1
namespace Go.Proofs.YtcdogkabdhbjmaaDoor
open Go.RowKit

theorem refIn_y (n m : Int) (y : Bool) (hy : decide (0 ≤ n ∧ n ≤ m) = y) (w : World) : Calls Tryd.prog 32 #[.int .i64 n, .int .i64 m] w fun e w' => e = .returned (.bool y) ∧ w = w' := by
  have hc : (n < 0 ∧ y = false) ∨ (0 ≤ n ∧ m < n ∧ y = false) ∨ (0 ≤ n ∧ n ≤ m ∧ y = true) := by
    cases y with
    | false =>
      have h1 := of_decide_eq_false hy
      by_cases h : n < 0
      · exact .inl ⟨h, rfl⟩
      · exact .inr (.inl ⟨by omega, by omega, rfl⟩)
    | true => have h1 := of_decide_eq_true hy; exact .inr (.inr ⟨h1.1, h1.2, rfl⟩)
  clear hy
  rcases hc with ⟨h, hy⟩ | ⟨h, h', hy⟩ | ⟨h, h', hy⟩ <;> subst hy
  · go_enter Tryd.func32, Tryd.ntmps32
    go_wp2
    go_ret
    exact ⟨by simp <;> omega, rfl⟩
  · go_enter Tryd.func32, Tryd.ntmps32
    go_wp2
    go_ret
    exact ⟨by simp <;> omega, rfl⟩
  · go_enter Tryd.func32, Tryd.ntmps32
    go_wp2
    go_ret
    exact ⟨by simp <;> omega, rfl⟩
theorem odd_ref (d l t g : Int) (b0 b1 b2 b3 b4 b5 b6 b7 b8 b9 ltr gone : Bool) (hl : ((l != 0) || (t != 0) || b3 || b4 || b5) = ltr) (hg : ((t == 3) || (t == 4)) = gone) :
    Opt.odd ⟨d, l, t, g, b0, b1, b2, b3, b4, b5, b6, b7, b8, b9⟩ = ((ltr && !b1) || (b2 && (l == 0)) || (b3 && gone) || (b7 && !b6)) := by
  rw [← hl, ← hg]
  clear hl hg
  unfold Opt.odd
  simp only
  have e1 : decide (l ≠ 0) = (l != 0) := by by_cases h : l = 0 <;> simp [h]
  have e2 : decide (t ≠ 0) = (t != 0) := by by_cases h : t = 0 <;> simp [h]
  have e3 : (l == 0) = !(l != 0) := by show (l == 0) = !!(l == 0); rw [Bool.not_not]
  have e4 : decide (t = 3) = (t == 3) := by by_cases h : t = 3 <;> simp [h]
  have e5 : decide (t = 4) = (t == 4) := by by_cases h : t = 4 <;> simp [h]
  have e6 : decide (l = 0) = !(l != 0) := by by_cases h : l = 0 <;> simp [h]
  rw [e1, e2, e3, e4, e5, e6]
  generalize (l != 0) = x1
  generalize (t != 0) = x2
  generalize (t == 3) = x3
  generalize (t == 4) = x4
  revert x1 x2 x3 x4 b1 b2 b3 b4 b5 b6 b7
  decide
end Go.Proofs.YtcdogkabdhbjmaaDoor
