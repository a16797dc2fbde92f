/- A pass that turns parts, with what stands ahead already turned. No function of the program. -/
import Derived.Test.YtbnjflkafdkcpaaRuD
namespace Go.Proofs.Ytbnjflkafdkcpaa
open Go.RowKit

/-- A pass at places, with what stands ahead already turned. -/
def tgF {α : Type} (b : Bool) (p : α → Bool) (a r : List α) : List α := if b = true then a ++ revR p [] r else a ++ r
theorem tg_run {α : Type} {b : Bool} {p : α → Bool} {a pre suf : List α} (h : ∀ x ∈ pre, p x = true) (hs : suf = [] ∨ ∃ y s, suf = y :: s ∧ p y = false) : tgF b p a (pre ++ suf) = tgF b p (a ++ (if b = true then pre.reverse else pre)) suf := by
  cases b with
  | false => simp [tgF]
  | true =>
    simp only [tgF, if_true]
    rw [revR_app _ _ _ h, List.append_nil, List.append_assoc]
    congr 1
    rcases hs with rfl | ⟨y, s, rfl, hy⟩
    · simp [revR]
    · rw [revR, revR, if_neg (by rw [hy]; decide), if_neg (by rw [hy]; decide)]
      rfl
theorem tg_skip {α : Type} {b : Bool} {p : α → Bool} {a s : List α} {y : α} (hy : p y = false) : tgF b p a (y :: s) = tgF b p (a ++ [y]) s := by
  cases b with
  | false => simp [tgF]
  | true =>
    simp only [tgF, if_true]
    rw [revR, if_neg (by rw [hy]; decide)]
    simp
theorem tg_end {α : Type} (b : Bool) (p : α → Bool) (a : List α) : tgF b p a [] = a := by
  cases b <;> simp [tgF, revR]
/-- Where the next part begins. -/
theorem tg_move {α : Type} {b : Bool} {p : α → Bool} {a B suf : List α} {la hi : Nat} (hla : a.length = la) (hh : la + B.length = hi) (hs : suf = [] ∨ ∃ y s, suf = y :: s ∧ p y = false) (hne : B = [] → suf ≠ []) :
    ∃ (a2 r2 : List α) (ml : Nat), a2 ++ r2 = a ++ B ++ suf ∧ a2.length = ml + 1 ∧ tgF b p (a ++ B) suf = tgF b p a2 r2 ∧ (if (la : Int) < (hi : Int) - 1 then (hi : Int) - 1 else (la : Int)) = (ml : Int) := by
  cases B with
  | nil =>
    rcases hs with rfl | ⟨y, s, rfl, hy⟩
    · exact absurd rfl (hne rfl)
    · refine ⟨a ++ [y], s, la, by simp, by simp [hla], ?_, ?_⟩
      · rw [tg_skip hy, List.append_nil]
      · simp at hh
        rw [if_neg (by omega)]
  | cons x B =>
    simp only [List.length_cons] at hh
    refine ⟨a ++ x :: B, suf, hi - 1, rfl, by simp; omega, rfl, ?_⟩
    split <;> omega
end Go.Proofs.Ytbnjflkafdkcpaa
