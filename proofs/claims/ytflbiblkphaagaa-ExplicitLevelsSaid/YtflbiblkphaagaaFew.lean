/- How great the counts of a stack are. No function of the program. -/
import Derived.Test.YtflbiblkphaagaaStkD
namespace Go.Proofs.Ytflbiblkphaagaa
open Go.RowKit

/-- No count is above m. -/
def Few (s : Stk) (m : Nat) : Prop := s.a ≤ m ∧ s.b ≤ m ∧ s.c ≤ m
theorem few_emb {s : Stk} {m : Nat} (h : Few s m) (r : Bool) (o : Int) : Few (embS s r o).2 (m + 1) := by
  obtain ⟨h1, h2, h3⟩ := h
  unfold Few
  cases hr : roomS s r with
  | true => rw [emb_room hr]; exact ⟨by simp only; omega, by simp only; omega, by simp only; omega⟩
  | false =>
    rw [emb_no hr]
    simp only
    split
    · exact ⟨by simp only; omega, by simp only; omega, by simp only; omega⟩
    · omega
theorem few_iso {s : Stk} {m : Nat} (h : Few s m) (r : Bool) : Few (isoS s r).2 (m + 1) := by
  obtain ⟨h1, h2, h3⟩ := h
  unfold Few
  cases hr : roomS s r with
  | true => rw [iso_room hr]; exact ⟨by simp only; omega, by simp only; omega, by simp only; omega⟩
  | false => rw [iso_no hr]; exact ⟨by simp only; omega, by simp only; omega, by simp only; omega⟩
theorem few_endE {s : Stk} {m : Nat} (h : Few s m) : Few (endES s) m := by
  obtain ⟨h1, h2, h3⟩ := h
  unfold Few endES popS
  repeat' split
  all_goals exact ⟨by (first | (simp only; omega) | omega), by (first | (simp only; omega) | omega), by (first | (simp only; omega) | omega)⟩
theorem few_endI {s : Stk} {m : Nat} (h : Few s m) : Few (endIS s) m := by
  obtain ⟨h1, h2, h3⟩ := h
  unfold Few endIS
  repeat' split
  all_goals exact ⟨by (first | (simp only; omega) | omega), by (first | (simp only; omega) | omega), by (first | (simp only; omega) | omega)⟩
theorem Few.up {s : Stk} {m n : Nat} (h : Few s m) (hn : m ≤ n) : Few s n := ⟨Nat.le_trans h.1 hn, Nat.le_trans h.2.1 hn, Nat.le_trans h.2.2 hn⟩
end Go.Proofs.Ytflbiblkphaagaa
