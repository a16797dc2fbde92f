/- A stack of places as a row: the first one first; a row's head. No function of the program. -/
import Derived.Test.YtbnjflkafdkcpaaMem2
namespace Go.Proofs.Ytbnjflkafdkcpaa
open Go.RowKit

def intV (x : Int) : Value := .int .i64 x
theorem intSliceM : SliceOf Try.prog 22 3 1 8 := .mk_ (z := .int .i64 0) Try.underlying22 (by kernel_rfl) rfl
/-- The stack, as the program lays it: the first one first. -/
def stkL (s : List Nat) : List Int := s.reverse.map fun i => ((i : Nat) : Int)
theorem stkL_len (s : List Nat) : (stkL s).length = s.length := by simp [stkL]
theorem stkL_push (k : Nat) (s : List Nat) : stkL (k :: s) = stkL s ++ [((k : Nat) : Int)] := by simp [stkL]
theorem stkL_top (t : Nat) (r : List Nat) : (stkL (t :: r))[r.length]? = some ((t : Nat) : Int) := by
  rw [stkL_push, List.getElem?_append_right (by rw [stkL_len]; exact Nat.le_refl _), stkL_len, Nat.sub_self]
  rfl
theorem stkL_take (t : Nat) (r : List Nat) : (stkL (t :: r)).take r.length = stkL r := by
  rw [stkL_push, List.take_append_of_le_length (by rw [stkL_len]; exact Nat.le_refl _), ← stkL_len, List.take_length]
theorem headM {w : World} {base : Nat} {e : TypeId} {size g n m cap : Nat} {xs : List Value} (h : w.ownsRow base e size (.slice (some ⟨g, 0, none⟩) n cap) n xs) (hm : m ≤ n) : w.ownsRow base e size (.slice (some ⟨g, 0, none⟩) m cap) m (xs.take (m * size)) := by
  obtain ⟨h1, h2⟩ := h
  refine ⟨by rw [List.length_take, h1]; exact Nat.min_eq_left (Nat.mul_le_mul_right _ hm), ?_⟩
  rcases h2 with ⟨h', _⟩ | ⟨g', cap', cur, h', hb, hg, hnc, hcm, hcs, htake⟩
  · simp at h'
  · simp only [Value.slice.injEq, Option.some.injEq, Addr.mk.injEq, and_true, true_and] at h'
    obtain ⟨rfl, rfl⟩ := h'
    refine .inr ⟨g, cap, cur, rfl, hb, hg, Nat.le_trans hm hnc, hcm, hcs, ?_⟩
    rw [← htake, List.take_take, Nat.min_eq_left (Nat.mul_le_mul_right _ hm)]
end Go.Proofs.Ytbnjflkafdkcpaa
