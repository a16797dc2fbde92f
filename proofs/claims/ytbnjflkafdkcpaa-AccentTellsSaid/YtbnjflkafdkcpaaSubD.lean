/- What lies within a span; paragraphs lie within the text. -/
import Derived.Test.YtbnjflkafdkcpaaPaD
namespace Go.Proofs.Ytbnjflkafdkcpaa
open Go.RowKit

/-- What lies within a span. -/
def subL (xs : List Int) (s : Sp) : List Int := (xs.take s.2.toNat).drop s.1.toNat
theorem parts_in : ∀ {l : List Sp} {e n : Int}, partsFrom e l n = true → 0 ≤ e → ∀ s ∈ l, e ≤ s.1 ∧ s.1 < s.2 ∧ s.2 ≤ n
  | [], _, _, _, _, s, hs => by cases hs
  | t :: l, e, n, h, he, s, hs => by
    simp only [partsFrom, Bool.and_eq_true, beq_iff_eq] at h
    obtain ⟨⟨h1, h2⟩, h3⟩ := h
    have hr := of_decide_eq_true h1
    rcases List.mem_cons.1 hs with rfl | hs
    · refine ⟨by omega, hr.2, ?_⟩
      have : ∀ {l : List Sp} {e n : Int}, partsFrom e l n = true → 0 ≤ e → e ≤ n := by
        intro l
        induction l with
        | nil => intro e n h _; simp only [partsFrom, beq_iff_eq] at h; omega
        | cons t l ih =>
          intro e n h he
          simp only [partsFrom, Bool.and_eq_true, beq_iff_eq] at h
          have hr := of_decide_eq_true h.1.1
          have := ih h.2 (by omega)
          omega
      exact this h3 (by omega)
    · have := parts_in h3 (by omega) s hs
      omega
theorem parL_in (xs : List Int) : ∀ s ∈ parL xs, 0 ≤ s.1 ∧ s.1 < s.2 ∧ s.2 ≤ xs.length := by
  intro s hs
  exact parts_in (parL_parts xs) (by omega) s hs
theorem sub_len {xs : List Int} {s : Sp} (h : 0 ≤ s.1 ∧ s.1 < s.2 ∧ s.2 ≤ xs.length) : ((subL xs s).length : Int) = s.2 - s.1 := by
  unfold subL
  rw [List.length_drop, List.length_take]
  omega
end Go.Proofs.Ytbnjflkafdkcpaa
