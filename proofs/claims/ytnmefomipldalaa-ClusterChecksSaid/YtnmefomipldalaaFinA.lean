/- The finest map of two crossed links: themselves. No program in this text. -/
import Derived.Test.YtnmefomipldalaaFinE
namespace Go.Proofs.Ytnmefomipldalaa

def crossK : List NC := [⟨0, 1, 1, 2⟩, ⟨1, 2, 0, 1⟩]
theorem cross_mem {x : NC} (h : x ∈ crossK) : x = ⟨0, 1, 1, 2⟩ ∨ x = ⟨1, 2, 0, 1⟩ := by simpa [crossK] using h
theorem cross_has {x : NC} (hx : x ∈ crossK) {s : Bool} {j : Nat} (h : x.has (s, j)) : (s = false ∧ x.a = j ∧ (j = 0 ∨ j = 1) ∧ x.c = 1 - j) ∨ (s = true ∧ x.c = j ∧ (j = 0 ∨ j = 1) ∧ x.a = 1 - j) := by
  rcases cross_mem hx with rfl | rfl
  · cases s with
    | false => have h' : 0 ≤ j ∧ j < 1 := h; left; simp; omega
    | true => have h' : 1 ≤ j ∧ j < 2 := h; right; simp; omega
  · cases s with
    | false => have h' : 1 ≤ j ∧ j < 2 := h; left; simp; omega
    | true => have h' : 0 ≤ j ∧ j < 1 := h; right; simp; omega
theorem cross_same {x y : NC} (hx : x ∈ crossK) (hy : y ∈ crossK) (h : x.a = y.a) : x = y := by
  rcases cross_mem hx with rfl | rfl <;> rcases cross_mem hy with rfl | rfl <;> first | rfl | (exfalso; simp at h)
theorem cross_one {x y : NC} (hx : x ∈ crossK) (hy : y ∈ crossK) {q : Pl} (h : x.has q) (k : y.has q) : x = y := by
  obtain ⟨s, j⟩ := q
  refine cross_same hx hy ?_
  rcases cross_has hx h with ⟨e, a1, a2, a3⟩ | ⟨e, a1, a2, a3⟩ <;> rcases cross_has hy k with ⟨e', b1, b2, b3⟩ | ⟨e', b1, b2, b3⟩
  · omega
  · rw [e] at e'; exact absurd e' (by simp)
  · rw [e] at e'; exact absurd e' (by simp)
  · omega
theorem cross_finest : Finest (crossK ++ fillsOf 2 crossK) 0 2 2 crossK := by
  obtain ⟨hf, hr⟩ := fills_of (n := 2) (m := 2) (K := crossK) (fun x hx => by rcases cross_mem hx with rfl | rfl <;> simp [NC.real])
  refine ⟨⟨rfl, by simp, rfl, by simp, rfl⟩, fun x hx => by rcases cross_mem hx with rfl | rfl <;> simp, fun i _ hi q hq => ⟨fun ht => ?_, ?_⟩⟩
  · have hS := Tog.least (S := fun p q => p = q ∨ ∃ x ∈ crossK, x.has p ∧ x.has q) (fun p => .inl rfl) (fun p q h => ?_) (fun p q r h h' => ?_) (fun x hx p q hp hq => ?_) (fun s i k j h1 h2 h => ?_) ht
    · rcases hS with rfl | h
      · have hc : i = 0 ∨ i = 1 := by omega
        rcases hc with rfl | rfl
        · exact ⟨⟨0, 1, 1, 2⟩, by simp [crossK], (show 0 ≤ 0 ∧ 0 < 1 by omega), (show 0 ≤ 0 ∧ 0 < 1 by omega)⟩
        · exact ⟨⟨1, 2, 0, 1⟩, by simp [crossK], (show 1 ≤ 1 ∧ 1 < 2 by omega), (show 1 ≤ 1 ∧ 1 < 2 by omega)⟩
      · exact h
    · rcases h with h | ⟨x, h1, h2, h3⟩
      · exact .inl h.symm
      · exact .inr ⟨x, h1, h3, h2⟩
    · rcases h with rfl | ⟨x, h1, h2, h3⟩
      · exact h'
      · rcases h' with rfl | ⟨y, h4, h5, h6⟩
        · exact .inr ⟨x, h1, h2, h3⟩
        · obtain rfl := cross_one h1 h4 h3 h5
          exact .inr ⟨x, h1, h2, h6⟩
    · by_cases hxr : x.real
      · exact .inr ⟨x, hr x hx hxr, hp, hq⟩
      · rcases hf.each x hx hxr with ⟨t, t1, t2, t3, rfl⟩ | ⟨t, t1, t2, rfl⟩
        · exfalso
          have ht1 : t = 1 := by omega
          exact t3 ⟨1, 2, 0, 1⟩ (List.mem_append_left _ (by simp [crossK])) (by simp [NC.real]) (by subst ht1; simp)
        · have h0 := t2.2 ⟨0, 1, 1, 2⟩ (List.mem_append_left _ (by simp [crossK])) (by simp [NC.real])
          have h0' : t = 0 := Nat.le_zero.1 h0
          subst h0'
          left
          obtain ⟨s, j⟩ := p
          obtain ⟨s', j'⟩ := q
          cases s with
          | true => have h9 : 0 ≤ j ∧ j < 0 := hp; omega
          | false =>
            cases s' with
            | true => have h9 : 0 ≤ j' ∧ j' < 0 := hq; omega
            | false =>
              have h8 : 0 ≤ j ∧ j < 0 + 1 := hp
              have h9 : 0 ≤ j' ∧ j' < 0 + 1 := hq
              rw [show j = j' by omega]
    · rcases h with h | ⟨x, hx, h3, h4⟩
      · injection h with _ h
        left
        rw [show i = k by omega]
      · right
        refine ⟨x, hx, h3, ?_⟩
        rcases cross_mem hx with rfl | rfl
        · cases s with
          | false => have a1 : 0 ≤ i ∧ i < 1 := h3; have a2 : 0 ≤ j ∧ j < 1 := h4; show 0 ≤ k ∧ k < 1; omega
          | true => have a1 : 1 ≤ i ∧ i < 2 := h3; have a2 : 1 ≤ j ∧ j < 2 := h4; show 1 ≤ k ∧ k < 2; omega
        · cases s with
          | false => have a1 : 1 ≤ i ∧ i < 2 := h3; have a2 : 1 ≤ j ∧ j < 2 := h4; show 1 ≤ k ∧ k < 2; omega
          | true => have a1 : 0 ≤ i ∧ i < 1 := h3; have a2 : 0 ≤ j ∧ j < 1 := h4; show 0 ≤ k ∧ k < 1; omega
  · rintro ⟨x, hx, h1, h2⟩
    exact .link x _ _ (List.mem_append_left _ hx) h1 h2
end Go.Proofs.Ytnmefomipldalaa
