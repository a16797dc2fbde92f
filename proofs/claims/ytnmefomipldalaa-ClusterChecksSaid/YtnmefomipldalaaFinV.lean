/- Whether links cover what comes out: no matter in which order. No program in this text. -/
import Derived.Test.YtnmefomipldalaaFinF
namespace Go.Proofs.Ytnmefomipldalaa

theorem covGo_iff (m : Int) : ∀ (l : List Sp) (e : Int), LoSorted l → (∀ s ∈ l, s.1 < s.2 ∧ s.2 ≤ m) → e ≤ m → (covGo e l = some m ↔ ∀ j, e ≤ j → j < m → ∃ s ∈ l, s.1 ≤ j ∧ j < s.2)
  | [], e, _, _, he => by
    constructor
    · intro h j h1 h2
      injection h with h
      omega
    · intro h
      have : e = m := by
        rcases Int.lt_or_le e m with h1 | h1
        · obtain ⟨s, hs, _⟩ := h e (Int.le_refl _) h1
          cases hs
        · omega
      rw [covGo, this]
  | s :: l, e, hs, hr, he => by
    obtain ⟨h1, h2⟩ := List.pairwise_cons.1 hs
    have hss := hr s (List.mem_cons_self ..)
    rw [covGo]
    by_cases hlt : e < s.1
    · rw [if_pos hlt]
      constructor
      · intro h; exact absurd h (by simp)
      · intro h
        exfalso
        obtain ⟨t, ht, h3, h4⟩ := h e (Int.le_refl _) (by omega)
        rcases List.mem_cons.1 ht with rfl | ht
        · omega
        · have := h1 t ht
          omega
    · rw [if_neg hlt]
      have ih := covGo_iff m l (if e < s.2 then s.2 else e) h2 (fun t ht => hr t (List.mem_cons_of_mem _ ht)) (by split <;> omega)
      rw [ih]
      constructor
      · intro h j h3 h4
        by_cases h5 : j < s.2
        · exact ⟨s, List.mem_cons_self .., by omega, h5⟩
        · obtain ⟨t, ht, h6⟩ := h j (by split <;> omega) h4
          exact ⟨t, List.mem_cons_of_mem _ ht, h6⟩
      · intro h j h3 h4
        have h5 : e ≤ j ∧ s.2 ≤ j := by split at h3 <;> omega
        obtain ⟨t, ht, h6, h7⟩ := h j h5.1 h4
        rcases List.mem_cons.1 ht with rfl | ht
        · omega
        · exact ⟨t, ht, h6, h7⟩
/-- Any order by Lo tells the same: whether each place lies in a link's Out. -/
theorem covB_iff {m : Int} {l l' : List Sp} (hp : List.Perm l' l) (hs : LoSorted l') (hr : ∀ s ∈ l, s.1 < s.2 ∧ s.2 ≤ m) (hm : 0 ≤ m) : covB m l' = true ↔ ∀ j, 0 ≤ j → j < m → ∃ s ∈ l, s.1 ≤ j ∧ j < s.2 := by
  have h := covGo_iff m l' 0 hs (fun s hs' => hr s (hp.mem_iff.1 hs')) hm
  have h2 : (∀ j, 0 ≤ j → j < m → ∃ s ∈ l', s.1 ≤ j ∧ j < s.2) ↔ ∀ j, 0 ≤ j → j < m → ∃ s ∈ l, s.1 ≤ j ∧ j < s.2 := by
    constructor
    · intro h j h1 h2
      obtain ⟨s, hs', h3⟩ := h j h1 h2
      exact ⟨s, hp.mem_iff.1 hs', h3⟩
    · intro h j h1 h2
      obtain ⟨s, hs', h3⟩ := h j h1 h2
      exact ⟨s, hp.mem_iff.2 hs', h3⟩
  rw [← h2, ← h]
  unfold covB
  rcases covGo 0 l' with _ | e <;> simp
end Go.Proofs.Ytnmefomipldalaa
