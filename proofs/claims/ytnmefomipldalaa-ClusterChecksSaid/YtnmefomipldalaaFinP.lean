/- The finest map: places of one side in sets that lie side by side; sets made one. No program in this text. -/
import Derived.Test.YtnmefomipldalaaFinM
namespace Go.Proofs.Ytnmefomipldalaa

/-- n places in sets: r tells the first place of each place's set, e where the set of a first place ends. -/
structure Part (n : Nat) (r e : Nat → Nat) : Prop where
  le : ∀ i, i < n → r i ≤ i
  lt : ∀ i, i < n → i < e (r i)
  top : ∀ i, i < n → e (r i) ≤ n
  same : ∀ i j, i < n → r i ≤ j → j < e (r i) → r j = r i
theorem Part.start (n : Nat) : Part n id (· + 1) := ⟨fun _ _ => Nat.le_refl _, fun _ _ => Nat.lt_succ_self _, fun i h => h, fun i j _ h1 h2 => by
  simp only [id] at h1 h2 ⊢
  omega⟩
theorem Part.root {n : Nat} {r e : Nat → Nat} (h : Part n r e) {i : Nat} (hi : i < n) : r (r i) = r i :=
  h.same i (r i) hi (Nat.le_refl _) (Nat.lt_of_le_of_lt (h.le i hi) (h.lt i hi))
/-- Where a set ends, the next one begins. -/
theorem Part.next {n : Nat} {r e : Nat → Nat} (h : Part n r e) {p : Nat} (hp : r p = p) (hpn : p < n) (hq : e p < n) : r (e p) = e p := by
  have h1 := h.le (e p) hq
  rcases Nat.lt_or_ge (r (e p)) (e p) with hlt | hge
  · exfalso
    have h2 := h.lt p hpn
    rw [hp] at h2
    have h3 := h.lt (e p) hq
    have h4 := h.same (e p) (e p - 1) hq (by omega) (by omega)
    have h5 := h.same p (e p - 1) hpn (by rw [hp]; omega) (by rw [hp]; omega)
    rw [hp, h4] at h5
    rw [h5] at h3
    omega
  · omega
/-- Two sets made one: the one of p, and the one that begins where it ends. -/
def uniR (r e : Nat → Nat) (p : Nat) (i : Nat) : Nat := if e p ≤ i ∧ i < e (e p) then p else r i
def uniE (e : Nat → Nat) (p : Nat) (x : Nat) : Nat := if x = p then e (e p) else e x
theorem Part.unite {n : Nat} {r e : Nat → Nat} (h : Part n r e) {p : Nat} (hp : r p = p) (hpn : p < n) (hq : e p < n) : Part n (uniR r e p) (uniE e p) := by
  have hqr := h.next hp hpn hq
  have hlp := h.lt p hpn
  rw [hp] at hlp
  have hlq := h.lt (e p) hq
  rw [hqr] at hlq
  have htq := h.top (e p) hq
  rw [hqr] at htq
  -- a place of neither set keeps its root, which is not p
  have hout : ∀ i, i < n → ¬ (e p ≤ i ∧ i < e (e p)) → r i ≠ e p := fun i hi hno heq => by
    have h1 := h.le i hi
    have h2 := h.lt i hi
    rw [heq] at h1 h2
    exact hno ⟨h1, h2⟩
  have hin : ∀ j, p ≤ j → j < e p → r j = p := fun j h1 h2 => (h.same p j hpn (by rw [hp]; exact h1) (by rw [hp]; exact h2)).trans hp
  have hin2 : ∀ j, e p ≤ j → j < e (e p) → r j = e p := fun j h1 h2 => (h.same (e p) j hq (by rw [hqr]; exact h1) (by rw [hqr]; exact h2)).trans hqr
  refine ⟨fun i hi => ?_, fun i hi => ?_, fun i hi => ?_, fun i j hi h1 h2 => ?_⟩
  · unfold uniR
    split
    · omega
    · exact h.le i hi
  · unfold uniR
    split
    · rename_i hc
      unfold uniE
      rw [if_pos rfl]
      omega
    · rename_i hc
      have h3 := h.lt i hi
      unfold uniE
      split
      · rename_i hc2
        rw [hc2] at h3
        omega
      · exact h3
  · unfold uniR
    split
    · unfold uniE
      rw [if_pos rfl]
      exact htq
    · unfold uniE
      split
      · exact htq
      · exact h.top i hi
  · -- which set is i's, which j's
    by_cases hi2 : e p ≤ i ∧ i < e (e p)
    · have e1 : uniR r e p i = p := if_pos hi2
      rw [e1] at h1 h2 ⊢
      have e2 : uniE e p p = e (e p) := if_pos rfl
      rw [e2] at h2
      unfold uniR
      split
      · rfl
      · rename_i hno
        exact hin j h1 (by omega)
    · have e1 : uniR r e p i = r i := if_neg hi2
      rw [e1] at h1 h2 ⊢
      by_cases hrp : r i = p
      · rw [hrp] at h1 h2 ⊢
        have e2 : uniE e p p = e (e p) := if_pos rfl
        rw [e2] at h2
        unfold uniR
        split
        · rfl
        · exact hin j h1 (by omega)
      · have e2 : uniE e p (r i) = e (r i) := if_neg hrp
        rw [e2] at h2
        have h3 := h.same i j hi h1 h2
        unfold uniR
        split
        · rename_i hc
          exfalso
          have h4 := hin2 j hc.1 hc.2
          exact hout i hi hi2 (h3.symm.trans h4)
        · exact h3
/-- Roots of the sets behind. -/
theorem uniR_root {n : Nat} {r e : Nat → Nat} (h : Part n r e) {p : Nat} (hp : r p = p) (hpn : p < n) : uniR r e p p = p := by
  have hlp := h.lt p hpn
  rw [hp] at hlp
  unfold uniR
  rw [if_neg (by omega), hp]
end Go.Proofs.Ytnmefomipldalaa
