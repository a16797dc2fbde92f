/- The runs of levels as mathematics: they are parts, neighbours have unlike levels. No function of the program. -/
import Derived.Test.YtaiefneimjdmhaaRgD
namespace Go.Proofs.Ytaiefneimjdmhaa
open Go.RowKit

/-- Runs with one more level behind them. -/
def stepR (R : List Rg) (i : Nat) (x : Int) : List Rg := match R.getLast? with
  | some r => if r.2.2 = x then R.dropLast ++ [(r.1, (i : Int) + 1, x)] else R ++ [((i : Int), (i : Int) + 1, x)]
  | none => R ++ [((i : Int), (i : Int) + 1, x)]
def logR (ls : List Int) : Nat → List Rg
  | 0 => []
  | k + 1 => stepR (logR ls k) k (ls.getD k 0)
theorem stepR_len (R : List Rg) (i : Nat) (x : Int) : (stepR R i x).length ≤ R.length + 1 := by
  unfold stepR
  split
  · split
    · simp
    · simp
  · simp
theorem logR_len (ls : List Int) : ∀ k, (logR ls k).length ≤ k
  | 0 => Nat.le_refl 0
  | k + 1 => by
    have := logR_len ls k
    have := stepR_len (logR ls k) k (ls.getD k 0)
    rw [logR]
    omega
theorem stepR_nil (i : Nat) (x : Int) : stepR [] i x = [((i : Int), (i : Int) + 1, x)] := rfl
theorem stepR_same (R : List Rg) (a b : Int) (i : Nat) (x : Int) : stepR (R ++ [(a, b, x)]) i x = R ++ [(a, (i : Int) + 1, x)] := by
  unfold stepR
  simp
theorem stepR_new (R : List Rg) (a b c : Int) (i : Nat) (x : Int) (h : c ≠ x) : stepR (R ++ [(a, b, c)]) i x = R ++ [(a, b, c)] ++ [((i : Int), (i : Int) + 1, x)] := by
  unfold stepR
  simp [h]
theorem parts_snoc (s : Sp) (n : Int) : ∀ (l : List Sp) (e : Int), partsFrom e l s.1 = true → rightB s = true → s.2 = n → partsFrom e (l ++ [s]) n = true
  | [], e, h, h1, h2 => by
    have h : e = s.1 := by simpa [partsFrom] using h
    simp [partsFrom, h1, h2, h]
  | t :: l, e, h, h1, h2 => by
    simp only [partsFrom, Bool.and_eq_true] at h
    rw [List.cons_append]
    simp only [partsFrom, Bool.and_eq_true]
    exact ⟨h.1, parts_snoc s n l t.2 h.2 h1 h2⟩
theorem parts_last (s : Sp) (n : Int) : ∀ (l : List Sp) (e : Int), partsFrom e (l ++ [s]) n = true → partsFrom e l s.1 = true ∧ rightB s = true ∧ s.2 = n
  | [], e, h => by
    simp only [List.nil_append, partsFrom, Bool.and_eq_true, beq_iff_eq] at h
    exact ⟨by simp [partsFrom, h.1.2], h.1.1, h.2⟩
  | t :: l, e, h => by
    rw [List.cons_append] at h
    simp only [partsFrom, Bool.and_eq_true] at h
    obtain ⟨h1, h2, h3⟩ := parts_last s n l t.2 h.2
    exact ⟨by simp only [partsFrom, Bool.and_eq_true]; exact ⟨h.1, h1⟩, h2, h3⟩
/-- What holds of the runs of the first places. -/
structure LogOk (ls : List Int) (R : List Rg) (k : Nat) : Prop where
  parts : partsFrom 0 (R.map fun r => (r.1, r.2.1)) k = true
  unlike : ∀ (i : Nat) (r s : Rg), R[i]? = some r → R[i + 1]? = some s → r.2.2 ≠ s.2.2
  lev : ∀ r ∈ R, ∀ i : Nat, r.1 ≤ i → (i : Int) < r.2.1 → ls.getD i 0 = r.2.2
theorem LogOk.nil (ls : List Int) : LogOk ls [] 0 := ⟨rfl, by simp, by simp⟩
theorem LogOk.step {ls : List Int} {R : List Rg} {k : Nat} (h : LogOk ls R k) : LogOk ls (stepR R k (ls.getD k 0)) (k + 1) := by
  obtain ⟨x, hx⟩ : ∃ x, ls.getD k 0 = x := ⟨_, rfl⟩
  rw [hx]
  rcases List.eq_nil_or_concat R with rfl | ⟨R0, ⟨a, b, e⟩, rfl⟩
  · rw [stepR_nil]
    have hk : k = 0 := by
      have := h.parts
      simp [partsFrom] at this
      omega
    subst hk
    refine ⟨rfl, ?_, ?_⟩
    · intro i r s h1 h2
      simp at h2
    · intro r hr i h1 h2
      simp at hr
      subst hr
      simp at h1 h2
      obtain rfl : i = 0 := by omega
      exact hx
  · rw [List.concat_eq_append] at h ⊢
    have hp := h.parts
    rw [List.map_append] at hp
    obtain ⟨p1, p2, p3⟩ := parts_last (a, b) k _ 0 hp
    simp only at p1 p3
    have hr : 0 ≤ a ∧ a < b := by simpa [rightB] using p2
    by_cases hxe : e = x
    · subst hxe
      rw [stepR_same]
      refine ⟨?_, ?_, ?_⟩
      · rw [List.map_append]
        exact parts_snoc (a, (k : Int) + 1) _ _ 0 p1 (by simp [rightB]; omega) rfl
      · intro i r s h1 h2
        have hl := (List.getElem?_eq_some_iff.1 h2).1
        rw [List.length_append, List.length_singleton] at hl
        rw [List.getElem?_append_left (by omega)] at h1
        by_cases hi : i + 1 < R0.length
        · rw [List.getElem?_append_left hi] at h2
          exact h.unlike i r s (by rw [List.getElem?_append_left (by omega)]; exact h1) (by rw [List.getElem?_append_left hi]; exact h2)
        · rw [List.getElem?_append_right (by omega), show i + 1 - R0.length = 0 by omega] at h2
          obtain rfl := Option.some.inj h2
          exact h.unlike i r (a, b, e) (by rw [List.getElem?_append_left (by omega)]; exact h1) (by rw [List.getElem?_append_right (by omega), show i + 1 - R0.length = 0 by omega]; rfl)
      · intro r hrr i h1 h2
        rcases List.mem_append.1 hrr with hrr | hrr
        · exact h.lev r (by simp [hrr]) i h1 h2
        · rw [List.mem_singleton] at hrr
          subst hrr
          simp only at h1 h2
          by_cases hik : i = k
          · rw [hik]; exact hx
          · exact h.lev (a, b, e) (by simp) i h1 (by simp only; omega)
    · rw [stepR_new _ _ _ _ _ _ hxe]
      refine ⟨?_, ?_, ?_⟩
      · rw [List.map_append]
        exact parts_snoc ((k : Int), (k : Int) + 1) _ _ 0 h.parts (by simp [rightB]; omega) rfl
      · intro i r s h1 h2
        have hl := (List.getElem?_eq_some_iff.1 h2).1
        rw [List.length_append, List.length_singleton] at hl
        rw [List.getElem?_append_left (by omega)] at h1
        by_cases hi : i + 1 < (R0 ++ [(a, b, e)]).length
        · rw [List.getElem?_append_left hi] at h2
          exact h.unlike i r s h1 h2
        · rw [List.getElem?_append_right (by omega), show i + 1 - (R0 ++ [(a, b, e)]).length = 0 by omega] at h2
          obtain rfl := Option.some.inj h2
          rw [List.length_append, List.length_singleton] at hi hl
          rw [List.getElem?_append_right (by omega), show i - R0.length = 0 by omega] at h1
          obtain rfl := Option.some.inj h1
          exact hxe
      · intro r hrr i h1 h2
        rcases List.mem_append.1 hrr with hrr | hrr
        · exact h.lev r hrr i h1 h2
        · rw [List.mem_singleton] at hrr
          subst hrr
          simp only at h1 h2
          obtain rfl : i = k := by omega
          exact hx
theorem log_ok (ls : List Int) : ∀ k, LogOk ls (logR ls k) k
  | 0 => LogOk.nil ls
  | k + 1 => by rw [logR]; exact (log_ok ls k).step
end Go.Proofs.Ytaiefneimjdmhaa
