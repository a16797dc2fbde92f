/- The forms, as the project fills them in: one place after another that is not passed over. No function of the program. -/
import Derived.Test.YtcjcimdembkbkaaJnD
namespace Go.Proofs.Ytcjcimdembkbkaa

/-- The forms of the places ahead of w; 0 from there on. -/
def jPart (ts : List Int) (w : Int) : List Int := (List.range ts.length).map fun (j : Nat) => if (j : Int) < w then jForm ts j else 0
theorem jPart_len (ts : List Int) (w : Int) : (jPart ts w).length = ts.length := by simp [jPart]
theorem jPart_start (ts : List Int) : jPart ts (-1) = List.replicate ts.length 0 := by
  apply List.ext_getElem
  · simp [jPart]
  · intro i h1 h2
    simp [jPart]
    intro h; omega
theorem jPart_all (ts : List Int) : jPart ts ts.length = jForms ts := by
  apply List.ext_getElem
  · simp [jPart, jForms]
  · intro i h1 h2
    simp [jPart_len] at h1
    simp [jPart, jForms, h1]
theorem jPart_none {ts : List Int} {k : Nat} (hk : k ≤ ts.length) (h : jLast ts k = -1) : jPart ts k = jPart ts (-1) := by
  apply List.ext_getElem
  · simp [jPart]
  · intro i h1 h2
    simp [jPart_len] at h1
    simp only [jPart, List.getElem_map, List.getElem_range]
    rw [if_neg (show ¬ ((i : Int) < -1) by omega)]
    split
    · exact jForm_T (jLast_no ts k h i (by omega))
    · rfl
theorem jPart_step {ts : List Int} {k n : Nat} (hk : k ≤ ts.length) (h : jLast ts k = n) : jPart ts k = (jPart ts n).set n (jForm ts n) := by
  obtain ⟨a, _, c⟩ := jLast_is ts k hk h
  apply List.ext_getElem
  · simp [jPart]
  · intro i h1 h2
    simp [jPart_len] at h1
    rw [List.getElem_set]
    simp only [jPart, List.getElem_map, List.getElem_range]
    by_cases e : n = i
    · subst e
      rw [if_pos rfl, if_pos (by omega)]
    · rw [if_neg e]
      by_cases l : i < n
      · rw [if_pos (by omega), if_pos (by omega)]
      · rw [if_neg (show ¬ ((i : Int) < n) by omega)]
        split
        · exact jForm_T (c i (by omega) (by omega))
        · rfl
theorem jPart_at {ts : List Int} {n : Nat} (hn : n < ts.length) : (jPart ts n)[n]? = some 0 := by simp [jPart, hn]
theorem jPart_stay {ts : List Int} {k n : Nat} (hk : k ≤ ts.length) (h : jLast ts k = n) {t : Int} (ht : ts[n]? = some t) (hf : formedB t = false) : jPart ts k = jPart ts n := by
  have hn := (List.getElem?_eq_some_iff.1 ht).1
  rw [jPart_step hk h, jForm_at ht, hf]
  apply List.ext_getElem
  · simp
  · intro i h1 h2
    rw [List.getElem_set]
    split
    · rename_i e; subst e
      have := jPart_at hn
      rw [List.getElem?_eq_getElem (by rw [jPart_len]; exact hn)] at this
      simpa using this.symm
    · rfl

/-- A pair at place i, if a lam stands there. -/
def lfAt (al : Int → Bool) (xs ts : List Int) (th : Bool) (i : Nat) : List (Int × Int) :=
  if xs[i]? = some 1604 then (if 0 ≤ jFirst ts (i + 1) ∧ al (xs.getD (jFirst ts (i + 1)).toNat 0) = true ∧ (th = true ∨ jFirst ts (i + 1) = (i : Int) + 1) then [((i : Int), jFirst ts (i + 1))] else []) else []
def lfUpto (al : Int → Bool) (xs ts : List Int) (th : Bool) (k : Nat) : List (Int × Int) := (List.range k).flatMap (lfAt al xs ts th)
def lfFind (al : Int → Bool) (xs ts : List Int) (th : Bool) : List (Int × Int) := if xs.length = ts.length then lfUpto al xs ts th xs.length else []
theorem lfUpto_succ (al : Int → Bool) (xs ts : List Int) (th : Bool) (k : Nat) : lfUpto al xs ts th (k + 1) = lfUpto al xs ts th k ++ lfAt al xs ts th k := by
  simp [lfUpto, List.range_succ]
theorem lfAt_le (al : Int → Bool) (xs ts : List Int) (th : Bool) (k : Nat) : (lfAt al xs ts th k).length ≤ 1 := by
  unfold lfAt; split
  · split <;> simp
  · simp
theorem lfUpto_le (al : Int → Bool) (xs ts : List Int) (th : Bool) (k : Nat) : (lfUpto al xs ts th k).length ≤ k := by
  induction k with
  | zero => simp [lfUpto]
  | succ k ih => rw [lfUpto_succ, List.length_append]; have := lfAt_le al xs ts th k; omega
/-- What a pair becomes, by the code of an alef and a form. -/
def lfCode (lig : Int → Int → Int) (xs ts : List Int) (p : Int × Int) : Int :=
  if 0 ≤ p.1 ∧ p.1 < xs.length ∧ 0 ≤ p.2 ∧ p.2 < xs.length then lig (xs.getD p.2.toNat 0) (if jJoined ts (jAhead ts p.1) then 2 else 1) else 0
/-- What the project keeps between two lams: where the next one that is not passed over stands. -/
def lfNext (ts : List Int) (k : Nat) (b : Int) : Prop := -1 ≤ b ∧ ∀ j : Nat, k ≤ j → (b = -1 → jFirst ts (j + 1) = -1) ∧ ((j : Int) < b → jFirst ts (j + 1) = b)
theorem lfNext.start (ts : List Int) : lfNext ts 0 0 := ⟨by omega, fun j _ => ⟨fun h => by omega, fun h => by omega⟩⟩
theorem lfNext.up {ts : List Int} {k : Nat} {b : Int} (h : lfNext ts k b) : lfNext ts (k + 1) b := ⟨h.1, fun j hj => h.2 j (by omega)⟩
theorem lfNext.new_ (ts : List Int) (k : Nat) : lfNext ts k (jFirst ts (k + 1)) := by
  rcases jFirst_ge ts (k + 1) with e | ⟨b, e⟩
  · rw [e]
    exact ⟨by omega, fun j hj => ⟨fun _ => jFirst_no e (by omega), fun h => by omega⟩⟩
  · rw [e]
    exact ⟨by omega, fun j hj => ⟨fun h => by omega, fun h => jFirst_mid e (by omega) (by omega)⟩⟩
/-- What the project goes by at a lam is what stands behind it. -/
theorem lfNext.is {ts : List Int} {k : Nat} {b : Int} (h : lfNext ts k b) (hb : ¬ (0 ≤ b ∧ b ≤ k)) : jFirst ts (k + 1) = b := by
  obtain ⟨h1, h2⟩ := h
  obtain ⟨a, c⟩ := h2 k (Nat.le_refl _)
  by_cases e : b = -1
  · rw [a e, e]
  · exact c (by omega)
theorem jFirst_gt (ts : List Int) (k : Nat) : jFirst ts k = -1 ∨ (k : Int) ≤ jFirst ts k ∧ jFirst ts k < ts.length := by
  rcases jFirst_ge ts k with e | ⟨b, e⟩
  · exact .inl e
  · obtain ⟨h1, h2, _⟩ := jFirst_is e
    rw [e]; exact .inr ⟨by omega, by omega⟩
end Go.Proofs.Ytcjcimdembkbkaa
