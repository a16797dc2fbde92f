/- Letters that meet, as plain mathematics: the next places that are not passed over, which join, and the forms. No function of the program. -/
import Derived.Lib.Hide
namespace Go.Proofs.Ytcjcimdembkbkaa

/-- The last place below k that is not passed over; -1: there is none. -/
def jLast (ts : List Int) : Nat → Int
  | 0 => -1
  | k + 1 => if ts[k]? = some 1 then jLast ts k else (k : Int)
/-- The first place of a list that is not passed over. -/
def jHead : List Int → Option Nat
  | [] => none
  | t :: l => if t = 1 then (jHead l).map (· + 1) else some 0
/-- The first place from k on that is not passed over; -1: there is none. -/
def jFirst (ts : List Int) (k : Nat) : Int := match jHead (ts.drop k) with
  | none => -1
  | some j => ((k + j : Nat) : Int)
def reachB (t : Int) : Bool := t == 3 || t == 4 || t == 5
def meetB (t : Int) : Bool := t == 3 || t == 2 || t == 5
def formedB (t : Int) : Bool := t == 3 || t == 2 || t == 4
/-- Whether place k joins what is behind it. -/
def jJoin (ts : List Int) (k : Nat) : Bool := match ts[k]? with
  | none => false
  | some t => reachB t && (match jHead (ts.drop (k + 1)) with
    | none => false
    | some j => meetB (ts.getD (k + 1 + j) 0))
/-- Of a place that may be none. -/
def jJoinI (ts : List Int) (i : Int) : Bool := if 0 ≤ i then jJoin ts i.toNat else false
def formK (a b : Bool) : Int := if a && b then 4 else if a then 2 else if b then 3 else 1
def jForm (ts : List Int) (k : Nat) : Int := match ts[k]? with
  | none => 0
  | some t => if formedB t then formK (jJoinI ts (jLast ts k)) (jJoin ts k) else 0
def jForms (ts : List Int) : List Int := (List.range ts.length).map (jForm ts)
def jAhead (ts : List Int) (i : Int) : Int := if 0 ≤ i ∧ i < ts.length then jLast ts i.toNat else -1
def jBehind (ts : List Int) (i : Int) : Int := if 0 ≤ i ∧ i < ts.length then jFirst ts (i.toNat + 1) else -1
def jJoined (ts : List Int) (i : Int) : Bool := if 0 ≤ i ∧ i < ts.length then jJoin ts i.toNat else false
def jOver (ts : List Int) (i : Int) : Bool := if 0 ≤ i ∧ i < ts.length then decide (ts.getD i.toNat 0 = 1) && jJoinI ts (jLast ts i.toNat) else false

theorem jLast_skip {ts : List Int} {k : Nat} (h : ts[k]? = some 1) : jLast ts (k + 1) = jLast ts k := by simp [jLast, h]
theorem jLast_hit {ts : List Int} {k : Nat} {t : Int} (h : ts[k]? = some t) (ht : t ≠ 1) : jLast ts (k + 1) = k := by
  simp [jLast, h, ht]
theorem jLast_lt (ts : List Int) (k : Nat) : jLast ts k < k ∧ -1 ≤ jLast ts k := by
  induction k with
  | zero => simp [jLast]
  | succ k ih =>
    unfold jLast
    split <;> omega
theorem jLast_is (ts : List Int) (k : Nat) (hk : k ≤ ts.length) {n : Nat} (h : jLast ts k = n) : n < k ∧ (∃ t, ts[n]? = some t ∧ t ≠ 1) ∧ ∀ j, n < j → j < k → ts[j]? = some 1 := by
  induction k with
  | zero => simp [jLast] at h
  | succ k ih =>
    unfold jLast at h
    by_cases c : ts[k]? = some 1
    · rw [if_pos c] at h
      obtain ⟨a, b, d⟩ := ih (by omega) h
      refine ⟨by omega, b, fun j h1 h2 => ?_⟩
      by_cases hj : j = k
      · rw [hj]; exact c
      · exact d j h1 (by omega)
    · rw [if_neg c] at h
      have e : n = k := by omega
      subst e
      refine ⟨by omega, ⟨ts[n], List.getElem?_eq_getElem (by omega), fun e => c (by rw [List.getElem?_eq_getElem (by omega), e])⟩, fun j h1 h2 => by omega⟩
theorem jLast_no (ts : List Int) (k : Nat) (h : jLast ts k = -1) : ∀ j, j < k → ts[j]? = some 1 := by
  induction k with
  | zero => intro j hj; omega
  | succ k ih =>
    unfold jLast at h
    split at h
    · rename_i c
      intro j hj
      by_cases hj' : j = k
      · rw [hj']; exact c
      · exact ih h j (by omega)
    · omega
theorem jLast_back {ts : List Int} {k i : Nat} (hk : k ≤ i) (h : ∀ j, k ≤ j → j < i → ts[j]? = some 1) : jLast ts i = jLast ts k := by
  induction i with
  | zero => rw [show k = 0 by omega]
  | succ i ih =>
    by_cases e : k = i + 1
    · rw [e]
    · rw [jLast_skip (h i (by omega) (by omega))]
      exact ih (by omega) (fun j a b => h j a (by omega))
theorem drop_at {ts : List Int} {k : Nat} {t : Int} (h : ts[k]? = some t) : ts.drop k = t :: ts.drop (k + 1) := by
  obtain ⟨hk, rfl⟩ := List.getElem?_eq_some_iff.1 h
  exact List.drop_eq_getElem_cons hk
theorem jHead_skip {ts : List Int} {k : Nat} (h : ts[k]? = some 1) : jHead (ts.drop k) = (jHead (ts.drop (k + 1))).map (· + 1) := by
  rw [drop_at h]; simp [jHead]
theorem jHead_hit {ts : List Int} {k : Nat} {t : Int} (h : ts[k]? = some t) (ht : t ≠ 1) : jHead (ts.drop k) = some 0 := by
  rw [drop_at h]; simp [jHead, ht]
theorem jHead_end {ts : List Int} {k : Nat} (h : ts.length ≤ k) : jHead (ts.drop k) = none := by
  rw [List.drop_eq_nil_of_le h]; rfl
theorem jFirst_skip {ts : List Int} {k : Nat} (h : ts[k]? = some 1) : jFirst ts k = jFirst ts (k + 1) := by
  unfold jFirst
  rw [jHead_skip h]
  cases jHead (ts.drop (k + 1)) with
  | none => rfl
  | some j => simp; omega
theorem jFirst_hit {ts : List Int} {k : Nat} {t : Int} (h : ts[k]? = some t) (ht : t ≠ 1) : jFirst ts k = k := by
  unfold jFirst; rw [jHead_hit h ht]; simp
theorem jFirst_end {ts : List Int} {k : Nat} (h : ts.length ≤ k) : jFirst ts k = -1 := by
  unfold jFirst; rw [jHead_end h]
theorem jHead_is (l : List Int) {j : Nat} (h : jHead l = some j) : (∃ t, l[j]? = some t ∧ t ≠ 1) ∧ ∀ i, i < j → l[i]? = some 1 := by
  induction l generalizing j with
  | nil => simp [jHead] at h
  | cons t l ih =>
    unfold jHead at h
    by_cases c : t = 1
    · rw [if_pos c] at h
      obtain ⟨m, hm, rfl⟩ := Option.map_eq_some_iff.1 h
      obtain ⟨a, b⟩ := ih hm
      refine ⟨by simpa using a, fun i hi => ?_⟩
      cases i with
      | zero => simp [c]
      | succ i => simpa using b i (by omega)
    · rw [if_neg c] at h
      obtain rfl := Option.some.inj h
      exact ⟨⟨t, rfl, c⟩, fun i hi => by omega⟩
theorem jHead_no (l : List Int) (h : jHead l = none) : ∀ (i : Nat) (t : Int), l[i]? = some t → t = 1 := by
  induction l with
  | nil => simp
  | cons t l ih =>
    unfold jHead at h
    by_cases c : t = 1
    · rw [if_pos c] at h
      intro i u hu
      cases i with
      | zero => simp at hu; omega
      | succ i => exact ih (by simpa using h) i u (by simpa using hu)
    · rw [if_neg c] at h; simp at h
theorem jFirst_is {ts : List Int} {k b : Nat} (h : jFirst ts k = b) : k ≤ b ∧ b < ts.length ∧ (∃ t, ts[b]? = some t ∧ t ≠ 1) ∧ ∀ j, k ≤ j → j < b → ts[j]? = some 1 := by
  unfold jFirst at h
  cases hh : jHead (ts.drop k) with
  | none => rw [hh] at h; exact absurd h (by simp only; omega)
  | some j =>
    rw [hh] at h
    simp only at h
    obtain rfl : b = k + j := by omega
    obtain ⟨⟨t, h1, h2⟩, h3⟩ := jHead_is _ hh
    rw [List.getElem?_drop] at h1
    have hlt := (List.getElem?_eq_some_iff.1 h1).1
    refine ⟨by omega, hlt, ⟨t, h1, h2⟩, fun i a b => ?_⟩
    have := h3 (i - k) (by omega)
    rwa [List.getElem?_drop, show k + (i - k) = i by omega] at this
theorem jFirst_ge (ts : List Int) (k : Nat) : jFirst ts k = -1 ∨ ∃ b : Nat, jFirst ts k = b := by
  unfold jFirst
  cases jHead (ts.drop k) with
  | none => exact .inl rfl
  | some j => exact .inr ⟨_, rfl⟩
theorem jFirst_no {ts : List Int} {k : Nat} (h : jFirst ts k = -1) {j : Nat} (hj : k ≤ j) : jFirst ts j = -1 := by
  have hn : jHead (ts.drop k) = none := by
    unfold jFirst at h
    cases hh : jHead (ts.drop k) with
    | none => rfl
    | some j => rw [hh] at h; simp at h; omega
  have h0 := jHead_no _ hn
  rcases jFirst_ge ts j with e | ⟨b, e⟩
  · exact e
  · obtain ⟨h1, h2, ⟨t, h3, h4⟩, _⟩ := jFirst_is e
    exact absurd (h0 (b - k) t (by rw [List.getElem?_drop, show k + (b - k) = b by omega]; exact h3)) h4
theorem jFirst_mid {ts : List Int} {k b : Nat} (h : jFirst ts k = b) {j : Nat} (h1 : k ≤ j) (h2 : j ≤ b) : jFirst ts j = b := by
  obtain ⟨a1, a2, ⟨t, a3, a4⟩, a5⟩ := jFirst_is h
  have key : ∀ m, m ≤ b - k → jFirst ts (b - m) = b := by
    intro m
    induction m with
    | zero => intro _; rw [Nat.sub_zero]; exact jFirst_hit a3 a4
    | succ m ih =>
      intro hm
      rw [jFirst_skip (a5 (b - (m + 1)) (by omega) (by omega)), show b - (m + 1) + 1 = b - m by omega]
      exact ih (by omega)
  have := key (b - j) (by omega)
  rwa [show b - (b - j) = j by omega] at this
/-- Joined, by way of Behind. -/
theorem jJoin_eq {ts : List Int} {k : Nat} {t : Int} (h : ts[k]? = some t) : jJoin ts k = (reachB t && (decide (0 ≤ jFirst ts (k + 1)) && meetB (ts.getD (jFirst ts (k + 1)).toNat 0))) := by
  unfold jJoin jFirst
  rw [h]
  cases jHead (ts.drop (k + 1)) with
  | none => simp
  | some j =>
    show (reachB t && meetB (ts.getD (k + 1 + j) 0)) = (reachB t && (decide (0 ≤ ((k + 1 + j : Nat) : Int)) && meetB (ts.getD ((k + 1 + j : Nat) : Int).toNat 0)))
    rw [decide_eq_true (show (0 : Int) ≤ ((k + 1 + j : Nat) : Int) by omega), Int.toNat_natCast]; simp
theorem jJoin_none {ts : List Int} {k : Nat} (h : jFirst ts (k + 1) = -1) : jJoin ts k = false := by
  cases ht : ts[k]? with
  | none => simp [jJoin, ht]
  | some t => rw [jJoin_eq ht, h]; simp
theorem jJoin_some {ts : List Int} {k b : Nat} {t u : Int} (h : ts[k]? = some t) (hb : jFirst ts (k + 1) = b) (hu : ts[b]? = some u) : jJoin ts k = (reachB t && meetB u) := by
  rw [jJoin_eq h, hb]; simp [hu]
theorem jJoin_T {ts : List Int} {k : Nat} (h : ts[k]? = some 1) : jJoin ts k = false := by
  rw [jJoin_eq h]; simp [reachB]
theorem jForm_T {ts : List Int} {k : Nat} (h : ts[k]? = some 1) : jForm ts k = 0 := by
  simp [jForm, h, formedB]
theorem jForm_at {ts : List Int} {k : Nat} {t : Int} (h : ts[k]? = some t) : jForm ts k = if formedB t then formK (jJoinI ts (jLast ts k)) (jJoin ts k) else 0 := by
  simp [jForm, h]
theorem jForms_len (ts : List Int) : (jForms ts).length = ts.length := by simp [jForms]
theorem jForms_at {ts : List Int} {k : Nat} (h : k < ts.length) : (jForms ts)[k]? = some (jForm ts k) := by
  simp [jForms, h]
end Go.Proofs.Ytcjcimdembkbkaa
