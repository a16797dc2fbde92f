/- Texts of one claim, one behind the other. -/
import Derived.Lib.Hide
import Derived.Deep.WholeRow
import Derived.Laws.ResultCell
import Derived.KernelRfl
import Derived.Test.YtcjcimdembkbkaaMgLo1
/- Letters that meet, as plain mathematics: the next places that are not passed over, which join, and the forms. No function of the program. -/
namespace Go.Proofs.Ytcjcimdembkbkaa

/-- The last place below k that is not passed over; -1: there is none. -/
def jLast (ts : List Int) : Nat → Int
  | 0 => -1
  | k + 1 => if ts[k]? = some 1 then jLast ts k else (k : Int)
/-- The first place of a list that is not passed over. -/
def jHead : List Int → Option Nat
  | [] => none
  | t :: l => if t = 1 then (jHead l).map (· + 1) else some 0
/-- The first place from k on that is not passed over; -1: there is none. -/
def jFirst (ts : List Int) (k : Nat) : Int := match jHead (ts.drop k) with
  | none => -1
  | some j => ((k + j : Nat) : Int)
def reachB (t : Int) : Bool := t == 3 || t == 4 || t == 5
def meetB (t : Int) : Bool := t == 3 || t == 2 || t == 5
def formedB (t : Int) : Bool := t == 3 || t == 2 || t == 4
/-- Whether place k joins what is behind it. -/
def jJoin (ts : List Int) (k : Nat) : Bool := match ts[k]? with
  | none => false
  | some t => reachB t && (match jHead (ts.drop (k + 1)) with
    | none => false
    | some j => meetB (ts.getD (k + 1 + j) 0))
/-- Of a place that may be none. -/
def jJoinI (ts : List Int) (i : Int) : Bool := if 0 ≤ i then jJoin ts i.toNat else false
def formK (a b : Bool) : Int := if a && b then 4 else if a then 2 else if b then 3 else 1
def jForm (ts : List Int) (k : Nat) : Int := match ts[k]? with
  | none => 0
  | some t => if formedB t then formK (jJoinI ts (jLast ts k)) (jJoin ts k) else 0
def jForms (ts : List Int) : List Int := (List.range ts.length).map (jForm ts)
def jAhead (ts : List Int) (i : Int) : Int := if 0 ≤ i ∧ i < ts.length then jLast ts i.toNat else -1
def jBehind (ts : List Int) (i : Int) : Int := if 0 ≤ i ∧ i < ts.length then jFirst ts (i.toNat + 1) else -1
def jJoined (ts : List Int) (i : Int) : Bool := if 0 ≤ i ∧ i < ts.length then jJoin ts i.toNat else false
def jOver (ts : List Int) (i : Int) : Bool := if 0 ≤ i ∧ i < ts.length then decide (ts.getD i.toNat 0 = 1) && jJoinI ts (jLast ts i.toNat) else false

theorem jLast_skip {ts : List Int} {k : Nat} (h : ts[k]? = some 1) : jLast ts (k + 1) = jLast ts k := by simp [jLast, h]
theorem jLast_hit {ts : List Int} {k : Nat} {t : Int} (h : ts[k]? = some t) (ht : t ≠ 1) : jLast ts (k + 1) = k := by
  simp [jLast, h, ht]
theorem jLast_lt (ts : List Int) (k : Nat) : jLast ts k < k ∧ -1 ≤ jLast ts k := by
  induction k with
  | zero => simp [jLast]
  | succ k ih =>
    unfold jLast
    split <;> omega
theorem jLast_is (ts : List Int) (k : Nat) (hk : k ≤ ts.length) {n : Nat} (h : jLast ts k = n) : n < k ∧ (∃ t, ts[n]? = some t ∧ t ≠ 1) ∧ ∀ j, n < j → j < k → ts[j]? = some 1 := by
  induction k with
  | zero => simp [jLast] at h
  | succ k ih =>
    unfold jLast at h
    by_cases c : ts[k]? = some 1
    · rw [if_pos c] at h
      obtain ⟨a, b, d⟩ := ih (by omega) h
      refine ⟨by omega, b, fun j h1 h2 => ?_⟩
      by_cases hj : j = k
      · rw [hj]; exact c
      · exact d j h1 (by omega)
    · rw [if_neg c] at h
      have e : n = k := by omega
      subst e
      refine ⟨by omega, ⟨ts[n], List.getElem?_eq_getElem (by omega), fun e => c (by rw [List.getElem?_eq_getElem (by omega), e])⟩, fun j h1 h2 => by omega⟩
theorem jLast_no (ts : List Int) (k : Nat) (h : jLast ts k = -1) : ∀ j, j < k → ts[j]? = some 1 := by
  induction k with
  | zero => intro j hj; omega
  | succ k ih =>
    unfold jLast at h
    split at h
    · rename_i c
      intro j hj
      by_cases hj' : j = k
      · rw [hj']; exact c
      · exact ih h j (by omega)
    · omega
theorem jLast_back {ts : List Int} {k i : Nat} (hk : k ≤ i) (h : ∀ j, k ≤ j → j < i → ts[j]? = some 1) : jLast ts i = jLast ts k := by
  induction i with
  | zero => rw [show k = 0 by omega]
  | succ i ih =>
    by_cases e : k = i + 1
    · rw [e]
    · rw [jLast_skip (h i (by omega) (by omega))]
      exact ih (by omega) (fun j a b => h j a (by omega))
theorem drop_at {ts : List Int} {k : Nat} {t : Int} (h : ts[k]? = some t) : ts.drop k = t :: ts.drop (k + 1) := by
  obtain ⟨hk, rfl⟩ := List.getElem?_eq_some_iff.1 h
  exact List.drop_eq_getElem_cons hk
theorem jHead_skip {ts : List Int} {k : Nat} (h : ts[k]? = some 1) : jHead (ts.drop k) = (jHead (ts.drop (k + 1))).map (· + 1) := by
  rw [drop_at h]; simp [jHead]
theorem jHead_hit {ts : List Int} {k : Nat} {t : Int} (h : ts[k]? = some t) (ht : t ≠ 1) : jHead (ts.drop k) = some 0 := by
  rw [drop_at h]; simp [jHead, ht]
theorem jHead_end {ts : List Int} {k : Nat} (h : ts.length ≤ k) : jHead (ts.drop k) = none := by
  rw [List.drop_eq_nil_of_le h]; rfl
theorem jFirst_skip {ts : List Int} {k : Nat} (h : ts[k]? = some 1) : jFirst ts k = jFirst ts (k + 1) := by
  unfold jFirst
  rw [jHead_skip h]
  cases jHead (ts.drop (k + 1)) with
  | none => rfl
  | some j => simp; omega
theorem jFirst_hit {ts : List Int} {k : Nat} {t : Int} (h : ts[k]? = some t) (ht : t ≠ 1) : jFirst ts k = k := by
  unfold jFirst; rw [jHead_hit h ht]; simp
theorem jFirst_end {ts : List Int} {k : Nat} (h : ts.length ≤ k) : jFirst ts k = -1 := by
  unfold jFirst; rw [jHead_end h]
theorem jHead_is (l : List Int) {j : Nat} (h : jHead l = some j) : (∃ t, l[j]? = some t ∧ t ≠ 1) ∧ ∀ i, i < j → l[i]? = some 1 := by
  induction l generalizing j with
  | nil => simp [jHead] at h
  | cons t l ih =>
    unfold jHead at h
    by_cases c : t = 1
    · rw [if_pos c] at h
      obtain ⟨m, hm, rfl⟩ := Option.map_eq_some_iff.1 h
      obtain ⟨a, b⟩ := ih hm
      refine ⟨by simpa using a, fun i hi => ?_⟩
      cases i with
      | zero => simp [c]
      | succ i => simpa using b i (by omega)
    · rw [if_neg c] at h
      obtain rfl := Option.some.inj h
      exact ⟨⟨t, rfl, c⟩, fun i hi => by omega⟩
theorem jHead_no (l : List Int) (h : jHead l = none) : ∀ (i : Nat) (t : Int), l[i]? = some t → t = 1 := by
  induction l with
  | nil => simp
  | cons t l ih =>
    unfold jHead at h
    by_cases c : t = 1
    · rw [if_pos c] at h
      intro i u hu
      cases i with
      | zero => simp at hu; omega
      | succ i => exact ih (by simpa using h) i u (by simpa using hu)
    · rw [if_neg c] at h; simp at h
theorem jFirst_is {ts : List Int} {k b : Nat} (h : jFirst ts k = b) : k ≤ b ∧ b < ts.length ∧ (∃ t, ts[b]? = some t ∧ t ≠ 1) ∧ ∀ j, k ≤ j → j < b → ts[j]? = some 1 := by
  unfold jFirst at h
  cases hh : jHead (ts.drop k) with
  | none => rw [hh] at h; exact absurd h (by simp only; omega)
  | some j =>
    rw [hh] at h
    simp only at h
    obtain rfl : b = k + j := by omega
    obtain ⟨⟨t, h1, h2⟩, h3⟩ := jHead_is _ hh
    rw [List.getElem?_drop] at h1
    have hlt := (List.getElem?_eq_some_iff.1 h1).1
    refine ⟨by omega, hlt, ⟨t, h1, h2⟩, fun i a b => ?_⟩
    have := h3 (i - k) (by omega)
    rwa [List.getElem?_drop, show k + (i - k) = i by omega] at this
theorem jFirst_ge (ts : List Int) (k : Nat) : jFirst ts k = -1 ∨ ∃ b : Nat, jFirst ts k = b := by
  unfold jFirst
  cases jHead (ts.drop k) with
  | none => exact .inl rfl
  | some j => exact .inr ⟨_, rfl⟩
theorem jFirst_no {ts : List Int} {k : Nat} (h : jFirst ts k = -1) {j : Nat} (hj : k ≤ j) : jFirst ts j = -1 := by
  have hn : jHead (ts.drop k) = none := by
    unfold jFirst at h
    cases hh : jHead (ts.drop k) with
    | none => rfl
    | some j => rw [hh] at h; simp at h; omega
  have h0 := jHead_no _ hn
  rcases jFirst_ge ts j with e | ⟨b, e⟩
  · exact e
  · obtain ⟨h1, h2, ⟨t, h3, h4⟩, _⟩ := jFirst_is e
    exact absurd (h0 (b - k) t (by rw [List.getElem?_drop, show k + (b - k) = b by omega]; exact h3)) h4
theorem jFirst_mid {ts : List Int} {k b : Nat} (h : jFirst ts k = b) {j : Nat} (h1 : k ≤ j) (h2 : j ≤ b) : jFirst ts j = b := by
  obtain ⟨a1, a2, ⟨t, a3, a4⟩, a5⟩ := jFirst_is h
  have key : ∀ m, m ≤ b - k → jFirst ts (b - m) = b := by
    intro m
    induction m with
    | zero => intro _; rw [Nat.sub_zero]; exact jFirst_hit a3 a4
    | succ m ih =>
      intro hm
      rw [jFirst_skip (a5 (b - (m + 1)) (by omega) (by omega)), show b - (m + 1) + 1 = b - m by omega]
      exact ih (by omega)
  have := key (b - j) (by omega)
  rwa [show b - (b - j) = j by omega] at this
/-- Joined, by way of Behind. -/
theorem jJoin_eq {ts : List Int} {k : Nat} {t : Int} (h : ts[k]? = some t) : jJoin ts k = (reachB t && (decide (0 ≤ jFirst ts (k + 1)) && meetB (ts.getD (jFirst ts (k + 1)).toNat 0))) := by
  unfold jJoin jFirst
  rw [h]
  cases jHead (ts.drop (k + 1)) with
  | none => simp
  | some j =>
    show (reachB t && meetB (ts.getD (k + 1 + j) 0)) = (reachB t && (decide (0 ≤ ((k + 1 + j : Nat) : Int)) && meetB (ts.getD ((k + 1 + j : Nat) : Int).toNat 0)))
    rw [decide_eq_true (show (0 : Int) ≤ ((k + 1 + j : Nat) : Int) by omega), Int.toNat_natCast]; simp
theorem jJoin_none {ts : List Int} {k : Nat} (h : jFirst ts (k + 1) = -1) : jJoin ts k = false := by
  cases ht : ts[k]? with
  | none => simp [jJoin, ht]
  | some t => rw [jJoin_eq ht, h]; simp
theorem jJoin_some {ts : List Int} {k b : Nat} {t u : Int} (h : ts[k]? = some t) (hb : jFirst ts (k + 1) = b) (hu : ts[b]? = some u) : jJoin ts k = (reachB t && meetB u) := by
  rw [jJoin_eq h, hb]; simp [hu]
theorem jJoin_T {ts : List Int} {k : Nat} (h : ts[k]? = some 1) : jJoin ts k = false := by
  rw [jJoin_eq h]; simp [reachB]
theorem jForm_T {ts : List Int} {k : Nat} (h : ts[k]? = some 1) : jForm ts k = 0 := by
  simp [jForm, h, formedB]
theorem jForm_at {ts : List Int} {k : Nat} {t : Int} (h : ts[k]? = some t) : jForm ts k = if formedB t then formK (jJoinI ts (jLast ts k)) (jJoin ts k) else 0 := by
  simp [jForm, h]
theorem jForms_len (ts : List Int) : (jForms ts).length = ts.length := by simp [jForms]
theorem jForms_at {ts : List Int} {k : Nat} (h : k < ts.length) : (jForms ts)[k]? = some (jForm ts k) := by
  simp [jForms, h]
end Go.Proofs.Ytcjcimdembkbkaa
/- The forms, as the project fills them in: one place after another that is not passed over. No function of the program. -/
namespace Go.Proofs.Ytcjcimdembkbkaa

/-- The forms of the places ahead of w; 0 from there on. -/
def jPart (ts : List Int) (w : Int) : List Int := (List.range ts.length).map fun (j : Nat) => if (j : Int) < w then jForm ts j else 0
theorem jPart_len (ts : List Int) (w : Int) : (jPart ts w).length = ts.length := by simp [jPart]
theorem jPart_start (ts : List Int) : jPart ts (-1) = List.replicate ts.length 0 := by
  apply List.ext_getElem
  · simp [jPart]
  · intro i h1 h2
    simp [jPart]
    intro h; omega
theorem jPart_all (ts : List Int) : jPart ts ts.length = jForms ts := by
  apply List.ext_getElem
  · simp [jPart, jForms]
  · intro i h1 h2
    simp [jPart_len] at h1
    simp [jPart, jForms, h1]
theorem jPart_none {ts : List Int} {k : Nat} (hk : k ≤ ts.length) (h : jLast ts k = -1) : jPart ts k = jPart ts (-1) := by
  apply List.ext_getElem
  · simp [jPart]
  · intro i h1 h2
    simp [jPart_len] at h1
    simp only [jPart, List.getElem_map, List.getElem_range]
    rw [if_neg (show ¬ ((i : Int) < -1) by omega)]
    split
    · exact jForm_T (jLast_no ts k h i (by omega))
    · rfl
theorem jPart_step {ts : List Int} {k n : Nat} (hk : k ≤ ts.length) (h : jLast ts k = n) : jPart ts k = (jPart ts n).set n (jForm ts n) := by
  obtain ⟨a, _, c⟩ := jLast_is ts k hk h
  apply List.ext_getElem
  · simp [jPart]
  · intro i h1 h2
    simp [jPart_len] at h1
    rw [List.getElem_set]
    simp only [jPart, List.getElem_map, List.getElem_range]
    by_cases e : n = i
    · subst e
      rw [if_pos rfl, if_pos (by omega)]
    · rw [if_neg e]
      by_cases l : i < n
      · rw [if_pos (by omega), if_pos (by omega)]
      · rw [if_neg (show ¬ ((i : Int) < n) by omega)]
        split
        · exact jForm_T (c i (by omega) (by omega))
        · rfl
theorem jPart_at {ts : List Int} {n : Nat} (hn : n < ts.length) : (jPart ts n)[n]? = some 0 := by simp [jPart, hn]
theorem jPart_stay {ts : List Int} {k n : Nat} (hk : k ≤ ts.length) (h : jLast ts k = n) {t : Int} (ht : ts[n]? = some t) (hf : formedB t = false) : jPart ts k = jPart ts n := by
  have hn := (List.getElem?_eq_some_iff.1 ht).1
  rw [jPart_step hk h, jForm_at ht, hf]
  apply List.ext_getElem
  · simp
  · intro i h1 h2
    rw [List.getElem_set]
    split
    · rename_i e; subst e
      have := jPart_at hn
      rw [List.getElem?_eq_getElem (by rw [jPart_len]; exact hn)] at this
      simpa using this.symm
    · rfl

/-- A pair at place i, if a lam stands there. -/
def lfAt (al : Int → Bool) (xs ts : List Int) (th : Bool) (i : Nat) : List (Int × Int) :=
  if xs[i]? = some 1604 then (if 0 ≤ jFirst ts (i + 1) ∧ al (xs.getD (jFirst ts (i + 1)).toNat 0) = true ∧ (th = true ∨ jFirst ts (i + 1) = (i : Int) + 1) then [((i : Int), jFirst ts (i + 1))] else []) else []
def lfUpto (al : Int → Bool) (xs ts : List Int) (th : Bool) (k : Nat) : List (Int × Int) := (List.range k).flatMap (lfAt al xs ts th)
def lfFind (al : Int → Bool) (xs ts : List Int) (th : Bool) : List (Int × Int) := if xs.length = ts.length then lfUpto al xs ts th xs.length else []
theorem lfUpto_succ (al : Int → Bool) (xs ts : List Int) (th : Bool) (k : Nat) : lfUpto al xs ts th (k + 1) = lfUpto al xs ts th k ++ lfAt al xs ts th k := by
  simp [lfUpto, List.range_succ]
theorem lfAt_le (al : Int → Bool) (xs ts : List Int) (th : Bool) (k : Nat) : (lfAt al xs ts th k).length ≤ 1 := by
  unfold lfAt; split
  · split <;> simp
  · simp
theorem lfUpto_le (al : Int → Bool) (xs ts : List Int) (th : Bool) (k : Nat) : (lfUpto al xs ts th k).length ≤ k := by
  induction k with
  | zero => simp [lfUpto]
  | succ k ih => rw [lfUpto_succ, List.length_append]; have := lfAt_le al xs ts th k; omega
/-- What a pair becomes, by the code of an alef and a form. -/
def lfCode (lig : Int → Int → Int) (xs ts : List Int) (p : Int × Int) : Int :=
  if 0 ≤ p.1 ∧ p.1 < xs.length ∧ 0 ≤ p.2 ∧ p.2 < xs.length then lig (xs.getD p.2.toNat 0) (if jJoined ts (jAhead ts p.1) then 2 else 1) else 0
/-- What the project keeps between two lams: where the next one that is not passed over stands. -/
def lfNext (ts : List Int) (k : Nat) (b : Int) : Prop := -1 ≤ b ∧ ∀ j : Nat, k ≤ j → (b = -1 → jFirst ts (j + 1) = -1) ∧ ((j : Int) < b → jFirst ts (j + 1) = b)
theorem lfNext.start (ts : List Int) : lfNext ts 0 0 := ⟨by omega, fun j _ => ⟨fun h => by omega, fun h => by omega⟩⟩
theorem lfNext.up {ts : List Int} {k : Nat} {b : Int} (h : lfNext ts k b) : lfNext ts (k + 1) b := ⟨h.1, fun j hj => h.2 j (by omega)⟩
theorem lfNext.new_ (ts : List Int) (k : Nat) : lfNext ts k (jFirst ts (k + 1)) := by
  rcases jFirst_ge ts (k + 1) with e | ⟨b, e⟩
  · rw [e]
    exact ⟨by omega, fun j hj => ⟨fun _ => jFirst_no e (by omega), fun h => by omega⟩⟩
  · rw [e]
    exact ⟨by omega, fun j hj => ⟨fun h => by omega, fun h => jFirst_mid e (by omega) (by omega)⟩⟩
/-- What the project goes by at a lam is what stands behind it. -/
theorem lfNext.is {ts : List Int} {k : Nat} {b : Int} (h : lfNext ts k b) (hb : ¬ (0 ≤ b ∧ b ≤ k)) : jFirst ts (k + 1) = b := by
  obtain ⟨h1, h2⟩ := h
  obtain ⟨a, c⟩ := h2 k (Nat.le_refl _)
  by_cases e : b = -1
  · rw [a e, e]
  · exact c (by omega)
theorem jFirst_gt (ts : List Int) (k : Nat) : jFirst ts k = -1 ∨ (k : Int) ≤ jFirst ts k ∧ jFirst ts k < ts.length := by
  rcases jFirst_ge ts k with e | ⟨b, e⟩
  · exact .inl e
  · obtain ⟨h1, h2, _⟩ := jFirst_is e
    rw [e]; exact .inr ⟨by omega, by omega⟩
end Go.Proofs.Ytcjcimdembkbkaa
/- The forms, as the project fills them in: the steps. No function of the program. -/
namespace Go.Proofs.Ytcjcimdembkbkaa

theorem jFirst_of {ts : List Int} {k b : Nat} {t : Int} (hkb : k ≤ b) (hb : ts[b]? = some t) (ht : t ≠ 1) (h : ∀ j, k ≤ j → j < b → ts[j]? = some 1) : jFirst ts k = b := by
  have key : ∀ m, m ≤ b - k → jFirst ts (b - m) = b := by
    intro m
    induction m with
    | zero => intro _; rw [Nat.sub_zero]; exact jFirst_hit hb ht
    | succ m ih =>
      intro hm
      rw [jFirst_skip (h (b - (m + 1)) (by omega) (by omega)), show b - (m + 1) + 1 = b - m by omega]
      exact ih (by omega)
  have := key (b - k) (Nat.le_refl _)
  rwa [show b - (b - k) = k by omega] at this
theorem jFirst_none {ts : List Int} {k : Nat} (h : ∀ j, k ≤ j → j < ts.length → ts[j]? = some 1) : jFirst ts k = -1 := by
  rcases jFirst_ge ts k with e | ⟨b, e⟩
  · exact e
  · obtain ⟨h1, h2, ⟨t, h3, h4⟩, _⟩ := jFirst_is e
    rw [h b h1 h2] at h3
    exact absurd (Option.some.inj h3).symm h4
/-- Whether the one ahead of a place that waits joins it. -/
def jAh (ts : List Int) (wv : Int) : Bool := if 0 ≤ wv then jJoinI ts (jLast ts wv.toNat) else false
/-- What is filled in for the one that waits. -/
def jFill (ts fs : List Int) (wv : Int) (a b : Bool) : List Int := if 0 ≤ wv ∧ formedB (ts.getD wv.toNat 0) = true then fs.set wv.toNat (formK a b) else fs
theorem jFill_step {ts : List Int} {k : Nat} (hk : k ≤ ts.length) : jFill ts (jPart ts (jLast ts k)) (jLast ts k) (jAh ts (jLast ts k)) (jJoinI ts (jLast ts k)) = jPart ts k := by
  by_cases h : jLast ts k = -1
  · rw [h, jPart_none hk h]
    exact if_neg (fun h => absurd h.1 (by decide))
  · obtain ⟨n, hn⟩ : ∃ n : Nat, jLast ts k = n := ⟨(jLast ts k).toNat, by have := (jLast_lt ts k).2; omega⟩
    obtain ⟨a, ⟨t, b1, b2⟩, c⟩ := jLast_is ts k hk hn
    have hj : jJoinI ts n = jJoin ts n := by simp [jJoinI]
    have hah : jAh ts n = jJoinI ts (jLast ts n) := by simp [jAh]
    have hg : ts.getD n 0 = t := by simp [b1]
    rw [hn]
    unfold jFill
    rw [Int.toNat_natCast, hg]
    by_cases hf : formedB t = true
    · rw [if_pos ⟨by omega, hf⟩, jPart_step hk hn, jForm_at b1, if_pos hf, hj, hah]
    · rw [if_neg (fun h => hf h.2), jPart_stay hk hn b1 (by simpa using hf)]
theorem jJoinI_next {ts : List Int} {k : Nat} {t : Int} (ht : ts[k]? = some t) (h1 : t ≠ 1) : jJoinI ts (jLast ts k) = (decide (jLast ts k ≠ -1) && (reachB (ts.getD (jLast ts k).toNat 0) && meetB t)) := by
  have hk := (List.getElem?_eq_some_iff.1 ht).1
  by_cases h : jLast ts k = -1
  · rw [h]; rfl
  · obtain ⟨n, hn⟩ : ∃ n : Nat, jLast ts k = n := ⟨(jLast ts k).toNat, by have := (jLast_lt ts k).2; omega⟩
    obtain ⟨a, ⟨u, b1, b2⟩, c⟩ := jLast_is ts k (by omega) hn
    rw [hn, decide_eq_true (show (n : Int) ≠ -1 by omega), Bool.true_and, Int.toNat_natCast]
    have hg : ts.getD n 0 = u := by simp [b1]
    rw [hg]
    unfold jJoinI
    rw [if_pos (by omega), Int.toNat_natCast]
    exact jJoin_some b1 (jFirst_of (by omega) ht h1 (fun j h2 h3 => c j (by omega) h3)) ht
theorem jJoinI_end (ts : List Int) : jJoinI ts (jLast ts ts.length) = false := by
  by_cases h : jLast ts ts.length = -1
  · rw [h]; rfl
  · obtain ⟨n, hn⟩ : ∃ n : Nat, jLast ts ts.length = n := ⟨(jLast ts ts.length).toNat, by have := (jLast_lt ts ts.length).2; omega⟩
    obtain ⟨a, _, c⟩ := jLast_is ts ts.length (Nat.le_refl _) hn
    rw [hn]
    unfold jJoinI
    rw [if_pos (by omega), Int.toNat_natCast]
    exact jJoin_none (jFirst_none (fun j h2 h3 => c j (by omega) h3))
theorem jAh_next {ts : List Int} {k : Nat} : jAh ts k = jJoinI ts (jLast ts k) := by simp [jAh]
end Go.Proofs.Ytcjcimdembkbkaa
/- lamalef's Alef and the reference's. -/
namespace Go.Proofs.Ytcjcimdembkbkaa
open Go.RowKit

def alefB (c : Int) : Bool := (ligF c 1).2
theorem lfAlef_any (c : Int) (w : World) : Calls Try.prog 32 #[.int .i64 c] w fun e w' => e = .returned (.bool (alefB c)) ∧ Below w.heap.size w w' := by
  obtain ⟨x, ok, h⟩ : ∃ x ok, ligF c 1 = (x, ok) := ⟨_, _, rfl⟩
  have HL := Lib.hid (fun w => fmLigate_any c 1 x ok h (by omega) (by omega) w)
  rw [show alefB c = ok by unfold alefB; rw [h]]
  clear h
  go_enter Try.func32, Try.ntmps32
  go_wp2_with fail
  refine (HL.out _).mono ?_
  rintro e w1 ⟨rfl, hb1⟩
  go_wp2
  go_ret
  exact ⟨rfl, hb1⟩
theorem refAlef_any (c : Int) (w : World) : Calls Try.prog 33 #[.int .i64 c] w fun e w' => e = .returned (.bool (alefB c)) ∧ Below w.heap.size w w' := by
  obtain ⟨x, ok, h⟩ : ∃ x ok, ligF c 1 = (x, ok) := ⟨_, _, rfl⟩
  have HL := Lib.hid (fun w => refLigate_any c 1 x ok h w)
  rw [show alefB c = ok by unfold alefB; rw [h]]
  clear h
  go_enter Try.func33, Try.ntmps33
  go_wp2_with fail
  refine (HL.out _).mono ?_
  rintro e w1 ⟨rfl, hb1⟩
  go_wp2
  go_ret
  exact ⟨rfl, hb1⟩
end Go.Proofs.Ytcjcimdembkbkaa
/- The given ranges of classes and of joining, as lists. -/
namespace Go.Proofs.Ytcjcimdembkbkaa

def bidiL : List Rg := [(0, 8, 9), (9, 9, 11), (10, 10, 10), (11, 11, 11), (12, 12, 12), (13, 13, 10), (14, 27, 9), (28, 30, 10), (31, 31, 11), (32, 32, 12), (33, 34, 13), (35, 37, 5), (38, 42, 13), (43, 43, 4), (44, 44, 7), (45, 45, 4), (46, 47, 7), (48, 57, 3), (58, 58, 7), (59, 64, 13), (91, 96, 13), (123, 126, 13), (127, 132, 9), (133, 133, 10), (134, 159, 9), (160, 160, 7), (161, 161, 13), (162, 165, 5), (166, 169, 13), (171, 172, 13), (173, 173, 9), (174, 175, 13), (176, 177, 5), (178, 179, 3), (180, 180, 13), (182, 184, 13), (185, 185, 3), (187, 191, 13), (215, 215, 13), (247, 247, 13), (697, 698, 13), (706, 719, 13), (722, 735, 13), (768, 879, 8), (1424, 1424, 1), (1425, 1469, 8), (1470, 1470, 1), (1471, 1471, 8), (1472, 1472, 1), (1473, 1474, 8), (1475, 1475, 1), (1476, 1477, 8), (1478, 1478, 1), (1479, 1479, 8), (1480, 1535, 1), (1536, 1541, 6), (1542, 1543, 13), (1544, 1544, 2), (1545, 1546, 5), (1547, 1547, 2), (1548, 1548, 7), (1549, 1549, 2), (1550, 1551, 13), (1552, 1562, 8), (1563, 1610, 2), (1611, 1631, 8), (1632, 1641, 6), (1642, 1642, 5), (1643, 1644, 6), (1645, 1647, 2), (1648, 1648, 8), (1649, 1749, 2), (1750, 1756, 8), (1757, 1757, 6), (1758, 1758, 13), (1759, 1764, 8), (1765, 1766, 2), (1767, 1768, 8), (1769, 1769, 13), (1770, 1773, 8), (1774, 1775, 2), (1776, 1785, 3), (1786, 1808, 2), (1809, 1809, 8), (1810, 1839, 2), (1840, 1866, 8), (1867, 1957, 2), (1958, 1968, 8), (1969, 1983, 2), (1984, 2026, 1), (2027, 2035, 8), (2036, 2037, 1), (2038, 2041, 13), (2042, 2044, 1), (2045, 2045, 8), (2046, 2069, 1), (2070, 2073, 8), (2074, 2074, 1), (2075, 2083, 8), (2084, 2084, 1), (2085, 2087, 8), (2088, 2088, 1), (2089, 2093, 8), (2094, 2136, 1), (2137, 2139, 8), (2140, 2143, 1), (2144, 2191, 2), (2192, 2193, 6), (2194, 2199, 2), (2200, 2207, 8), (2208, 2249, 2), (2250, 2273, 8), (2274, 2274, 6), (2275, 2306, 8), (8192, 8202, 12), (8203, 8205, 9), (8207, 8207, 1), (8208, 8231, 13), (8232, 8232, 12), (8233, 8233, 10), (8234, 8234, 14), (8235, 8235, 16), (8236, 8236, 18), (8237, 8237, 15), (8238, 8238, 17), (8239, 8239, 7), (8240, 8244, 5), (8245, 8259, 13), (8260, 8260, 7), (8261, 8286, 13), (8287, 8287, 12), (8288, 8293, 9), (8294, 8294, 19), (8295, 8295, 20), (8296, 8296, 21), (8297, 8297, 22), (8298, 8303, 9), (8304, 8304, 3), (8308, 8313, 3), (8314, 8315, 4), (8316, 8318, 13), (8320, 8329, 3), (8330, 8331, 4), (8332, 8334, 13), (8352, 8399, 5), (8400, 8432, 8), (8592, 8721, 13), (8722, 8722, 4), (8723, 8723, 5), (8724, 9013, 13), (9083, 9108, 13), (9110, 9254, 13), (9280, 9290, 13), (9312, 9351, 13), (9352, 9371, 3), (9450, 9899, 13), (9901, 10239, 13), (10496, 11123, 13), (11776, 11869, 13), (12288, 12288, 12), (12289, 12292, 13), (12296, 12320, 13), (12330, 12333, 8), (12336, 12336, 13), (64285, 64285, 1), (64286, 64286, 8), (64287, 64296, 1), (64297, 64297, 4), (64298, 64335, 1), (64336, 64829, 2), (64830, 64847, 13), (64848, 64974, 2), (64975, 64975, 13), (64976, 65007, 9), (65008, 65020, 2), (65021, 65023, 13), (65024, 65039, 8), (65040, 65049, 13), (65056, 65071, 8), (65072, 65103, 13), (65104, 65104, 7), (65105, 65105, 13), (65106, 65106, 7), (65108, 65108, 13), (65109, 65109, 7), (65110, 65118, 13), (65119, 65119, 5), (65120, 65121, 13), (65122, 65123, 4), (65124, 65126, 13), (65128, 65128, 13), (65129, 65130, 5), (65131, 65131, 13), (65136, 65278, 2), (65279, 65279, 9), (65281, 65282, 13), (65283, 65285, 5), (65286, 65290, 13), (65291, 65291, 4), (65292, 65292, 7), (65293, 65293, 4), (65294, 65295, 7), (65296, 65305, 3), (65306, 65306, 7), (65307, 65312, 13), (65339, 65344, 13), (65371, 65381, 13), (65504, 65505, 5), (65506, 65508, 13), (65509, 65510, 5), (65520, 65528, 9), (65529, 65533, 13), (65534, 65535, 9), (67584, 68863, 1), (68864, 68927, 2), (68928, 69631, 1), (120782, 120831, 3), (124928, 126063, 1), (126064, 126143, 2), (126144, 126207, 1), (126208, 126287, 2), (126288, 126463, 1), (126464, 126719, 2), (126720, 126975, 1), (126976, 127231, 13), (127232, 127242, 3), (127744, 128727, 13), (917504, 917759, 9), (917760, 917999, 8), (918000, 921599, 9)]
def joinL : List Rg := [(768, 879, 1), (1155, 1161, 1), (1425, 1469, 1), (1471, 1471, 1), (1473, 1474, 1), (1476, 1477, 1), (1479, 1479, 1), (1552, 1562, 1), (1564, 1564, 1), (1568, 1568, 3), (1570, 1573, 2), (1574, 1574, 3), (1575, 1575, 2), (1576, 1576, 3), (1577, 1577, 2), (1578, 1582, 3), (1583, 1586, 2), (1587, 1599, 3), (1600, 1600, 5), (1601, 1607, 3), (1608, 1608, 2), (1609, 1610, 3), (1611, 1631, 1), (1646, 1647, 3), (1648, 1648, 1), (1649, 1651, 2), (1653, 1655, 2), (1656, 1671, 3), (1672, 1689, 2), (1690, 1727, 3), (1728, 1728, 2), (1729, 1730, 3), (1731, 1739, 2), (1740, 1740, 3), (1741, 1741, 2), (1742, 1742, 3), (1743, 1743, 2), (1744, 1745, 3), (1746, 1747, 2), (1749, 1749, 2), (1750, 1756, 1), (1759, 1764, 1), (1767, 1768, 1), (1770, 1773, 1), (1774, 1775, 2), (1786, 1788, 3), (1791, 1791, 3), (1840, 1866, 1), (1958, 1968, 1), (1994, 2026, 3), (2027, 2035, 1), (2042, 2042, 5), (2200, 2207, 1), (2250, 2273, 1), (2275, 2306, 1), (8203, 8203, 1), (8205, 8205, 5), (8206, 8207, 1), (8234, 8238, 1), (8288, 8292, 1), (8298, 8303, 1), (8400, 8432, 1), (43072, 43121, 3), (43122, 43122, 4), (65024, 65039, 1), (65056, 65071, 1), (65279, 65279, 1), (917760, 917999, 1)]
end Go.Proofs.Ytcjcimdembkbkaa
/- What codes are, as functions of the given ranges. -/
namespace Go.Proofs.Ytcjcimdembkbkaa
open Go.RowKit
def classF (c : Int) : Int := if 0 ≤ c ∧ c ≤ 1114111 then getG bidiL 0 c else 13
def joinF (c : Int) : Int := getG joinL 0 c
end Go.Proofs.Ytcjcimdembkbkaa
/- No place is in two pairs. No function of the program. -/
namespace Go.Proofs.Ytcjcimdembkbkaa

/-- A pair at place i. -/
def LfIs (xs ts : List Int) (th : Bool) (p : Int × Int) : Prop := ∃ i b : Nat, p = ((i : Int), (b : Int)) ∧ xs[i]? = some 1604 ∧ jFirst ts (i + 1) = b ∧ alefB (xs.getD b 0) = true ∧ (th = true ∨ (b : Int) = (i : Int) + 1)
theorem lfAt_mem {xs ts : List Int} {th : Bool} {k : Nat} {p : Int × Int} (h : p ∈ lfAt alefB xs ts th k) : LfIs xs ts th p ∧ p.1 = k := by
  unfold lfAt at h
  split at h
  · rename_i hx
    split at h
    · rename_i hc
      obtain ⟨h0, h1, h2⟩ := hc
      obtain rfl : p = ((k : Int), jFirst ts (k + 1)) := by simpa using h
      obtain ⟨b, hb⟩ : ∃ b : Nat, jFirst ts (k + 1) = b := ⟨(jFirst ts (k + 1)).toNat, by omega⟩
      rw [hb] at h0 h1 h2 ⊢
      exact ⟨⟨k, b, rfl, hx, hb, by simpa using h1, h2⟩, rfl⟩
    · simp at h
  · simp at h
theorem lfUpto_mem {xs ts : List Int} {th : Bool} {k : Nat} {p : Int × Int} (h : p ∈ lfUpto alefB xs ts th k) : LfIs xs ts th p ∧ p.1 < k := by
  simp only [lfUpto, List.mem_flatMap, List.mem_range] at h
  obtain ⟨j, hj, hp⟩ := h
  obtain ⟨h1, h2⟩ := lfAt_mem hp
  exact ⟨h1, by omega⟩
theorem lfUpto_rise (xs ts : List Int) (th : Bool) (k : Nat) : (lfUpto alefB xs ts th k).Pairwise fun p q => p.1 < q.1 := by
  induction k with
  | zero => simp [lfUpto]
  | succ k ih =>
    rw [lfUpto_succ, List.pairwise_append]
    refine ⟨ih, ?_, fun p hp q hq => ?_⟩
    · have hl := lfAt_le alefB xs ts th k
      match lfAt alefB xs ts th k, hl with
      | [], _ => exact List.Pairwise.nil
      | [x], _ => exact List.pairwise_singleton _ _
    · have h1 := (lfUpto_mem hp).2
      have h2 := (lfAt_mem hq).2
      omega
theorem alef_lam : alefB 1604 = false := by decide +kernel
theorem join_lam : joinF 1604 = 3 := by decide +kernel
/-- Two pairs share no place. -/
theorem lf_apart {xs : List Int} {th : Bool} {p q : Int × Int} (hp : LfIs xs (xs.map joinF) th p) (hq : LfIs xs (xs.map joinF) th q) (h : q.1 < p.1) : p.1 ≠ q.1 ∧ p.1 ≠ q.2 ∧ p.2 ≠ q.1 ∧ p.2 ≠ q.2 := by
  obtain ⟨i, b, rfl, h1, h2, h3, _⟩ := hp
  obtain ⟨i', b', rfl, k1, k2, k3, _⟩ := hq
  simp only at h ⊢
  obtain ⟨f1, _, _, _⟩ := jFirst_is h2
  obtain ⟨g1, _, _, g4⟩ := jFirst_is k2
  refine ⟨by omega, ?_, by omega, ?_⟩
  · intro e
    have e' : i = b' := by omega
    subst e'
    rw [List.getD_eq_getElem?_getD, h1, Option.getD_some, alef_lam] at k3
    exact absurd k3 (by simp)
  · intro e
    have e' : b = b' := by omega
    subst e'
    have := g4 i (by omega) (by omega)
    rw [List.getElem?_map, h1, Option.map_some, join_lam] at this
    exact absurd (Option.some.inj this) (by omega)
/-- The k-th pair is in no pair ahead of it. -/
theorem lf_new {xs : List Int} {th : Bool} {l : List (Int × Int)} (hl : lfFind alefB xs (xs.map joinF) th = l) {k : Nat} {p q : Int × Int} (hp : l[k]? = some p) (hq : q ∈ l.take k) : p.1 ≠ q.1 ∧ p.1 ≠ q.2 ∧ p.2 ≠ q.1 ∧ p.2 ≠ q.2 := by
  unfold lfFind at hl
  rw [if_pos (by simp)] at hl
  have hr := lfUpto_rise xs (xs.map joinF) th xs.length
  rw [hl] at hr
  have hpm := (lfUpto_mem (hl ▸ List.mem_of_getElem? hp)).1
  have hqm := (lfUpto_mem (hl ▸ List.mem_of_mem_take hq)).1
  refine lf_apart hpm hqm ?_
  have hk := (List.getElem?_eq_some_iff.1 hp).1
  obtain ⟨j, hj, rfl⟩ := List.getElem_of_mem hq
  have hj' : j < k := by rw [List.length_take] at hj; omega
  have := List.pairwise_iff_getElem.1 hr j k (by omega) hk hj'
  rw [List.getElem_take]
  have e : l[k] = p := by rw [List.getElem?_eq_getElem hk] at hp; exact Option.some.inj hp
  rw [← e]
  exact this
theorem lf_is {xs : List Int} {th : Bool} {l : List (Int × Int)} (hl : lfFind alefB xs (xs.map joinF) th = l) {k : Nat} {p : Int × Int} (hp : l[k]? = some p) : LfIs xs (xs.map joinF) th p := by
  unfold lfFind at hl
  rw [if_pos (by simp)] at hl
  exact (lfUpto_mem (hl ▸ List.mem_of_getElem? hp)).1
/-- What has been seen: places of the pairs so far. -/
def SeenIn (sn : List Bool) (l : List (Int × Int)) (k : Nat) : Prop := ∀ j : Nat, sn[j]? = some true → ∃ q ∈ l.take k, (j : Int) = q.1 ∨ (j : Int) = q.2
theorem SeenIn.zero {n : Nat} {l : List (Int × Int)} : SeenIn (List.replicate n false) l 0 := fun j h => by
  rw [List.getElem?_replicate] at h
  split at h <;> simp at h
theorem SeenIn.more {sn : List Bool} {l : List (Int × Int)} {k i b : Nat} (h : SeenIn sn l k) (hp : l[k]? = some ((i : Int), (b : Int))) : SeenIn ((sn.set i true).set b true) l (k + 1) := fun j hj => by
  rw [List.take_add_one, hp]
  by_cases e : j = b
  · exact ⟨((i : Int), (b : Int)), by simp, .inr (by rw [e])⟩
  · rw [List.getElem?_set_ne (by omega)] at hj
    by_cases e2 : j = i
    · exact ⟨((i : Int), (b : Int)), by simp, .inl (by rw [e2])⟩
    · rw [List.getElem?_set_ne (by omega)] at hj
      obtain ⟨q, hq, h2⟩ := h j hj
      exact ⟨q, by simp [hq], h2⟩
end Go.Proofs.Ytcjcimdembkbkaa
/- More words for memory: make with a length and a capacity; values in an aggregate. -/
namespace Go.Proofs.Ytcjcimdembkbkaa
open Go.RowKit

/-- make([]T, l, c), T of one cell. -/
theorem wpList_mkN {P : Program} {w : World} {ops : Array Oper} {rest : List Oper} {o : Oper} {a : Act} {Q : Exit → Act → World → Prop}
    (hg : o.guard = none) (lo co : Operand) (t : TypeId) (hop : o.op = Op.makeSlice t lo co)
    {base : Nat} {e : TypeId} {bytes : Nat} {z : Value} (ht : P.underlying t = some (.slice e)) (hin : (P.info? e).map (fun i => (i.zero, i.size, i.bytes)) = some (some z, 1, bytes)) (hz : z.cells = #[z])
    {kl kc : IntKind} (L C : Int) (l c : Nat) (hl : a.eval lo = .int kl L) (hc : a.eval co = .int kc C) (hL : L = (l : Int)) (hC : C = (c : Int)) (hlc : l ≤ c) (b2 : bytes * c ≤ 281474976710656) (b3 : c ≤ maxLen) (b4 : base ≤ w.heap.size)
    (hK : ∀ w', w'.ownsRow base e 1 (.slice (some ⟨w.heap.size, 0, none⟩) l c) l (List.replicate l z) → w.grownBy w' none → wpList P ops Q rest (a.put o.dst (.slice (some ⟨w.heap.size, 0, none⟩) l c)) w') :
    wpList P ops Q (o :: rest) a w := by
  obtain ⟨i, h1, h2, h3, h4⟩ := info_parts hin
  subst hL hC
  have h63 : ((c : Nat) : Int) ≤ 9223372036854775807 := by unfold maxLen at b3; omega
  have hb' : (i.bytes : Int) * (c : Int) ≤ 281474976710656 := by
    have h : ((i.bytes * c : Nat) : Int) ≤ 281474976710656 := by rw [h4]; omega
    rwa [Int.natCast_mul] at h
  have hr := run_make (P := P) w t e i z ht h1 h2 kl kc l c (by omega) (by omega) hb' h63
  simp only [Int.toNat_natCast, h3, Nat.mul_one, hz] at hr
  have hown : (w.alloc (.cells (madeCells #[z] c) e)).ownsRow base e 1 (.slice (some ⟨w.heap.size, 0, none⟩) l c) l (List.replicate l z) := by
    refine ⟨by simp, .inr ⟨w.heap.size, c, madeCells #[z] c, rfl, b4, heap_alloc_new w _, hlc, b3, by rw [size_madeCells]; omega, ?_⟩⟩
    rw [toList_madeCells_one, Nat.mul_one, List.take_replicate]
    congr 1
    omega
  refine wpList_plain hg fun K hK' => ?_
  unfold Oper.wp
  simp [execOp, hop, hl, hc, hr, Result.andThen]
  exact hK' _ _ (hK _ hown (World.grownBy_alloc w _ none))

/-- A row of the call's own with at least one element: where it lies. -/
theorem own_at {w : World} {base : Nat} {e : TypeId} {v : Value} {n : Nat} {xs : List Value} (h : w.ownsRow base e 1 v n xs) (hn : 0 < n) :
    ∃ g c, v = .slice (some ⟨g, 0, none⟩) n c ∧ n ≤ c ∧ g < w.heap.size ∧ base ≤ g ∧ ∀ j u, xs[j]? = some u → w.cell? ⟨g, j, none⟩ = some u := by
  obtain ⟨g, c, hv, hbg, hlt⟩ := h.form hn
  obtain ⟨_, _, e, hnc⟩ := own_form h
  subst hv
  injection e with _ _ e
  subst e
  refine ⟨g, c, rfl, hnc, hlt, hbg, fun j u hj => ?_⟩
  have := h.cells (g := g) rfl j u hj
  rwa [addNew] at this
/-- What is owned from a later block on is owned from an earlier one on. -/
theorem own_base {w : World} {base b' : Nat} {e : TypeId} {size : Nat} {v : Value} {n : Nat} {xs : List Value} (h : w.ownsRow base e size v n xs) (hb : b' ≤ base) : w.ownsRow b' e size v n xs := by
  obtain ⟨h1, h2⟩ := h
  refine ⟨h1, ?_⟩
  rcases h2 with h2 | ⟨g, cap, cur, hv, hg, r⟩
  · exact .inl h2
  · exact .inr ⟨g, cap, cur, hv, Nat.le_trans hb hg, r⟩
/-- A block of the call's own that no row is, behind an append or a make. -/
theorem blk_grown {w w' : World} {b : Nat} {o : Obj} {row : Option Nat} (h : w.heap[b]? = some o) (hg : w.grownBy w' row) (hne : row ≠ some b) : w'.heap[b]? = some o :=
  (hg.block b (by
    rcases Nat.lt_or_ge b w.heap.size with h' | h'
    · exact h'
    · simp [Array.getElem?_eq_none h'] at h) (fun e => hne e.symm)).trans h
theorem blk_alloc {w : World} {b : Nat} {o : Obj} (h : w.heap[b]? = some o) (o' : Obj) : (w.alloc o').heap[b]? = some o :=
  blk_grown h (World.grownBy_alloc w _ none) (by simp)
/-- A callee that leaves the world alone, inside a quiet region. -/
theorem quiet_eq {P : Program} {f : FuncId} {args : Array Value} {w : World} {n : Nat} {v : Value}
    (h : Calls P f args (w.drewN n) fun e w' => e = .returned v ∧ w.drewN n = w') : Calls P f args (w.drewN n) fun e w'' => e = .returned v ∧ ∃ m, w'' = w.drewN m :=
  Calls.quiet_of_same (h.mono fun _ _ ⟨a, b⟩ => ⟨a, b.symm⟩)
theorem toList_madeSame (z : Array Value) (z0 : Value) (h0 : 0 < z.size) (hz : ∀ j, j < z.size → z[j]! = z0) (n : Nat) : (madeCells z n).toList = List.replicate n z0 := by
  rw [List.eq_replicate_iff]
  refine ⟨by simp [madeCells], fun b hb => ?_⟩
  simp only [madeCells, Array.toList_map, List.mem_map] at hb
  obtain ⟨j, _, rfl⟩ := hb
  exact hz _ (Nat.mod_lt _ h0)
/-- make([]T, n), T a struct whose cells are all the same at zero. -/
theorem wpList_mkZ {P : Program} {w : World} {ops : Array Oper} {rest : List Oper} {o : Oper} {a : Act} {Q : Exit → Act → World → Prop}
    (hg : o.guard = none) (l c : Operand) (t : TypeId) (hop : o.op = Op.makeSlice t l c)
    {base : Nat} {e : TypeId} {size bytes : Nat} {z z0 : Value} (ht : P.underlying t = some (.slice e)) (hin : (P.info? e).map (fun i => (i.zero, i.size, i.bytes)) = some (some z, size, bytes)) (h0 : 0 < z.cells.size) (hz : ∀ j, j < z.cells.size → z.cells[j]! = z0)
    {kl kc : IntKind} (L C : Int) (n : Nat) (hl : a.eval l = .int kl L) (hc : a.eval c = .int kc C) (hL : L = (n : Int)) (hC : C = (n : Int)) (b2 : bytes * n ≤ 281474976710656) (b3 : n ≤ maxLen) (b4 : base ≤ w.heap.size)
    (hK : ∀ w', w'.ownsRow base e size (.slice (some ⟨w.heap.size, 0, none⟩) n n) n (List.replicate (n * size) z0) → w.grownBy w' none → wpList P ops Q rest (a.put o.dst (.slice (some ⟨w.heap.size, 0, none⟩) n n)) w') :
    wpList P ops Q (o :: rest) a w := by
  obtain ⟨i, h1, h2, h3, h4⟩ := info_parts hin
  refine wpList_make_full w hg l c t hop base e i z size ht h1 h2 h3 kl kc L C n hl hc hL hC (by rw [h4]; exact b2) b3 b4 (fun w' a1 a2 => hK w' ?_ a2)
  rwa [toList_madeSame _ z0 h0 hz] at a1
/-- Two cells next to each other, stored into a row of the call's own. -/
theorem own_store2 {w : World} {base : Nat} {e : TypeId} {size g n cap : Nat} {xs : List Value} (h : w.ownsRow base e size (.slice (some ⟨g, 0, none⟩) n cap) n xs) (j : Nat) (u v : Value) :
    ((w.setCell ⟨g, j, none⟩ u).setCell ⟨g, j + 1, none⟩ v).ownsRow base e size (.slice (some ⟨g, 0, none⟩) n cap) n ((xs.set j u).set (j + 1) v) :=
  ((h.stored j u).1.stored (j + 1) v).1
/-- A cell of a row of the call's own is there and may be written. -/
theorem own_slot {w : World} {base : Nat} {e : TypeId} {size g n cap : Nat} {xs : List Value} (h : w.ownsRow base e size (.slice (some ⟨g, 0, none⟩) n cap) n xs) {j : Nat} (hj : j < n * size) :
    (∃ u, w.cell? ⟨g, j, none⟩ = some u) ∧ w.frozen? ⟨g, j, none⟩ = false :=
  ⟨⟨xs[j]'(by rw [h.1]; exact hj), by rw [h.cellAt j hj, List.getElem?_eq_getElem]⟩, h.frozenAt j⟩
end Go.Proofs.Ytcjcimdembkbkaa
/- The trie's reference: Check and Get; the project's rise. -/
namespace Go.Proofs.Ytcjcimdembkbkaa
open Go.RowKit

set_option maxRecDepth 100000 in
set_option maxHeartbeats 1000000 in
theorem prRise_any (A : Option Addr) (n c : Nat) (l : List Rg) (w : World) (hr : Rd w 3 A n (cellsG l)) (hn : n ≤ maxLen) :
    Calls Try.prog 68 #[.slice A n c] w fun e w' => e = .returned (.bool (riseB (-1) l)) ∧ Below w.heap.size w w' := by
  have HL := Lib.hid hr.lenG
  unfold maxLen at hn
  go_enter Try.func68, Try.ntmps68
  go_wp2
  go_loopw [3, 8] (fun z i wr => ∃ (k : Nat) (x : Int), k ≤ n ∧ i = .int .i64 k ∧ z = .int .i64 x ∧ riseB (-1) l = riseB x (l.drop k) ∧ Below w.heap.size w wr) (fun _ i _ => n - (intOf i).toNat)
  case atStart => exact ⟨0, -1, Nat.zero_le _, rfl, rfl, rfl, Below.refl _ _⟩
  case round =>
    obtain ⟨k, x, hk, rfl, rfl, hp, hb⟩ := hrel
    have HP := Lib.hid hp
    clear hp
    by_cases hlt : k < n
    · obtain ⟨s, hsk⟩ : ∃ s, l[k]? = some s := ⟨_, List.getElem?_eq_getElem (by rw [HL.out]; exact hlt)⟩
      obtain ⟨ad, rfl, hab, c1, c2, c3⟩ := (hr.below hb).rg hsk
      have HD := Lib.hid (dropCons hsk)
      clear hsk
      obtain ⟨lo, hi, v⟩ := s
      simp only at c1 c2 c3
      have hba := hb.alloc hb.size (.cells #[.int .i64 lo, .int .i64 hi, .int .i64 v] 81)
      have hc : lo ≤ x ∨ (x < lo ∧ hi < lo) ∨ (x < lo ∧ lo ≤ hi ∧ 1114111 < hi) ∨ (x < lo ∧ lo ≤ hi ∧ hi ≤ 1114111) := by omega
      rcases hc with h | ⟨h, h2⟩ | ⟨h, h2, h3⟩ | ⟨h, h2, h3⟩
      · have HF := Lib.hid (show riseB (-1) l = false by rw [HP.out, HD.out]; exact riseB_no (.inl h))
        go_wp2
        go_ret
        exact ⟨retB (by simp [HF.out]), hba⟩
      · have HF := Lib.hid (show riseB (-1) l = false by rw [HP.out, HD.out]; exact riseB_no (.inr (.inl h2)))
        go_wp2
        go_ret
        exact ⟨retB (by simp [HF.out]), hba⟩
      · have HF := Lib.hid (show riseB (-1) l = false by rw [HP.out, HD.out]; exact riseB_no (.inr (.inr h3)))
        go_wp2
        go_ret
        exact ⟨retB (by simp [HF.out]), hba⟩
      · have HF := Lib.hid (show riseB (-1) l = riseB hi (l.drop (k + 1)) by rw [HP.out, HD.out]; exact riseB_yes (by simp only; omega))
        go_wp2
        go_roundw
        case rel => exact ⟨k + 1, hi, by omega, by go_num, rfl, HF.out, hba⟩
        case measure => simp [intOf]; omega
    · have HF := Lib.hid (show riseB (-1) l = true by rw [HP.out, List.drop_eq_nil_of_le (by rw [HL.out]; omega)]; rfl)
      go_wp2
      go_ret
      exact ⟨retB (by simp [HF.out]), hb⟩

set_option maxRecDepth 100000 in
set_option maxHeartbeats 1000000 in
theorem refGetG_any (A : Option Addr) (n c : Nat) (l : List Rg) (z x : Int) (w : World) (hr : Rd w 3 A n (cellsG l)) (hn : n ≤ maxLen) :
    Calls Try.prog 59 #[.slice A n c, .int .i64 z, .int .i64 x] w fun e w' => e = .returned (.int .i64 (getG l z x)) ∧ w = w' := by
  have HL := Lib.hid hr.lenG
  unfold maxLen at hn
  go_enter Try.func59, Try.ntmps59
  go_wp2
  go_loopw [7] (fun i wr => ∃ (k : Nat), k ≤ n ∧ i = .int .i64 k ∧ getG l z x = getG (l.drop k) z x ∧ w = wr) (fun i _ => n - (intOf i).toNat)
  case atStart => exact ⟨0, Nat.zero_le _, rfl, rfl, rfl⟩
  case round =>
    obtain ⟨k, hk, rfl, hp, rfl⟩ := hrel
    have HP := Lib.hid hp
    clear hp
    by_cases hlt : k < n
    · obtain ⟨s, hsk⟩ : ∃ s, l[k]? = some s := ⟨_, List.getElem?_eq_getElem (by rw [HL.out]; exact hlt)⟩
      obtain ⟨ad, rfl, hab, c1, c2, c3⟩ := hr.rg hsk
      have HD := Lib.hid (dropCons hsk)
      clear hsk
      obtain ⟨lo, hi, v⟩ := s
      simp only at c1 c2 c3
      by_cases h1 : lo ≤ x
      · by_cases h2 : x ≤ hi
        · have HF := Lib.hid (show getG l z x = v by rw [HP.out, HD.out]; exact if_pos ⟨h1, h2⟩)
          go_wp2
          go_ret
          exact ⟨by simp [HF.out], rfl⟩
        · have HF := Lib.hid (show getG l z x = getG (l.drop (k + 1)) z x by rw [HP.out, HD.out]; exact if_neg (fun h => h2 h.2))
          go_wp2
          go_roundw
          case rel => exact ⟨k + 1, by omega, by go_num, HF.out, trivial⟩
          case measure => simp [intOf]; omega
      · have HF := Lib.hid (show getG l z x = getG (l.drop (k + 1)) z x by rw [HP.out, HD.out]; exact if_neg (fun h => h1 h.1))
        go_wp2
        go_roundw
        case rel => exact ⟨k + 1, by omega, by go_num, HF.out, trivial⟩
        case measure => simp [intOf]; omega
    · have HF := Lib.hid (show getG l z x = z by rw [HP.out, List.drop_eq_nil_of_le (by rw [HL.out]; omega)]; rfl)
      go_wp2
      go_ret
      exact ⟨by simp [HF.out], rfl⟩
end Go.Proofs.Ytcjcimdembkbkaa
/- append of whatever reads as cells onto a row of the call's own, at a step of a region that draws its order. -/
namespace Go.Proofs.Ytcjcimdembkbkaa
open Go.RowKit

theorem run_appR {P : Program} (w : World) (t ty : TypeId) {base : Nat} {e : TypeId} {size bytes : Nat} (S : SliceOf P t e size bytes) (hsz : 0 < size)
    (v : Value) (n : Nat) (xs : List Value) (hown : w.ownsRow base e size v n xs)
    (A : Option Addr) (m c : Nat) (news : List Value) (hr : Rd w size A m news) (h1 : ∀ u ∈ news, u.oneCell' = true)
    (hbytes : (n + m) * bytes ≤ 140737488355328) (h63 : n + m ≤ maxLen) (hbase : base ≤ w.heap.size) :
    ∃ v' w', (Builtin.append_ #[t, t] ty #[v, .slice A m c]).run P w = .ok v' w' ∧ w'.ownsRow base e size v' (n + m) (xs ++ news) ∧ w.grownBy w' v.ownBlock ∧ (v'.ownBlock = v.ownBlock ∨ v'.ownBlock = some w.heap.size) := by
  rcases A with _ | ad
  · have hm : m = 0 := by
      rcases Nat.eq_zero_or_pos m with h0 | h0
      · exact h0
      · obtain ⟨_, e, _⟩ := hr.2 h0
        cases e
    subst hm
    have hn : news = [] := List.eq_nil_of_length_eq_zero (by simpa using hr.1)
    subst hn
    exact ⟨v, w, run_app_nil w base t ty e size bytes S v n xs hown c, by simpa using hown, World.grownBy.refl w _, .inl rfl⟩
  · obtain ⟨ht, i, z, hi, hz, hs1, hb1, hzs⟩ := S
    obtain ⟨v', w', hrun, h2, h3, _, h5⟩ := run_append_own_at (P := P) w base t ty e i z size bytes ht hi hz hs1 hb1 hzs hsz v n xs hown ad m c news hr.1 hr.news h1 h63 hbytes hbase
    exact ⟨v', w', hrun, h2, h3, h5⟩

theorem step_appR {P : Program} {w : World} {ops : Array Oper} {o : Oper} {a : Act} {K : Act → World → Prop} {Q : Exit → Act → World → Prop} {E : Prop} (hgd : o.guard = none) (s x : Operand) (t : TypeId)
    (ho : o.op = .call { callee := .builtin .append, args := #[s, x], argTypes := #[t, t] })
    {base : Nat} {e : TypeId} {size bytes : Nat} (S : SliceOf P t e size bytes) (hsz : 0 < size)
    (v : Value) (n : Nat) (xs : List Value) (hs : a.eval s = v) (hown : w.ownsRow base e size v n xs)
    (A : Option Addr) (m c : Nat) (news : List Value) (hx : a.eval x = .slice A m c) (hr : Rd w size A m news) (h1 : ∀ u ∈ news, u.oneCell' = true)
    (hbytes : (n + m) * bytes ≤ 140737488355328) (h63 : n + m ≤ maxLen) (hbase : base ≤ w.heap.size) (H : Nat) (hH : w.heap.size = H)
    (h : ∀ v' w', w'.ownsRow base e size v' (n + m) (xs ++ news) → w.grownBy w' v.ownBlock → (v'.ownBlock = v.ownBlock ∨ v'.ownBlock = some H) → K (a.put o.dst v') w') :
    if Region.wanted o (yielded ops a.tmps) = true then Oper.wp P o a w K Q else E := by
  have hw : Region.wanted o (yielded ops a.tmps) = true := by simp [Region.wanted, hgd]
  rw [if_pos hw]
  obtain ⟨v', w', hrun, h2, h3, h5⟩ := run_appR (P := P) w t o.type S hsz v n xs hown A m c news hr h1 hbytes h63 hbase
  unfold Oper.wp execOp
  simp only [ho, resolve, invoke, builtin, Sem.run_bind, Sem.run_pure, Result.andThen_ok, List.map_toArray, List.map_cons, List.map_nil, hs, hx, hrun]
  exact h v' w' h2 h3 (by rw [← hH]; exact h5)
theorem own_below {w w' : World} {base : Nat} {e : TypeId} {size n : Nat} {v : Value} {xs : List Value} (h : w.ownsRow base e size v n xs) (hb : Below w.heap.size w w') : w'.ownsRow base e size v n xs := by
  rcases hv : v.ownBlock with _ | g
  · exact h.kept (row := none) ⟨hb.os, hb.tape, hb.output, hb.size, fun k hk _ => hb.block k hk⟩ (.inl hv)
  · exact h.kept (row := none) ⟨hb.os, hb.tape, hb.output, hb.size, fun k hk _ => hb.block k hk⟩ (.inr (by rw [hv]; exact fun e => by cases e))
theorem below_of_drew {w w' : World} (h : Below w.drew.heap.size w.drew w') : Below w.heap.size w w' := ⟨h.os, h.tape, h.output, h.size, h.block⟩
theorem grown_of_below' {w w' : World} (row : Option Nat) (hb : Below w.heap.size w w') : w.grownBy w' row := ⟨hb.os, hb.tape, hb.output, hb.size, fun k hk _ => hb.block k hk⟩
theorem grown_set {a w : World} {g : Nat} (h : a.grownBy w (some g)) (j : Nat) (u : Value) : a.grownBy (w.setCell ⟨g, j, none⟩ u) (some g) :=
  ⟨h.os, h.tape, h.output, by simpa [World.setCell] using h.size, fun i hi hne => (Below.heap_setCell w ⟨g, j, none⟩ u i (fun e => hne (by rw [e]))).trans (h.block i hi hne)⟩
/-- Four cells next to each other, stored into a row of the call's own. -/
theorem own_store4 {w : World} {base : Nat} {e : TypeId} {size g n cap : Nat} {xs : List Value} (h : w.ownsRow base e size (.slice (some ⟨g, 0, none⟩) n cap) n xs) (j : Nat) (a b c d : Value) :
    ((((w.setCell ⟨g, j, none⟩ a).setCell ⟨g, j + 1, none⟩ b).setCell ⟨g, j + 2, none⟩ c).setCell ⟨g, j + 3, none⟩ d).ownsRow base e size (.slice (some ⟨g, 0, none⟩) n cap) n ((((xs.set j a).set (j + 1) b).set (j + 2) c).set (j + 3) d) :=
  ((((h.stored j a).1.stored (j + 1) b).1.stored (j + 2) c).1.stored (j + 3) d).1
theorem rd_blk {w : World} {b m : Nat} {cs : List Value} {t : TypeId} (size : Nat) (h : w.heap[b]? = some (.cells cs.toArray t (0, 0))) (hl : cs.length = m * size) : Rd w size (some ⟨b, 0, none⟩) m cs :=
  ⟨hl, fun _ => ⟨_, rfl, (Array.getElem?_eq_some_iff.1 h).1, World.news_of_block (cs := cs.toArray) (fr := (0, 0)) h⟩⟩
end Go.Proofs.Ytcjcimdembkbkaa
/- An array of the call's own: a block of whole numbers. -/
namespace Go.Proofs.Ytcjcimdembkbkaa
open Go.RowKit

/-- Block 'b' holds the whole numbers 'xs', none of them frozen. -/
def IntBlk (w : World) (b : Nat) (xs : List Int) : Prop := ∃ t, w.heap[b]? = some (.cells (xs.map (Value.int .i64)).toArray t (0, 0))
theorem IntBlk.lt {w : World} {b : Nat} {xs : List Int} (h : IntBlk w b xs) : b < w.heap.size := by
  obtain ⟨t, h⟩ := h
  exact (Array.getElem?_eq_some_iff.1 h).1
theorem IntBlk.cell {w : World} {b : Nat} {xs : List Int} (h : IntBlk w b xs) {j : Nat} {x : Int} (hj : xs[j]? = some x) : w.cell? ⟨b, j, none⟩ = some (.int .i64 x) := by
  obtain ⟨t, h⟩ := h
  simp [World.cell?, h, hj]
theorem IntBlk.thaw {w : World} {b : Nat} {xs : List Int} (h : IntBlk w b xs) (j : Nat) : w.frozen? ⟨b, j, none⟩ = false := by
  obtain ⟨t, h⟩ := h
  simp [World.frozen?, h]
theorem IntBlk.store {w : World} {b : Nat} {xs : List Int} (h : IntBlk w b xs) (j : Nat) (x : Int) : IntBlk (w.setCell ⟨b, j, none⟩ (.int .i64 x)) b (xs.set j x) := by
  obtain ⟨t, h⟩ := h
  refine ⟨t, ?_⟩
  simp [World.setCell, Array.getElem?_modify, h, List.map_set]
theorem IntBlk.far {w : World} {b b' : Nat} {xs : List Int} (h : IntBlk w b xs) (hne : b ≠ b') (j : Nat) (u : Value) : IntBlk (w.setCell ⟨b', j, none⟩ u) b xs := by
  obtain ⟨t, h⟩ := h
  exact ⟨t, (Below.heap_setCell w ⟨b', j, none⟩ u b hne).trans h⟩
theorem IntBlk.grown {w w' : World} {b : Nat} {xs : List Int} {row : Option Nat} (h : IntBlk w b xs) (hg : w.grownBy w' row) (hne : row ≠ some b) : IntBlk w' b xs := by
  obtain ⟨t, h⟩ := h
  exact ⟨t, blk_grown h hg hne⟩
theorem IntBlk.below {w w' : World} {b : Nat} {xs : List Int} (h : IntBlk w b xs) (hb : Below w.heap.size w w') : IntBlk w' b xs := by
  have hl := h.lt
  obtain ⟨t, h⟩ := h
  exact ⟨t, (hb.block b hl).trans h⟩
theorem IntBlk.drewN {w : World} {b : Nat} {xs : List Int} (h : IntBlk w b xs) (n : Nat) : IntBlk (w.drewN n) b xs := h
/-- A store into a block that the call made leaves what was there before it. -/
theorem below_set {w wr : World} {b : Nat} (h : Below w.heap.size w wr) (hb : w.heap.size ≤ b) (j : Nat) (u : Value) : Below w.heap.size w (wr.setCell ⟨b, j, none⟩ u) :=
  ⟨h.os, h.tape, h.output, by simpa [World.setCell] using h.size, fun i hi => (Below.heap_setCell wr ⟨b, j, none⟩ u i (by simp only; omega)).trans (h.block i hi)⟩
end Go.Proofs.Ytcjcimdembkbkaa
/- Blocks of 128 whole numbers and the table's struct: their zeros; whole blocks loaded and stored. -/
namespace Go.Proofs.Ytcjcimdembkbkaa
open Go.RowKit

/-- The cells of whole numbers. -/
def intsA (xs : List Int) : Array Value := (xs.map (Value.int .i64)).toArray
theorem intsA_size (xs : List Int) : (intsA xs).size = xs.length := by simp [intsA]
theorem intsA_one (xs : List Int) : (intsA xs).all (·.oneCell') = true := by
  rw [Array.all_eq_true_iff_forall_mem]
  intro v hv
  simp [intsA] at hv
  obtain ⟨x, _, rfl⟩ := hv
  rfl
theorem IntBlk.cells {w : World} {b : Nat} {xs : List Int} (h : IntBlk w b xs) : ∃ t, w.heap[b]? = some (.cells (intsA xs) t (0, 0)) := h
theorem blkZero : ∃ Z : Array Value, Z = intsA (List.replicate 128 0) ∧ ∀ w, (zeroValue 94).run Try.prog w = .ok (.agg Z) w :=
  ⟨_, rfl, (zero_of_info (n := 128) (by kernel_rfl)).1⟩
theorem blkSize {xs : List Int} (h : xs.length = 128) : (Try.prog.info? 94).map (·.size) = some (intsA xs).size := by
  rw [intsA_size, h]
  kernel_rfl
theorem modify_same {α : Type} {h : Array α} {g : Nat} {o : α} {f : α → α} (hg : h[g]? = some o) (hf : f o = o) : h.modify g f = h := by
  apply Array.ext_getElem?
  intro i
  rw [Array.getElem?_modify]
  by_cases hi : g = i
  · subst hi
    rw [if_pos rfl, hg]
    simp [hf]
  · rw [if_neg hi]
theorem setRow_same {w : World} {g : Nat} {cs : Array Value} {t : TypeId} (h : w.heap[g]? = some (.cells cs t (0, 0))) : w.setRow g cs = w := by
  unfold World.setRow
  rw [modify_same h rfl]
/-- A whole block stored. -/
theorem run_storeBlk {w : World} {g : Nat} {xs ys : List Int} {T : TypeId} (h : w.heap[g]? = some (.cells (intsA xs) T (0, 0))) (hx : xs.length = 128) (hy : ys.length = 128) :
    (storeCells ⟨g, 0, none⟩ (intsA ys).toList 0).run Try.prog w = .ok () (w.setRow g (intsA ys)) := by
  have hi := blkSize hy
  have := run_storeVar_row (P := Try.prog) w g T 94 _ (intsA ys) h hi (by rw [intsA_size, intsA_size, hx, hy]) (intsA_one ys)
  cases hq : Try.prog.info? 94 with
  | none => simp [hq] at hi
  | some i =>
    have hs : (intsA ys).size = i.size := by simp [hq] at hi; omega
    simpa [storeVar, sizeOf, typeInfo, hq, Value.cells, hs] using this
theorem run_storeBlk_same {w : World} {g : Nat} {xs : List Int} {T : TypeId} (h : w.heap[g]? = some (.cells (intsA xs) T (0, 0))) (hx : xs.length = 128) :
    (storeCells ⟨g, 0, none⟩ (intsA xs).toList 0).run Try.prog w = .ok () w := by
  rw [run_storeBlk h hx hx, setRow_same h]
end Go.Proofs.Ytcjcimdembkbkaa
/- Filling a block of codes from a range. -/
namespace Go.Proofs.Ytcjcimdembkbkaa
open Go.RowKit

/-- The block from the code 'lo' on, 'b', once the codes of 'r' below 'x' have its value. -/
def fillTo (lo : Int) (r : Rg) (x : Int) (b : List Int) : List Int := b.mapIdx fun j y => if r.1 ≤ lo + j ∧ lo + j ≤ r.2.1 ∧ lo + j < x then r.2.2 else y
def fillB (lo : Int) (r : Rg) (b : List Int) : List Int := b.mapIdx fun j y => if r.1 ≤ lo + j ∧ lo + j ≤ r.2.1 then r.2.2 else y
theorem fillTo_len (lo : Int) (r : Rg) (x : Int) (b : List Int) : (fillTo lo r x b).length = b.length := by simp [fillTo]
theorem fillB_len (lo : Int) (r : Rg) (b : List Int) : (fillB lo r b).length = b.length := by simp [fillB]
theorem fillTo_start (lo : Int) (r : Rg) (b : List Int) (x : Int) (h : x ≤ lo ∨ x ≤ r.1) : fillTo lo r x b = b := by
  apply List.ext_getElem?
  intro j
  simp only [fillTo, List.getElem?_mapIdx]
  cases hb : b[j]? with
  | none => rfl
  | some y =>
    simp only [Option.map_some]
    rw [if_neg (by omega)]
theorem fillTo_step (lo : Int) (r : Rg) (b : List Int) (x : Int) (h0 : lo ≤ x) (h1 : r.1 ≤ x) (h2 : x ≤ r.2.1) : (fillTo lo r x b).set (x - lo).toNat r.2.2 = fillTo lo r (x + 1) b := by
  apply List.ext_getElem?
  intro j
  simp only [List.getElem?_set, fillTo, List.getElem?_mapIdx, List.length_mapIdx]
  by_cases hj : (x - lo).toNat = j
  · subst hj
    rw [if_pos rfl]
    by_cases hl : (x - lo).toNat < b.length
    · rw [if_pos hl, List.getElem?_eq_getElem hl]
      simp only [Option.map_some]
      rw [if_pos (by omega)]
    · rw [if_neg hl, List.getElem?_eq_none (by omega)]
      rfl
  · rw [if_neg hj]
    cases hb : b[j]? with
    | none => rfl
    | some y =>
      simp only [Option.map_some]
      by_cases hc : r.1 ≤ lo + j ∧ lo + j ≤ r.2.1 ∧ lo + j < x
      · rw [if_pos hc, if_pos (by omega)]
      · rw [if_neg hc, if_neg (by omega)]
theorem fillTo_end (lo : Int) (r : Rg) (b : List Int) (x : Int) (h : lo + b.length ≤ x ∨ r.2.1 < x) : fillTo lo r x b = fillB lo r b := by
  apply List.ext_getElem?
  intro j
  simp only [fillTo, fillB, List.getElem?_mapIdx]
  cases hb : b[j]? with
  | none => rfl
  | some y =>
    have hj := (List.getElem?_eq_some_iff.1 hb).1
    simp only [Option.map_some]
    by_cases hc : r.1 ≤ lo + j ∧ lo + j ≤ r.2.1
    · rw [if_pos hc, if_pos (by omega)]
    · rw [if_neg hc, if_neg (by omega)]
/-- The block from 'lo' on, and what of the ranges goes on behind it. -/
def cutB (lo : Int) : List Rg → List Int → List Int × List Rg
  | [], b => (b, [])
  | r :: l, b => if r.1 ≤ lo + 127 then (if lo + 127 < r.2.1 then (fillB lo r b, r :: l) else cutB lo l (fillB lo r b)) else (b, r :: l)
theorem cutB_far {lo : Int} {r : Rg} {l : List Rg} {b : List Int} (h : lo + 127 < r.1) : cutB lo (r :: l) b = (b, r :: l) := if_neg (by omega)
theorem cutB_over {lo : Int} {r : Rg} {l : List Rg} {b : List Int} (h : r.1 ≤ lo + 127) (h2 : lo + 127 < r.2.1) : cutB lo (r :: l) b = (fillB lo r b, r :: l) := (if_pos h).trans (if_pos h2)
theorem cutB_on {lo : Int} {r : Rg} {l : List Rg} {b : List Int} (h : r.1 ≤ lo + 127) (h2 : r.2.1 ≤ lo + 127) : cutB lo (r :: l) b = cutB lo l (fillB lo r b) := (if_pos h).trans (if_neg (by omega))
theorem addZero (a : Addr) : a.add 0 = a := by
  unfold Addr.add
  split
  · rfl
  · rename_i h; cases a; simp_all
/-- The cells of the first range, as the walk spells them. -/
theorem Rd.rg0 {w : World} {A : Option Addr} {n : Nat} {s : Rg} {l : List Rg} (hr : Rd w 3 A n (cellsG (s :: l))) : ∃ ad, A = some ad ∧ ad.block < w.heap.size ∧ w.cell? ad = some (.int .i64 s.1) ∧
    w.cell? ⟨ad.block, ad.off + 1, none⟩ = some (.int .i64 s.2.1) ∧ w.cell? ⟨ad.block, ad.off + 2, none⟩ = some (.int .i64 s.2.2) := by
  obtain ⟨ad, hA, hb, h0, h1, h2⟩ := hr.rg (k := 0) (s := s) rfl
  rw [Nat.zero_mul, addZero] at h0 h1 h2
  exact ⟨ad, hA, hb, h0, h1, h2⟩
theorem addPos (a : Addr) {n : Nat} (h : n ≠ 0) : a.add n = ⟨a.block, a.off + n, none⟩ := by
  unfold Addr.add
  rw [if_neg h]
/-- What is left of a slice of ranges behind its first. -/
theorem Rd.tail {w : World} {ad : Addr} {n : Nat} {s : Rg} {l : List Rg} (hr : Rd w 3 (some ad) n (cellsG (s :: l))) : Rd w 3 (some ⟨ad.block, ad.off + 3, none⟩) (n - 1) (cellsG l) := by
  have hl := hr.lenG
  have h := hr.cut (k := 1) (cap := n + 1) (by rw [← hl]; simp) (by omega)
  rw [if_neg (by rw [← hl]; simp), Option.map_some, addPos ad (by omega)] at h
  exact h
end Go.Proofs.Ytcjcimdembkbkaa
