/- Groups of spans, as plain mathematics: spans that share places put together, singles between them; the same as the reference's. -/
import Derived.Test.YthhjcdnhlpjfnaaGroupsD
import Derived.Test.YthhjcdnhlpjfnaaLoM
namespace Go.Proofs.Ythhjcdnhlpjfnaa

def validB (n : Int) (s : Sp) : Bool := rightB s && decide (s.2 ≤ n)
/-- Spans by their Lo, those that share places put together; 'a' is the last one so far. -/
def mergeGo (a : Sp) : List Sp → List Sp
  | [] => [a]
  | s :: l => if s.1 < a.2 then mergeGo (a.1, if a.2 < s.2 then s.2 else a.2) l else a :: mergeGo s l
def mergeS : List Sp → List Sp
  | [] => []
  | s :: l => mergeGo s l
/-- Spans that rise and share no place, within e and n. -/
def RiseIn (e n : Int) : List Sp → Prop
  | [] => e ≤ n
  | s :: l => e ≤ s.1 ∧ s.1 < s.2 ∧ RiseIn s.2 n l
theorem RiseIn.le {e n : Int} {l : List Sp} (h : RiseIn e n l) : e ≤ n := by
  induction l generalizing e with
  | nil => exact h
  | cons s l ih =>
    have := ih h.2.2
    have := h.1
    have := h.2.1
    omega
theorem RiseIn.low {e e' n : Int} {l : List Sp} (h : RiseIn e n l) (he : e' ≤ e) : RiseIn e' n l := by
  cases l with
  | nil => exact Int.le_trans he h
  | cons s l => exact ⟨Int.le_trans he h.1, h.2⟩
theorem RiseIn.mem {e n : Int} {l : List Sp} (h : RiseIn e n l) : ∀ s ∈ l, e ≤ s.1 ∧ s.1 < s.2 ∧ s.2 ≤ n := by
  induction l generalizing e with
  | nil => simp
  | cons s l ih =>
    intro t ht
    simp at ht
    have h1 := h.1
    have h2 := h.2.1
    have h3 := h.2.2.le
    rcases ht with rfl | ht
    · omega
    · have := ih h.2.2 t ht
      omega
theorem merge_rise {n : Int} {l : List Sp} {a : Sp} (ha : a.1 < a.2 ∧ a.2 ≤ n) (hv : ∀ s ∈ l, s.1 < s.2 ∧ s.2 ≤ n) : RiseIn a.1 n (mergeGo a l) := by
  induction l generalizing a with
  | nil => exact ⟨Int.le_refl _, ha.1, ha.2⟩
  | cons s l ih =>
    have hs := hv s (by simp)
    have hl := fun t ht => hv t (List.mem_cons_of_mem s ht)
    unfold mergeGo
    by_cases hlt : s.1 < a.2
    · rw [if_pos hlt]
      exact ih (a := (a.1, if a.2 < s.2 then s.2 else a.2)) (by simp only; split <;> omega) hl
    · rw [if_neg hlt]
      exact ⟨Int.le_refl _, ha.1, (ih hs hl).low (by omega)⟩
theorem merge_across {l : List Sp} {a : Sp} (hs : ∀ s ∈ l, a.1 ≤ s.1) (hl : LoSorted l) (p : Int) : (∃ h ∈ mergeGo a l, h.1 < p ∧ p < h.2) ↔ ((a.1 < p ∧ p < a.2) ∨ ∃ s ∈ l, s.1 < p ∧ p < s.2) := by
  induction l generalizing a with
  | nil => simp [mergeGo]
  | cons s l ih =>
    unfold LoSorted at hl
    rw [List.pairwise_cons] at hl
    have has := hs s (by simp)
    unfold mergeGo
    by_cases hlt : s.1 < a.2
    · rw [if_pos hlt, ih (a := (a.1, if a.2 < s.2 then s.2 else a.2)) (fun t ht => hs t (by simp [ht])) hl.2]
      simp only
      simp only [List.mem_cons, exists_eq_or_imp]
      constructor
      · rintro (h | h)
        · by_cases hp : p < a.2
          · exact .inl ⟨h.1, hp⟩
          · refine .inr (.inl ?_)
            have := h.2
            split at this <;> omega
        · exact .inr (.inr h)
      · rintro (h | h | h)
        · refine .inl ⟨h.1, ?_⟩
          split <;> omega
        · refine .inl ⟨by omega, ?_⟩
          split <;> omega
        · exact .inr h
    · rw [if_neg hlt]
      simp only [List.mem_cons, exists_eq_or_imp]
      rw [ih hl.1 hl.2]

/-- Each place from e on, t of them, by itself. -/
def singles : Nat → Int → List Sp
  | 0, _ => []
  | t + 1, e => (e, e + 1) :: singles t (e + 1)
/-- The spans, and singles between them, from e to n. -/
def fillG (n : Int) : Int → List Sp → List Sp
  | e, [] => singles (n - e).toNat e
  | e, s :: l => singles (s.1 - e).toNat e ++ s :: fillG n s.2 l

theorem go_singles {n : Int} {l : List Sp} {t f : Nat} {e : Int} (h : ∀ p, e < p → p ≤ e + t → p = n ∨ partedS p n l = true) : groupsGo n l (t + f) e (e + 1) = singles t e ++ groupsGo n l f (e + t) (e + t + 1) := by
  induction t generalizing e with
  | zero => simp [singles]
  | succ t ih =>
    rw [show t + 1 + f = (t + f) + 1 by omega, groupsGo_yes (h (e + 1) (by omega) (by omega)), ih (fun p h1 h2 => h p (by omega) (by omega))]
    simp only [singles, List.cons_append]
    rw [show e + 1 + (t : Int) = e + ((t + 1 : Nat) : Int) by omega]
theorem go_span {n : Int} {l : List Sp} {t f : Nat} {lo p : Int} (h : ∀ q, p ≤ q → q < p + t → ¬ (q = n ∨ partedS q n l = true)) (he : p + t = n ∨ partedS (p + t) n l = true) : groupsGo n l (t + 1 + f) lo p = (lo, p + t) :: groupsGo n l f (p + t) (p + t + 1) := by
  induction t generalizing p with
  | zero =>
    rw [show 0 + 1 + f = f + 1 by omega, groupsGo_yes (by simpa using he)]
    simp
  | succ t ih =>
    rw [show t + 1 + 1 + f = (t + 1 + f) + 1 by omega, groupsGo_no (h p (by omega) (by omega)), ih (fun q h1 h2 => h q (by omega) (by omega)) (by rw [show p + 1 + (t : Int) = p + ((t + 1 : Nat) : Int) by omega]; exact he)]
    rw [show p + 1 + (t : Int) = p + ((t + 1 : Nat) : Int) by omega]
theorem go_fill {n : Int} {l H : List Sp} {e : Int} (he : 0 ≤ e) (hr : RiseIn e n H) (hp : ∀ p, e < p → (partedS p n l = false ↔ ∃ h ∈ H, h.1 < p ∧ p < h.2)) : groupsGo n l (n - e).toNat e (e + 1) = fillG n e H := by
  induction H generalizing e with
  | nil =>
    have hen : e ≤ n := hr
    have := go_singles (n := n) (l := l) (t := (n - e).toNat) (f := 0) (e := e) (fun p h1 h2 => .inr (by
      cases hq : partedS p n l with
      | true => rfl
      | false => obtain ⟨h, hh, _⟩ := (hp p h1).1 hq; cases hh))
    rw [Nat.add_zero] at this
    rw [this]
    simp [fillG, groupsGo]
  | cons s H ih =>
    obtain ⟨h1, h2, h3⟩ := hr
    have h4 := h3.le
    have hmem := h3.mem
    have hout : ∀ p, e < p → p ≤ s.1 → partedS p n l = true := fun p hp1 hp2 => by
      cases hq : partedS p n l with
      | true => rfl
      | false =>
        obtain ⟨h, hh, ha, hb⟩ := (hp p hp1).1 hq
        simp at hh
        rcases hh with rfl | hh
        · omega
        · have := hmem h hh
          omega
    have a1 := go_singles (n := n) (l := l) (t := (s.1 - e).toNat) (f := (s.2 - s.1 - 1).toNat + 1 + (n - s.2).toNat) (e := e) (fun p hp1 hp2 => .inr (hout p hp1 (by omega)))
    rw [show (s.1 - e).toNat + ((s.2 - s.1 - 1).toNat + 1 + (n - s.2).toNat) = (n - e).toNat by omega, show e + ((s.1 - e).toNat : Int) = s.1 by omega] at a1
    have hin : ∀ q, s.1 + 1 ≤ q → q < s.1 + 1 + ((s.2 - s.1 - 1).toNat : Int) → ¬ (q = n ∨ partedS q n l = true) := fun q hq1 hq2 h => by
      rcases h with h | h
      · omega
      · have := (hp q (by omega)).2 ⟨s, by simp, by omega, by omega⟩
        rw [h] at this
        cases this
    have hend : s.1 + 1 + ((s.2 - s.1 - 1).toNat : Int) = n ∨ partedS (s.1 + 1 + ((s.2 - s.1 - 1).toNat : Int)) n l = true := by
      rw [show s.1 + 1 + ((s.2 - s.1 - 1).toNat : Int) = s.2 by omega]
      right
      cases hq : partedS s.2 n l with
      | true => rfl
      | false =>
        obtain ⟨h, hh, ha, hb⟩ := (hp s.2 (by omega)).1 hq
        simp at hh
        rcases hh with rfl | hh
        · omega
        · have := hmem h hh
          omega
    have a2 := go_span (n := n) (l := l) (t := (s.2 - s.1 - 1).toNat) (f := (n - s.2).toNat) (lo := s.1) (p := s.1 + 1) hin hend
    rw [show s.1 + 1 + ((s.2 - s.1 - 1).toNat : Int) = s.2 by omega] at a2
    have a3 := ih (e := s.2) (by omega) h3 (fun p hp1 => by
      rw [hp p (by omega)]
      simp only [List.mem_cons, exists_eq_or_imp]
      constructor
      · rintro (h | h)
        · omega
        · exact h
      · exact .inr)
    rw [a1, a2, a3]
    rfl
theorem singles_parts {t : Nat} {e n : Int} {l : List Sp} (he : 0 ≤ e) : partsFrom e (singles t e ++ l) n = partsFrom (e + t) l n := by
  induction t generalizing e with
  | zero => simp [singles]
  | succ t ih =>
    simp only [singles, List.cons_append]
    rw [partsFrom_yes (by simp [rightB]; omega) (by simp), ih (by omega), show e + 1 + (t : Int) = e + ((t + 1 : Nat) : Int) by omega]
theorem fill_parts {n : Int} {H : List Sp} {e : Int} (he : 0 ≤ e) (hr : RiseIn e n H) : partsFrom e (fillG n e H) n = true := by
  induction H generalizing e with
  | nil =>
    have hen : e ≤ n := hr
    have := singles_parts (t := (n - e).toNat) (e := e) (n := n) (l := []) he
    rw [List.append_nil] at this
    simp only [fillG, this, partsFrom]
    simp
    omega
  | cons s H ih =>
    obtain ⟨h1, h2, h3⟩ := hr
    simp only [fillG]
    rw [singles_parts he, show e + ((s.1 - e).toNat : Int) = s.1 by omega, partsFrom_yes (by simp [rightB]; omega) (by simp)]
    exact ih (by omega) h3
theorem parted_iff {p n : Int} {l : List Sp} : partedS p n l = false ↔ ∃ s ∈ l, validB n s = true ∧ s.1 < p ∧ p < s.2 := by
  unfold partedS
  rw [Bool.not_eq_false', List.any_eq_true]
  constructor
  · rintro ⟨s, hs, h⟩
    unfold acrossB at h
    simp at h
    exact ⟨s, hs, by simp [validB, h.1, h.2.1], h.2.2⟩
  · rintro ⟨s, hs, h1, h2⟩
    unfold validB at h1
    simp at h1
    exact ⟨s, hs, by simp [acrossB, h1, h2]⟩
theorem valid_iff {n : Int} {s : Sp} : validB n s = true ↔ 0 ≤ s.1 ∧ s.1 < s.2 ∧ s.2 ≤ n := by
  simp [validB, rightB]
  omega
theorem groups_eq {n : Int} {l l' : List Sp} (hn : 0 ≤ n) (hp : l'.Perm (l.filter (validB n))) (hs : LoSorted l') : RiseIn 0 n (mergeS l') ∧ groupsS n l = fillG n 0 (mergeS l') := by
  have hv : ∀ s ∈ l', 0 ≤ s.1 ∧ s.1 < s.2 ∧ s.2 ≤ n := fun s h => valid_iff.1 (List.mem_filter.1 (hp.mem_iff.1 h)).2
  have hiff : ∀ p, partedS p n l = false ↔ ∃ s ∈ l', s.1 < p ∧ p < s.2 := fun p => by
    rw [parted_iff]
    constructor
    · rintro ⟨s, h, h1, h2⟩
      exact ⟨s, hp.mem_iff.2 (List.mem_filter.2 ⟨h, h1⟩), h2⟩
    · rintro ⟨s, h, h2⟩
      have := List.mem_filter.1 (hp.mem_iff.1 h)
      exact ⟨s, this.1, this.2, h2⟩
  have key : RiseIn 0 n (mergeS l') ∧ ∀ p, (∃ h ∈ mergeS l', h.1 < p ∧ p < h.2) ↔ ∃ s ∈ l', s.1 < p ∧ p < s.2 := by
    cases l' with
    | nil => exact ⟨hn, fun p => by simp [mergeS]⟩
    | cons a t =>
      have ha := hv a (by simp)
      unfold LoSorted at hs
      rw [List.pairwise_cons] at hs
      refine ⟨(merge_rise ⟨ha.2.1, ha.2.2⟩ (fun s h => (hv s (by simp [h])).2)).low ha.1, fun p => ?_⟩
      unfold mergeS
      rw [merge_across hs.1 hs.2]
      simp only [List.mem_cons, exists_eq_or_imp]
  refine ⟨key.1, ?_⟩
  have := go_fill (n := n) (l := l) (e := 0) (Int.le_refl _) key.1 (fun p _ => by rw [hiff, key.2])
  rw [Int.sub_zero] at this
  exact this
theorem groups_neg {n : Int} {l : List Sp} (hn : n ≤ 0) : groupsS n l = [] := by
  have : n.toNat = 0 := by omega
  unfold groupsS
  rw [this]
  rfl
/-- How many places the spans have but one each. -/
def overS (l : List Sp) : Int := (l.map fun s => s.2 - s.1 - 1).sum
theorem over_le {e n : Int} {l : List Sp} (h : RiseIn e n l) (k : Nat) : 0 ≤ overS (l.take k) ∧ overS (l.take k) ≤ n - e := by
  induction l generalizing e k with
  | nil =>
    have : e ≤ n := h
    simp [overS]
    omega
  | cons s l ih =>
    cases k with
    | zero =>
      have := h.le
      simp [overS]
      omega
    | succ k =>
      have := ih h.2.2 k
      have h1 := h.1
      have h2 := h.2.1
      simp only [overS, List.take_succ_cons, List.map_cons, List.sum_cons] at this ⊢
      omega
theorem singles_len (t : Nat) (e : Int) : (singles t e).length = t := by
  induction t generalizing e with
  | zero => rfl
  | succ t ih => simp [singles, ih]
theorem fill_len {e n : Int} {l : List Sp} (h : RiseIn e n l) : ((fillG n e l).length : Int) = n - e - overS l := by
  induction l generalizing e with
  | nil =>
    have : e ≤ n := h
    simp [fillG, singles_len, overS]
    omega
  | cons s l ih =>
    have h3 := ih h.2.2
    have h1 := h.1
    have h2 := h.2.1
    simp only [fillG, List.length_append, List.length_cons, singles_len, overS, List.map_cons, List.sum_cons] at h3 ⊢
    omega
theorem groups_back (n : Int) (l : List Sp) : groupsS n l.reverse = groupsS n l := by
  have h : ∀ p, partedS p n l.reverse = partedS p n l := fun p => by unfold partedS; rw [List.any_reverse]
  have hg : ∀ f lo p, groupsGo n l.reverse f lo p = groupsGo n l f lo p := by
    intro f
    induction f with
    | zero => intro lo p; rfl
    | succ f ih => intro lo p; unfold groupsGo; rw [h, ih, ih]
  exact hg _ _ _
theorem groups_parts {n : Int} {l l' : List Sp} (hn : 0 ≤ n) (hp : l'.Perm (l.filter (validB n))) (hs : LoSorted l') : partsS (groupsS n l) n = true := by
  obtain ⟨h1, h2⟩ := groups_eq hn hp hs
  rw [h2]
  exact fill_parts (Int.le_refl _) h1
theorem singles_snoc (t : Nat) (e : Int) : singles (t + 1) e = singles t e ++ [(e + t, e + t + 1)] := by
  induction t generalizing e with
  | zero => simp [singles]
  | succ t ih =>
    rw [singles, ih, singles, List.cons_append]
    rw [show e + 1 + (t : Int) = e + ((t + 1 : Nat) : Int) by omega]
end Go.Proofs.Ythhjcdnhlpjfnaa
