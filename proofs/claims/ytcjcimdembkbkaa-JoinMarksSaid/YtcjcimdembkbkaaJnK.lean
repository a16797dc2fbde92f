/- Forms hang on what is not passed over: a place that is passed over changes no form of others. No function of the program. -/
import Derived.Test.YtcjcimdembkbkaaJnG
namespace Go.Proofs.Ytcjcimdembkbkaa

def keepT (t : Int) : Bool := t != 1
theorem jHead_filter (l : List Int) : (match jHead l with | none => none | some j => l[j]?) = (l.filter keepT).head? := by
  induction l with
  | nil => rfl
  | cons t l ih =>
    by_cases h : t = 1
    · subst h
      rw [show ((1 : Int) :: l).filter keepT = l.filter keepT from rfl, ← ih]
      rw [show jHead (1 :: l) = (jHead l).map (· + 1) by simp [jHead]]
      cases jHead l <;> simp
    · have hk : keepT t = true := by simp [keepT, h]
      rw [List.filter_cons_of_pos hk]
      rw [show jHead (t :: l) = some 0 by simp [jHead, h]]
      simp
def nextB (l : List Int) : Bool := match l.head? with | none => false | some u => meetB u
def prevB (l : List Int) (t : Int) : Bool := match l.getLast? with | none => false | some u => reachB u && meetB t
theorem jJoin_filter {ts : List Int} {k : Nat} {t : Int} (h : ts[k]? = some t) : jJoin ts k = (reachB t && nextB ((ts.drop (k + 1)).filter keepT)) := by
  unfold jJoin nextB
  rw [h, ← jHead_filter]
  simp only
  cases hj : jHead (ts.drop (k + 1)) with
  | none => rfl
  | some j =>
    obtain ⟨⟨u, hu, _⟩, _⟩ := jHead_is _ hj
    simp only [hu]
    rw [List.getElem?_drop] at hu
    rw [List.getD_eq_getElem?_getD, hu, Option.getD_some]
theorem jLast_filter {ts : List Int} {k : Nat} (hk : k ≤ ts.length) : ((ts.take k).filter keepT).getLast? = if jLast ts k = -1 then none else ts[(jLast ts k).toNat]? := by
  induction k with
  | zero => rw [List.take_zero, show jLast ts 0 = -1 from rfl, if_pos rfl]; rfl
  | succ k ih =>
    obtain ⟨t, ht⟩ : ∃ t, ts[k]? = some t := ⟨_, List.getElem?_eq_getElem (by omega)⟩
    rw [List.take_add_one, ht, Option.toList_some, List.filter_append]
    by_cases h1 : t = 1
    · subst h1
      rw [jLast_skip ht, show ([1] : List Int).filter keepT = [] from rfl, List.append_nil]
      exact ih (by omega)
    · rw [jLast_hit ht h1, show ([t] : List Int).filter keepT = [t] by simp [keepT, h1], List.getLast?_append, if_neg (by omega), Int.toNat_natCast, ht]
      simp
theorem jPrev_filter {ts : List Int} {k : Nat} {t : Int} (h : ts[k]? = some t) (h1 : t ≠ 1) : jJoinI ts (jLast ts k) = prevB ((ts.take k).filter keepT) t := by
  have hk := (List.getElem?_eq_some_iff.1 h).1
  rw [jJoinI_next h h1]
  unfold prevB
  rw [jLast_filter (by omega)]
  by_cases c : jLast ts k = -1
  · rw [if_pos c, c]; rfl
  · obtain ⟨n, hn⟩ : ∃ n : Nat, jLast ts k = n := ⟨(jLast ts k).toNat, by have := (jLast_lt ts k).2; omega⟩
    obtain ⟨a, ⟨u, b1, _⟩, _⟩ := jLast_is ts k (by omega) hn
    rw [if_neg c, hn, decide_eq_true (show (n : Int) ≠ -1 by omega), Bool.true_and, Int.toNat_natCast, b1, List.getD_eq_getElem?_getD, b1, Option.getD_some]
theorem jForm_filter {ts : List Int} {k : Nat} {t : Int} (h : ts[k]? = some t) : jForm ts k = if formedB t = true then formK (prevB ((ts.take k).filter keepT) t) (reachB t && nextB ((ts.drop (k + 1)).filter keepT)) else 0 := by
  rw [jForm_at h]
  by_cases hf : formedB t = true
  · rw [if_pos hf, if_pos hf, jJoin_filter h, jPrev_filter h (by rintro rfl; simp [formedB] at hf)]
  · rw [if_neg hf, if_neg hf]
/-- A place that is passed over, put in at k. -/
def jIns (ts : List Int) (k : Nat) : List Int := ts.take k ++ 1 :: ts.drop k
theorem jIns_len {ts : List Int} {k : Nat} (hk : k ≤ ts.length) : (jIns ts k).length = ts.length + 1 := by simp [jIns]; omega
theorem jIns_mid {ts : List Int} {k : Nat} (hk : k ≤ ts.length) : (jIns ts k)[k]? = some 1 := by
  unfold jIns
  rw [List.getElem?_append_right (by rw [List.length_take]; omega), List.length_take, show k - min k ts.length = 0 by omega]; rfl
theorem jIns_low {ts : List Int} {k j : Nat} (hk : k ≤ ts.length) (hj : j < k) : jForm (jIns ts k) j = jForm ts j := by
  obtain ⟨t, ht⟩ : ∃ t, ts[j]? = some t := ⟨_, List.getElem?_eq_getElem (by omega)⟩
  have ht' : (jIns ts k)[j]? = some t := by
    unfold jIns
    rw [List.getElem?_append_left (by rw [List.length_take]; omega), List.getElem?_take_of_lt hj, ht]
  rw [jForm_filter ht, jForm_filter ht']
  have e1 : (jIns ts k).take j = ts.take j := by
    unfold jIns
    rw [List.take_append_of_le_length (by rw [List.length_take]; omega), List.take_take, show min j k = j by omega]
  have e2 : ((jIns ts k).drop (j + 1)).filter keepT = (ts.drop (j + 1)).filter keepT := by
    unfold jIns
    rw [List.drop_append_of_le_length (by rw [List.length_take]; omega), List.filter_append, show ((1 : Int) :: ts.drop k).filter keepT = (ts.drop k).filter keepT from rfl, ← List.filter_append]
    congr 1
    conv => rhs; rw [← List.take_append_drop k ts]
    rw [List.drop_append_of_le_length (by rw [List.length_take]; omega)]
  rw [e1, e2]
theorem jIns_high {ts : List Int} {k j : Nat} (hj : k ≤ j) (hl : j < ts.length) : jForm (jIns ts k) (j + 1) = jForm ts j := by
  obtain ⟨t, ht⟩ : ∃ t, ts[j]? = some t := ⟨_, List.getElem?_eq_getElem hl⟩
  have ht' : (jIns ts k)[j + 1]? = some t := by
    unfold jIns
    rw [List.getElem?_append_right (by rw [List.length_take]; omega), List.length_take, show j + 1 - min k ts.length = (j - k) + 1 by omega, List.getElem?_cons_succ, List.getElem?_drop, show k + (j - k) = j by omega, ht]
  rw [jForm_filter ht, jForm_filter ht']
  have e1 : ((jIns ts k).take (j + 1)).filter keepT = (ts.take j).filter keepT := by
    unfold jIns
    rw [List.take_append, List.take_of_length_le (by rw [List.length_take]; omega), List.length_take, show j + 1 - min k ts.length = (j - k) + 1 by omega, List.take_succ_cons, List.filter_append, show ((1 : Int) :: (ts.drop k).take (j - k)).filter keepT = ((ts.drop k).take (j - k)).filter keepT from rfl, ← List.filter_append]
    congr 1
    rw [List.take_drop, show k + (j - k) = j by omega]
    conv => rhs; rw [← List.take_append_drop k (ts.take j), List.take_take, show min k j = k by omega]
  have e2 : (jIns ts k).drop (j + 1 + 1) = ts.drop (j + 1) := by
    unfold jIns
    rw [List.drop_append, List.drop_eq_nil_of_le (by rw [List.length_take]; omega), List.nil_append, List.length_take, show j + 1 + 1 - min k ts.length = (j + 1 - k) + 1 by omega, List.drop_succ_cons, List.drop_drop, show k + (j + 1 - k) = j + 1 by omega]
  rw [e1, e2]
theorem jForms_ins {ts : List Int} {k : Nat} (hk : k ≤ ts.length) : (jForms (jIns ts k)).take k ++ (jForms (jIns ts k)).drop (k + 1) = jForms ts := by
  have hl := jIns_len hk
  apply List.ext_getElem?
  intro j
  by_cases h1 : j < k
  · rw [List.getElem?_append_left (by rw [List.length_take, jForms_len]; omega), List.getElem?_take_of_lt h1, jForms_at (by omega), jForms_at (by omega), jIns_low hk h1]
  · rw [List.getElem?_append_right (by rw [List.length_take, jForms_len]; omega), List.getElem?_drop, List.length_take, jForms_len, show k + 1 + (j - min k (jIns ts k).length) = j + 1 by omega]
    by_cases h2 : j < ts.length
    · rw [jForms_at (by omega), jForms_at h2, jIns_high (by omega) h2]
    · rw [List.getElem?_eq_none (by rw [jForms_len]; omega), List.getElem?_eq_none (by rw [jForms_len]; omega)]
end Go.Proofs.Ytcjcimdembkbkaa
