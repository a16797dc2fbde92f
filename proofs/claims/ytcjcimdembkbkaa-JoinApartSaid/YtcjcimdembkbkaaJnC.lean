/- What stands between two places that join nothing; a place that is passed over. No function of the program. -/
import Derived.Test.YtcjcimdembkbkaaJnG
namespace Go.Proofs.Ytcjcimdembkbkaa

theorem jHead_app (l r : List Int) : jHead (l ++ 0 :: r) = some (match jHead l with | some j => j | none => l.length) := by
  induction l with
  | nil => simp [jHead]
  | cons t l ih =>
    by_cases h : t = 1
    · subst h
      simp only [List.cons_append, jHead, if_true, ih, Option.map_some]
      cases jHead l <;> simp
    · simp [jHead, h]
theorem jLast_app {pre b r : List Int} {k : Nat} (hk : k ≤ b.length) : jLast (pre ++ 0 :: (b ++ r)) (pre.length + 1 + k) = if jLast b k = -1 then (pre.length : Int) else ((pre.length + 1 : Nat) : Int) + jLast b k := by
  induction k with
  | zero =>
    rw [Nat.add_zero, show jLast b 0 = -1 from rfl, if_pos rfl]
    exact jLast_hit (t := 0) (by simp) (by decide)
  | succ k ih =>
    have hat : (pre ++ 0 :: (b ++ r))[pre.length + 1 + k]? = b[k]? := by
      rw [List.getElem?_append_right (by omega), show pre.length + 1 + k - pre.length = k + 1 by omega, List.getElem?_cons_succ, List.getElem?_append_left (by omega)]
    obtain ⟨t, ht⟩ : ∃ t, b[k]? = some t := ⟨_, List.getElem?_eq_getElem (by omega)⟩
    rw [ht] at hat
    by_cases h1 : t = 1
    · subst h1
      rw [show pre.length + 1 + (k + 1) = (pre.length + 1 + k) + 1 by omega, jLast_skip hat, jLast_skip ht]
      exact ih (by omega)
    · rw [show pre.length + 1 + (k + 1) = (pre.length + 1 + k) + 1 by omega, jLast_hit hat h1, jLast_hit ht h1, if_neg (by omega)]
      omega
theorem jJoin_app {pre b c : List Int} {k : Nat} (hk : k < b.length) : jJoin (pre ++ 0 :: (b ++ 0 :: c)) (pre.length + 1 + k) = jJoin b k := by
  have hat : ∀ j, j < b.length → (pre ++ 0 :: (b ++ 0 :: c))[pre.length + 1 + j]? = b[j]? := fun j hj => by
    rw [List.getElem?_append_right (by omega), show pre.length + 1 + j - pre.length = j + 1 by omega, List.getElem?_cons_succ, List.getElem?_append_left hj]
  have hdrop : (pre ++ 0 :: (b ++ 0 :: c)).drop (pre.length + 1 + k + 1) = b.drop (k + 1) ++ 0 :: c := by
    rw [List.drop_append, List.drop_eq_nil_of_le (by omega), List.nil_append, show pre.length + 1 + k + 1 - pre.length = (k + 1) + 1 by omega, List.drop_succ_cons, List.drop_append, show k + 1 - b.length = 0 by omega, List.drop_zero]
  obtain ⟨t, ht⟩ : ∃ t, b[k]? = some t := ⟨_, List.getElem?_eq_getElem hk⟩
  have hat0 := hat k hk
  unfold jJoin
  rw [hat0, ht, hdrop, jHead_app]
  simp only
  cases hj : jHead (b.drop (k + 1)) with
  | some j =>
    simp only
    obtain ⟨⟨u, hu, _⟩, _⟩ := jHead_is _ hj
    rw [List.getElem?_drop] at hu
    have hlt := (List.getElem?_eq_some_iff.1 hu).1
    have := hat (k + 1 + j) hlt
    rw [List.getD_eq_getElem?_getD, List.getD_eq_getElem?_getD, show pre.length + 1 + k + 1 + j = pre.length + 1 + (k + 1 + j) by omega, this]
  | none =>
    simp only
    have hz : (pre ++ 0 :: (b ++ 0 :: c))[pre.length + 1 + k + 1 + (b.drop (k + 1)).length]? = some 0 := by
      rw [List.length_drop, List.getElem?_append_right (by omega), show pre.length + 1 + k + 1 + (b.length - (k + 1)) - pre.length = b.length + 1 by omega, List.getElem?_cons_succ, List.getElem?_append_right (by omega)]
      simp
    rw [List.getD_eq_getElem?_getD, hz]
    simp [meetB]
/-- The forms of what stands between two places that join nothing. -/
theorem jForms_apart (a b c : List Int) : ((jForms (a ++ 0 :: (b ++ 0 :: c))).drop (a.length + 1)).take b.length = jForms b := by
  apply List.ext_getElem?
  intro k
  by_cases hk : k < b.length
  · rw [List.getElem?_take_of_lt hk, List.getElem?_drop, jForms_at (by simp; omega), jForms_at hk]
    congr 1
    obtain ⟨t, ht⟩ : ∃ t, b[k]? = some t := ⟨_, List.getElem?_eq_getElem hk⟩
    have hat : (a ++ 0 :: (b ++ 0 :: c))[a.length + 1 + k]? = some t := by
      rw [List.getElem?_append_right (by omega), show a.length + 1 + k - a.length = k + 1 by omega, List.getElem?_cons_succ, List.getElem?_append_left hk, ht]
    rw [jForm_at hat, jForm_at ht, jJoin_app hk, jLast_app (by omega)]
    have hj : jJoinI (a ++ 0 :: (b ++ 0 :: c)) (if jLast b k = -1 then (a.length : Int) else ((a.length + 1 : Nat) : Int) + jLast b k) = jJoinI b (jLast b k) := by
      by_cases h : jLast b k = -1
      · rw [if_pos h, h]
        unfold jJoinI
        rw [if_pos (by omega), if_neg (by decide), Int.toNat_natCast]
        have h0 : (a ++ 0 :: (b ++ 0 :: c))[a.length]? = some 0 := by simp
        rw [jJoin_eq h0]
        simp [reachB]
      · obtain ⟨m, hm⟩ : ∃ m : Nat, jLast b k = m := ⟨(jLast b k).toNat, by have := (jLast_lt b k).2; omega⟩
        have hmk := (jLast_lt b k).1
        rw [if_neg h, hm]
        unfold jJoinI
        rw [if_pos (by omega), if_pos (by omega), Int.toNat_natCast, show (((a.length + 1 : Nat) : Int) + (m : Int)).toNat = a.length + 1 + m by omega]
        exact jJoin_app (by omega)
    rw [hj]
  · rw [List.getElem?_eq_none (by simp [jForms_len]; omega), List.getElem?_eq_none (by rw [jForms_len]; omega)]
end Go.Proofs.Ytcjcimdembkbkaa
