/- The forms, as the project fills them in: the steps. No function of the program. -/
import Derived.Test.YtcjcimdembkbkaaJnF
namespace Go.Proofs.Ytcjcimdembkbkaa

theorem jFirst_of {ts : List Int} {k b : Nat} {t : Int} (hkb : k ≤ b) (hb : ts[b]? = some t) (ht : t ≠ 1) (h : ∀ j, k ≤ j → j < b → ts[j]? = some 1) : jFirst ts k = b := by
  have key : ∀ m, m ≤ b - k → jFirst ts (b - m) = b := by
    intro m
    induction m with
    | zero => intro _; rw [Nat.sub_zero]; exact jFirst_hit hb ht
    | succ m ih =>
      intro hm
      rw [jFirst_skip (h (b - (m + 1)) (by omega) (by omega)), show b - (m + 1) + 1 = b - m by omega]
      exact ih (by omega)
  have := key (b - k) (Nat.le_refl _)
  rwa [show b - (b - k) = k by omega] at this
theorem jFirst_none {ts : List Int} {k : Nat} (h : ∀ j, k ≤ j → j < ts.length → ts[j]? = some 1) : jFirst ts k = -1 := by
  rcases jFirst_ge ts k with e | ⟨b, e⟩
  · exact e
  · obtain ⟨h1, h2, ⟨t, h3, h4⟩, _⟩ := jFirst_is e
    rw [h b h1 h2] at h3
    exact absurd (Option.some.inj h3).symm h4
/-- Whether the one ahead of a place that waits joins it. -/
def jAh (ts : List Int) (wv : Int) : Bool := if 0 ≤ wv then jJoinI ts (jLast ts wv.toNat) else false
/-- What is filled in for the one that waits. -/
def jFill (ts fs : List Int) (wv : Int) (a b : Bool) : List Int := if 0 ≤ wv ∧ formedB (ts.getD wv.toNat 0) = true then fs.set wv.toNat (formK a b) else fs
theorem jFill_step {ts : List Int} {k : Nat} (hk : k ≤ ts.length) : jFill ts (jPart ts (jLast ts k)) (jLast ts k) (jAh ts (jLast ts k)) (jJoinI ts (jLast ts k)) = jPart ts k := by
  by_cases h : jLast ts k = -1
  · rw [h, jPart_none hk h]
    exact if_neg (fun h => absurd h.1 (by decide))
  · obtain ⟨n, hn⟩ : ∃ n : Nat, jLast ts k = n := ⟨(jLast ts k).toNat, by have := (jLast_lt ts k).2; omega⟩
    obtain ⟨a, ⟨t, b1, b2⟩, c⟩ := jLast_is ts k hk hn
    have hj : jJoinI ts n = jJoin ts n := by simp [jJoinI]
    have hah : jAh ts n = jJoinI ts (jLast ts n) := by simp [jAh]
    have hg : ts.getD n 0 = t := by simp [b1]
    rw [hn]
    unfold jFill
    rw [Int.toNat_natCast, hg]
    by_cases hf : formedB t = true
    · rw [if_pos ⟨by omega, hf⟩, jPart_step hk hn, jForm_at b1, if_pos hf, hj, hah]
    · rw [if_neg (fun h => hf h.2), jPart_stay hk hn b1 (by simpa using hf)]
theorem jJoinI_next {ts : List Int} {k : Nat} {t : Int} (ht : ts[k]? = some t) (h1 : t ≠ 1) : jJoinI ts (jLast ts k) = (decide (jLast ts k ≠ -1) && (reachB (ts.getD (jLast ts k).toNat 0) && meetB t)) := by
  have hk := (List.getElem?_eq_some_iff.1 ht).1
  by_cases h : jLast ts k = -1
  · rw [h]; rfl
  · obtain ⟨n, hn⟩ : ∃ n : Nat, jLast ts k = n := ⟨(jLast ts k).toNat, by have := (jLast_lt ts k).2; omega⟩
    obtain ⟨a, ⟨u, b1, b2⟩, c⟩ := jLast_is ts k (by omega) hn
    rw [hn, decide_eq_true (show (n : Int) ≠ -1 by omega), Bool.true_and, Int.toNat_natCast]
    have hg : ts.getD n 0 = u := by simp [b1]
    rw [hg]
    unfold jJoinI
    rw [if_pos (by omega), Int.toNat_natCast]
    exact jJoin_some b1 (jFirst_of (by omega) ht h1 (fun j h2 h3 => c j (by omega) h3)) ht
theorem jJoinI_end (ts : List Int) : jJoinI ts (jLast ts ts.length) = false := by
  by_cases h : jLast ts ts.length = -1
  · rw [h]; rfl
  · obtain ⟨n, hn⟩ : ∃ n : Nat, jLast ts ts.length = n := ⟨(jLast ts ts.length).toNat, by have := (jLast_lt ts ts.length).2; omega⟩
    obtain ⟨a, _, c⟩ := jLast_is ts ts.length (Nat.le_refl _) hn
    rw [hn]
    unfold jJoinI
    rw [if_pos (by omega), Int.toNat_natCast]
    exact jJoin_none (jFirst_none (fun j h2 h3 => c j (by omega) h3))
theorem jAh_next {ts : List Int} {k : Nat} : jAh ts k = jJoinI ts (jLast ts k) := by simp [jAh]
end Go.Proofs.Ytcjcimdembkbkaa
