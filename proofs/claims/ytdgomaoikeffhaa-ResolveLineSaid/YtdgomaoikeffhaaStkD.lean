/- A stack of levels as mathematics: what each call leaves, that what begins and ends leaves it as it was, that levels rise. No function of the program. -/
import Derived.Test.YtdgomaoikeffhaaMem
namespace Go.Proofs.Ytdgomaoikeffhaa
open Go.RowKit

/-- An entry of a stack: level, override, whether it isolates. -/
structure Ent where
  lv : Int
  ov : Int
  is : Bool
deriving DecidableEq
/-- A stack: its entries, the last one first, above the first one; isolates and embeddings too many; isolates that count. -/
structure Stk where
  bot : Ent
  R : List Ent
  a : Nat
  b : Nat
  c : Nat
deriving DecidableEq
namespace Stk
def top (s : Stk) : Ent := s.R.headD s.bot
def all (s : Stk) : List Ent := s.bot :: s.R.reverse
def len (s : Stk) : Nat := s.R.length + 1
end Stk
/-- The next odd, or even, number. -/
def nextN (n : Int) (r : Bool) : Int := if (decide ((n + 1) % 2 = 1) != r) = true then n + 2 else n + 1
def newS (level : Int) : Stk := ⟨⟨min (max level 0) 125, 13, false⟩, [], 0, 0, 0⟩
section
variable (s : Stk)
def nextS (r : Bool) : Int := nextN s.top.lv r
def roomS (r : Bool) : Bool := decide (nextS s r ≤ 125) && (decide (s.a = 0) && decide (s.b = 0))
def pushS (e : Ent) : Bool × Stk := if e.lv ≤ s.top.lv ∨ 125 < e.lv then (false, s) else (true, { s with R := e :: s.R })
def popS : Bool × Stk := if s.R = [] then (false, s) else (true, { s with R := s.R.tail })
def embS (r : Bool) (o : Int) : Bool × Stk := if roomS s r = true then pushS s ⟨nextS s r, o, false⟩ else (false, if s.a = 0 then { s with b := s.b + 1 } else s)
def isoS (r : Bool) : Bool × Stk := if roomS s r = true then pushS { s with c := s.c + 1 } ⟨nextS s r, 13, true⟩ else (false, { s with a := s.a + 1 })
def endES : Stk := if 0 < s.a then s else if 0 < s.b then { s with b := s.b - 1 } else if s.top.is = true then s else (popS s).2
def endIS : Stk := if 0 < s.a then { s with a := s.a - 1 } else if 0 < s.c then { s with b := 0, R := (s.R.dropWhile fun e => !e.is).tail, c := s.c - 1 } else s
end
theorem nextN_gt (n : Int) (r : Bool) : n + 1 ≤ nextN n r ∧ nextN n r ≤ n + 2 := by unfold nextN; split <;> omega
section
variable {s : Stk} {r : Bool} {o : Int}
theorem room_iff : roomS s r = true ↔ nextS s r ≤ 125 ∧ s.a = 0 ∧ s.b = 0 := by unfold roomS; simp
theorem push_ok {e : Ent} (h1 : s.top.lv < e.lv) (h2 : e.lv ≤ 125) : pushS s e = (true, { s with R := e :: s.R }) := by unfold pushS; rw [if_neg (by omega)]
theorem emb_room (h : roomS s r = true) : embS s r o = (true, { s with R := ⟨nextS s r, o, false⟩ :: s.R }) := by
  unfold embS
  rw [if_pos h]
  exact push_ok (by show s.top.lv < nextS s r; have := nextN_gt s.top.lv r; unfold nextS; omega) (room_iff.1 h).1
theorem emb_no (h : roomS s r = false) : embS s r o = (false, if s.a = 0 then { s with b := s.b + 1 } else s) := by unfold embS; rw [if_neg (by simp [h])]
theorem iso_room (h : roomS s r = true) : isoS s r = (true, { s with R := ⟨nextS s r, 13, true⟩ :: s.R, c := s.c + 1 }) := by
  unfold isoS
  rw [if_pos h]
  have := push_ok (s := { s with c := s.c + 1 }) (e := ⟨nextS s r, 13, true⟩) (by show s.top.lv < nextS s r; have := nextN_gt s.top.lv r; unfold nextS; omega) (room_iff.1 h).1
  rw [this]
theorem iso_no (h : roomS s r = false) : isoS s r = (false, { s with a := s.a + 1 }) := by unfold isoS; rw [if_neg (by simp [h])]
/-- What begins and ends leaves all as it was. -/
theorem emb_back : endES (embS s r o).2 = s := by
  cases h : roomS s r with
  | true =>
    rw [emb_room h]
    have h3 := room_iff.1 h
    unfold endES popS
    simp [h3.2.1, h3.2.2, Stk.top]
    cases s
    simp_all
  | false =>
    rw [emb_no h]
    by_cases ha : s.a = 0
    · simp only [if_pos ha]
      unfold endES
      simp [ha]
      cases s
      simp_all
    · simp only [if_neg ha]
      unfold endES
      rw [if_pos (by omega)]
theorem iso_back : endIS (isoS s r).2 = s := by
  cases h : roomS s r with
  | true =>
    rw [iso_room h]
    have h3 := room_iff.1 h
    unfold endIS
    simp [h3.2.1]
    cases s
    simp_all
  | false =>
    rw [iso_no h]
    unfold endIS
    simp
end
/-- Levels rise from the first entry on, and are within bounds. -/
def Rises (s : Stk) : Prop := (s.R ++ [s.bot]).Pairwise (fun x y => y.lv < x.lv) ∧ (∀ e ∈ s.R ++ [s.bot], s.bot.lv ≤ e.lv ∧ e.lv ≤ 125) ∧ 0 ≤ s.bot.lv
theorem rises_new (level : Int) : Rises (newS level) := ⟨by simp [newS], by simp [newS]; omega, by simp [newS]; omega⟩
section
variable {s : Stk}
theorem Rises.top (h : Rises s) : s.bot.lv ≤ s.top.lv ∧ s.top.lv ≤ 125 := by
  unfold Stk.top
  cases hR : s.R with
  | nil => have := h.2.1 s.bot (by simp); simp; omega
  | cons e R => have := h.2.1 e (by simp [hR]); simpa using this
theorem Rises.sub (h : Rises s) {R : List Ent} (hs : R.Sublist s.R) {a b c : Nat} : Rises ⟨s.bot, R, a, b, c⟩ :=
  ⟨h.1.sublist (hs.append_right _), fun e he => h.2.1 e ((hs.append_right _).subset he), h.2.2⟩
theorem Rises.put (h : Rises s) {e : Ent} (h1 : s.top.lv < e.lv) (h2 : e.lv ≤ 125) {a b c : Nat} : Rises ⟨s.bot, e :: s.R, a, b, c⟩ := by
  have ht := h.top
  have hall : ∀ x ∈ s.R ++ [s.bot], x.lv < e.lv := by
    intro x hx
    unfold Stk.top at h1
    cases hR : s.R with
    | nil => rw [hR] at hx h1; simp at hx h1; subst hx; exact h1
    | cons y R =>
      rw [hR] at hx h1
      simp at h1
      have hp := h.1
      rw [hR, List.cons_append, List.pairwise_cons] at hp
      rw [List.cons_append, List.mem_cons] at hx
      rcases hx with rfl | hx
      · exact h1
      · have := hp.1 x hx; omega
  refine ⟨?_, ?_, h.2.2⟩
  · rw [List.cons_append, List.pairwise_cons]
    exact ⟨hall, h.1⟩
  · intro x hx
    rw [List.cons_append, List.mem_cons] at hx
    rcases hx with rfl | hx
    · exact ⟨by show s.bot.lv ≤ _; omega, h2⟩
    · exact h.2.1 x hx
theorem pair_len : ∀ {l : List Ent} {n : Int}, l.Pairwise (fun x y => y.lv < x.lv) → (∀ e ∈ l, n ≤ e.lv) → ∀ m : Int, n ≤ m + 1 → (∀ e ∈ l, e.lv ≤ m) → (l.length : Int) ≤ m + 1 - n
  | [], n, _, _, m, hm, _ => by simp; omega
  | e :: l, n, hp, hn, m, hm, hl => by
    rw [List.pairwise_cons] at hp
    have h1 := hn e (by simp)
    have h2 := hl e (by simp)
    have := pair_len (n := n) hp.2 (fun x hx => hn x (by simp [hx])) (e.lv - 1) (by omega) (fun x hx => by have := hp.1 x hx; omega)
    simp only [List.length_cons]
    omega
theorem Rises.len (h : Rises s) : s.len ≤ 126 := by
  have := pair_len (n := 0) h.1 (fun e he => by have := h.2.1 e he; have := h.2.2; omega) 125 (by omega) (fun e he => (h.2.1 e he).2)
  rw [List.length_append] at this
  simp at this
  unfold Stk.len
  omega
end
/-- What one call may do to the length and the level. -/
def Near (s t : Stk) : Prop := t.bot = s.bot ∧ Rises t ∧ (s.len < t.len → s.top.lv < t.top.lv) ∧ (t.len < s.len → t.top.lv < s.top.lv)
section
variable {s : Stk} {r : Bool} {o : Int}
theorem near_same (h : Rises s) {a b c : Nat} : Near s ⟨s.bot, s.R, a, b, c⟩ := ⟨rfl, h.sub (List.Sublist.refl _), fun h => by simp [Stk.len] at h, fun h => by simp [Stk.len] at h⟩
theorem near_put (h : Rises s) {e : Ent} (h1 : s.top.lv < e.lv) (h2 : e.lv ≤ 125) {a b c : Nat} : Near s ⟨s.bot, e :: s.R, a, b, c⟩ := ⟨rfl, h.put h1 h2, fun _ => h1, fun h => by simp [Stk.len] at h; omega⟩
theorem near_less (h : Rises s) {R : List Ent} (hs : R <:+ s.R) {a b c : Nat} : Near s ⟨s.bot, R, a, b, c⟩ := by
  refine ⟨rfl, h.sub hs.sublist, fun hl => ?_, fun hl => ?_⟩
  · have := hs.length_le; simp [Stk.len] at hl; omega
  · obtain ⟨P, hP⟩ := hs
    unfold Stk.top
    cases P with
    | nil => simp at hP; simp [Stk.len, ← hP] at hl
    | cons e P =>
      have hp := h.1
      rw [← hP, List.cons_append, List.cons_append, List.pairwise_cons] at hp
      rw [← hP]
      simp only [List.cons_append, List.headD_cons]
      cases R with
      | nil => exact hp.1 s.bot (by simp)
      | cons x R => exact hp.1 x (by simp)
theorem near_emb (h : Rises s) : Near s (embS s r o).2 := by
  cases hr : roomS s r with
  | true => rw [emb_room hr]; exact near_put h (by show s.top.lv < nextS s r; have := nextN_gt s.top.lv r; unfold nextS; omega) (room_iff.1 hr).1
  | false =>
    rw [emb_no hr]
    show Near s (if s.a = 0 then { s with b := s.b + 1 } else s)
    split
    · exact near_same h
    · exact near_same h
theorem near_iso (h : Rises s) : Near s (isoS s r).2 := by
  cases hr : roomS s r with
  | true => rw [iso_room hr]; exact near_put h (by show s.top.lv < nextS s r; have := nextN_gt s.top.lv r; unfold nextS; omega) (room_iff.1 hr).1
  | false => rw [iso_no hr]; exact near_same h
theorem near_endE (h : Rises s) : Near s (endES s) := by
  unfold endES
  split
  · exact near_same h
  · split
    · exact near_same h
    · split
      · exact near_same h
      · unfold popS
        split
        · exact near_same h
        · exact near_less h (List.tail_suffix _)
theorem near_endI (h : Rises s) : Near s (endIS s) := by
  unfold endIS
  split
  · exact near_same h
  · split
    · exact near_less h ((List.tail_suffix _).trans (List.dropWhile_suffix _))
    · exact near_same h
theorem near_pop (h : Rises s) : Near s (popS s).2 := by
  unfold popS
  split
  · exact near_same h
  · exact near_less h (List.tail_suffix _)
theorem near_push (h : Rises s) {e : Ent} : Near s (pushS s e).2 := by
  unfold pushS
  split
  · exact near_same h
  · exact near_put h (by omega) (by omega)
end
end Go.Proofs.Ytdgomaoikeffhaa
