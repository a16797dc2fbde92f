/- Texts of one claim, one behind the other. -/
import Derived.Maps.OwnSet
import Derived.Maps.Views
import Derived.Test.YtnmpoipakmjbpaaMgSq1
/- A stack of levels as mathematics: what each call leaves, that what begins and ends leaves it as it was, that levels rise. No function of the program. -/
namespace Go.Proofs.Ytnmpoipakmjbpaa
open Go.RowKit

/-- An entry of a stack: level, override, whether it isolates. -/
structure Ent where
  lv : Int
  ov : Int
  is : Bool
deriving DecidableEq
/-- A stack: its entries, the last one first, above the first one; isolates and embeddings too many; isolates that count. -/
structure Stk where
  bot : Ent
  R : List Ent
  a : Nat
  b : Nat
  c : Nat
deriving DecidableEq
namespace Stk
def top (s : Stk) : Ent := s.R.headD s.bot
def all (s : Stk) : List Ent := s.bot :: s.R.reverse
def len (s : Stk) : Nat := s.R.length + 1
end Stk
/-- The next odd, or even, number. -/
def nextN (n : Int) (r : Bool) : Int := if (decide ((n + 1) % 2 = 1) != r) = true then n + 2 else n + 1
def newS (level : Int) : Stk := ⟨⟨min (max level 0) 125, 13, false⟩, [], 0, 0, 0⟩
section
variable (s : Stk)
def nextS (r : Bool) : Int := nextN s.top.lv r
def roomS (r : Bool) : Bool := decide (nextS s r ≤ 125) && (decide (s.a = 0) && decide (s.b = 0))
def pushS (e : Ent) : Bool × Stk := if e.lv ≤ s.top.lv ∨ 125 < e.lv then (false, s) else (true, { s with R := e :: s.R })
def popS : Bool × Stk := if s.R = [] then (false, s) else (true, { s with R := s.R.tail })
def embS (r : Bool) (o : Int) : Bool × Stk := if roomS s r = true then pushS s ⟨nextS s r, o, false⟩ else (false, if s.a = 0 then { s with b := s.b + 1 } else s)
def isoS (r : Bool) : Bool × Stk := if roomS s r = true then pushS { s with c := s.c + 1 } ⟨nextS s r, 13, true⟩ else (false, { s with a := s.a + 1 })
def endES : Stk := if 0 < s.a then s else if 0 < s.b then { s with b := s.b - 1 } else if s.top.is = true then s else (popS s).2
def endIS : Stk := if 0 < s.a then { s with a := s.a - 1 } else if 0 < s.c then { s with b := 0, R := (s.R.dropWhile fun e => !e.is).tail, c := s.c - 1 } else s
end
theorem nextN_gt (n : Int) (r : Bool) : n + 1 ≤ nextN n r ∧ nextN n r ≤ n + 2 := by unfold nextN; split <;> omega
section
variable {s : Stk} {r : Bool} {o : Int}
theorem room_iff : roomS s r = true ↔ nextS s r ≤ 125 ∧ s.a = 0 ∧ s.b = 0 := by unfold roomS; simp
theorem push_ok {e : Ent} (h1 : s.top.lv < e.lv) (h2 : e.lv ≤ 125) : pushS s e = (true, { s with R := e :: s.R }) := by unfold pushS; rw [if_neg (by omega)]
theorem emb_room (h : roomS s r = true) : embS s r o = (true, { s with R := ⟨nextS s r, o, false⟩ :: s.R }) := by
  unfold embS
  rw [if_pos h]
  exact push_ok (by show s.top.lv < nextS s r; have := nextN_gt s.top.lv r; unfold nextS; omega) (room_iff.1 h).1
theorem emb_no (h : roomS s r = false) : embS s r o = (false, if s.a = 0 then { s with b := s.b + 1 } else s) := by unfold embS; rw [if_neg (by simp [h])]
theorem iso_room (h : roomS s r = true) : isoS s r = (true, { s with R := ⟨nextS s r, 13, true⟩ :: s.R, c := s.c + 1 }) := by
  unfold isoS
  rw [if_pos h]
  have := push_ok (s := { s with c := s.c + 1 }) (e := ⟨nextS s r, 13, true⟩) (by show s.top.lv < nextS s r; have := nextN_gt s.top.lv r; unfold nextS; omega) (room_iff.1 h).1
  rw [this]
theorem iso_no (h : roomS s r = false) : isoS s r = (false, { s with a := s.a + 1 }) := by unfold isoS; rw [if_neg (by simp [h])]
/-- What begins and ends leaves all as it was. -/
theorem emb_back : endES (embS s r o).2 = s := by
  cases h : roomS s r with
  | true =>
    rw [emb_room h]
    have h3 := room_iff.1 h
    unfold endES popS
    simp [h3.2.1, h3.2.2, Stk.top]
    cases s
    simp_all
  | false =>
    rw [emb_no h]
    by_cases ha : s.a = 0
    · simp only [if_pos ha]
      unfold endES
      simp [ha]
      cases s
      simp_all
    · simp only [if_neg ha]
      unfold endES
      rw [if_pos (by omega)]
theorem iso_back : endIS (isoS s r).2 = s := by
  cases h : roomS s r with
  | true =>
    rw [iso_room h]
    have h3 := room_iff.1 h
    unfold endIS
    simp [h3.2.1]
    cases s
    simp_all
  | false =>
    rw [iso_no h]
    unfold endIS
    simp
end
/-- Levels rise from the first entry on, and are within bounds. -/
def Rises (s : Stk) : Prop := (s.R ++ [s.bot]).Pairwise (fun x y => y.lv < x.lv) ∧ (∀ e ∈ s.R ++ [s.bot], s.bot.lv ≤ e.lv ∧ e.lv ≤ 125) ∧ 0 ≤ s.bot.lv
theorem rises_new (level : Int) : Rises (newS level) := ⟨by simp [newS], by simp [newS]; omega, by simp [newS]; omega⟩
section
variable {s : Stk}
theorem Rises.top (h : Rises s) : s.bot.lv ≤ s.top.lv ∧ s.top.lv ≤ 125 := by
  unfold Stk.top
  cases hR : s.R with
  | nil => have := h.2.1 s.bot (by simp); simp; omega
  | cons e R => have := h.2.1 e (by simp [hR]); simpa using this
theorem Rises.sub (h : Rises s) {R : List Ent} (hs : R.Sublist s.R) {a b c : Nat} : Rises ⟨s.bot, R, a, b, c⟩ :=
  ⟨h.1.sublist (hs.append_right _), fun e he => h.2.1 e ((hs.append_right _).subset he), h.2.2⟩
theorem Rises.put (h : Rises s) {e : Ent} (h1 : s.top.lv < e.lv) (h2 : e.lv ≤ 125) {a b c : Nat} : Rises ⟨s.bot, e :: s.R, a, b, c⟩ := by
  have ht := h.top
  have hall : ∀ x ∈ s.R ++ [s.bot], x.lv < e.lv := by
    intro x hx
    unfold Stk.top at h1
    cases hR : s.R with
    | nil => rw [hR] at hx h1; simp at hx h1; subst hx; exact h1
    | cons y R =>
      rw [hR] at hx h1
      simp at h1
      have hp := h.1
      rw [hR, List.cons_append, List.pairwise_cons] at hp
      rw [List.cons_append, List.mem_cons] at hx
      rcases hx with rfl | hx
      · exact h1
      · have := hp.1 x hx; omega
  refine ⟨?_, ?_, h.2.2⟩
  · rw [List.cons_append, List.pairwise_cons]
    exact ⟨hall, h.1⟩
  · intro x hx
    rw [List.cons_append, List.mem_cons] at hx
    rcases hx with rfl | hx
    · exact ⟨by show s.bot.lv ≤ _; omega, h2⟩
    · exact h.2.1 x hx
theorem pair_len : ∀ {l : List Ent} {n : Int}, l.Pairwise (fun x y => y.lv < x.lv) → (∀ e ∈ l, n ≤ e.lv) → ∀ m : Int, n ≤ m + 1 → (∀ e ∈ l, e.lv ≤ m) → (l.length : Int) ≤ m + 1 - n
  | [], n, _, _, m, hm, _ => by simp; omega
  | e :: l, n, hp, hn, m, hm, hl => by
    rw [List.pairwise_cons] at hp
    have h1 := hn e (by simp)
    have h2 := hl e (by simp)
    have := pair_len (n := n) hp.2 (fun x hx => hn x (by simp [hx])) (e.lv - 1) (by omega) (fun x hx => by have := hp.1 x hx; omega)
    simp only [List.length_cons]
    omega
theorem Rises.len (h : Rises s) : s.len ≤ 126 := by
  have := pair_len (n := 0) h.1 (fun e he => by have := h.2.1 e he; have := h.2.2; omega) 125 (by omega) (fun e he => (h.2.1 e he).2)
  rw [List.length_append] at this
  simp at this
  unfold Stk.len
  omega
end
/-- What one call may do to the length and the level. -/
def Near (s t : Stk) : Prop := t.bot = s.bot ∧ Rises t ∧ (s.len < t.len → s.top.lv < t.top.lv) ∧ (t.len < s.len → t.top.lv < s.top.lv)
section
variable {s : Stk} {r : Bool} {o : Int}
theorem near_same (h : Rises s) {a b c : Nat} : Near s ⟨s.bot, s.R, a, b, c⟩ := ⟨rfl, h.sub (List.Sublist.refl _), fun h => by simp [Stk.len] at h, fun h => by simp [Stk.len] at h⟩
theorem near_put (h : Rises s) {e : Ent} (h1 : s.top.lv < e.lv) (h2 : e.lv ≤ 125) {a b c : Nat} : Near s ⟨s.bot, e :: s.R, a, b, c⟩ := ⟨rfl, h.put h1 h2, fun _ => h1, fun h => by simp [Stk.len] at h; omega⟩
theorem near_less (h : Rises s) {R : List Ent} (hs : R <:+ s.R) {a b c : Nat} : Near s ⟨s.bot, R, a, b, c⟩ := by
  refine ⟨rfl, h.sub hs.sublist, fun hl => ?_, fun hl => ?_⟩
  · have := hs.length_le; simp [Stk.len] at hl; omega
  · obtain ⟨P, hP⟩ := hs
    unfold Stk.top
    cases P with
    | nil => simp at hP; simp [Stk.len, ← hP] at hl
    | cons e P =>
      have hp := h.1
      rw [← hP, List.cons_append, List.cons_append, List.pairwise_cons] at hp
      rw [← hP]
      simp only [List.cons_append, List.headD_cons]
      cases R with
      | nil => exact hp.1 s.bot (by simp)
      | cons x R => exact hp.1 x (by simp)
theorem near_emb (h : Rises s) : Near s (embS s r o).2 := by
  cases hr : roomS s r with
  | true => rw [emb_room hr]; exact near_put h (by show s.top.lv < nextS s r; have := nextN_gt s.top.lv r; unfold nextS; omega) (room_iff.1 hr).1
  | false =>
    rw [emb_no hr]
    show Near s (if s.a = 0 then { s with b := s.b + 1 } else s)
    split
    · exact near_same h
    · exact near_same h
theorem near_iso (h : Rises s) : Near s (isoS s r).2 := by
  cases hr : roomS s r with
  | true => rw [iso_room hr]; exact near_put h (by show s.top.lv < nextS s r; have := nextN_gt s.top.lv r; unfold nextS; omega) (room_iff.1 hr).1
  | false => rw [iso_no hr]; exact near_same h
theorem near_endE (h : Rises s) : Near s (endES s) := by
  unfold endES
  split
  · exact near_same h
  · split
    · exact near_same h
    · split
      · exact near_same h
      · unfold popS
        split
        · exact near_same h
        · exact near_less h (List.tail_suffix _)
theorem near_endI (h : Rises s) : Near s (endIS s) := by
  unfold endIS
  split
  · exact near_same h
  · split
    · exact near_less h ((List.tail_suffix _).trans (List.dropWhile_suffix _))
    · exact near_same h
theorem near_pop (h : Rises s) : Near s (popS s).2 := by
  unfold popS
  split
  · exact near_same h
  · exact near_less h (List.tail_suffix _)
theorem near_push (h : Rises s) {e : Ent} : Near s (pushS s e).2 := by
  unfold pushS
  split
  · exact near_same h
  · exact near_put h (by omega) (by omega)
end
end Go.Proofs.Ytnmpoipakmjbpaa
/- The levels of classes as mathematics: the stack ahead of each place, the level and the class; bounds, what is plain, what is deep. No function of the program. -/
namespace Go.Proofs.Ytnmpoipakmjbpaa
open Go.RowKit

/-- Whether a class is left out. -/
def leftC (c : Int) : Bool := (decide (14 ≤ c) && decide (c ≤ 18)) || decide (c = 9)
/-- Whether what begins at a place goes from the right. -/
def rightC (xs : List Int) (i : Nat) : Bool := if xs.getD i 0 = 21 then decide (firstF xs ((i : Int) + 1, (matF xs).getD i 0) = 1) else decide (xs.getD i 0 = 20)
def givS (s : Stk) (c : Int) : Int := if s.top.ov = 13 then c else s.top.ov
def stepA (s : Stk) (c : Int) : Stk := if c = 22 then endIS s else s
def stepB (xs : List Int) (i : Nat) (c : Int) (s : Stk) : Stk :=
  if c = 16 then (embS s true 13).2 else if c = 14 then (embS s false 13).2 else if c = 17 then (embS s true 1).2 else if c = 15 then (embS s false 0).2 else if c = 18 then endES s else if opB c = true then (isoS s (rightC xs i)).2 else s
def outX (base : Int) (s : Stk) (c : Int) : Int × Int := if c = 10 then (base, c) else if leftC c = true then (s.top.lv, 9) else (s.top.lv, givS s c)
def baseL (level : Int) : Int := min (max level 0) 1
/-- The stack ahead of place k. -/
def stE (xs : List Int) (base : Int) : Nat → Stk
  | 0 => newS base
  | k + 1 => stepB xs k (xs.getD k 0) (stepA (stE xs base k) (xs.getD k 0))
def exA (xs : List Int) (base : Int) (k : Nat) : Int × Int := outX base (stepA (stE xs base k) (xs.getD k 0)) (xs.getD k 0)
def lvL (xs : List Int) (base : Int) (k : Nat) : List Int := (List.range k).map fun i => (exA xs base i).1
def clL (xs : List Int) (base : Int) (k : Nat) : List Int := (List.range k).map fun i => (exA xs base i).2
theorem lvL_step (xs : List Int) (base : Int) (k : Nat) : lvL xs base (k + 1) = lvL xs base k ++ [(exA xs base k).1] := by unfold lvL; rw [List.range_succ, List.map_append]; rfl
theorem clL_step (xs : List Int) (base : Int) (k : Nat) : clL xs base (k + 1) = clL xs base k ++ [(exA xs base k).2] := by unfold clL; rw [List.range_succ, List.map_append]; rfl
theorem lvL_len (xs : List Int) (base : Int) (k : Nat) : (lvL xs base k).length = k := by simp [lvL]
theorem clL_len (xs : List Int) (base : Int) (k : Nat) : (clL xs base k).length = k := by simp [clL]
theorem lvL_get {xs : List Int} {base : Int} {k i : Nat} (h : i < k) : (lvL xs base k)[i]? = some (exA xs base i).1 := by simp [lvL, h]
theorem base_in (level : Int) : 0 ≤ baseL level ∧ baseL level ≤ 1 := by unfold baseL; omega
theorem new_bot {base : Int} (h : 0 ≤ base ∧ base ≤ 1) : (newS base).bot = ⟨base, 13, false⟩ := by
  have : min (max base 0) 125 = base := by omega
  unfold newS
  rw [this]
theorem near_a {s : Stk} (h : Rises s) (c : Int) : (stepA s c).bot = s.bot ∧ Rises (stepA s c) := by
  unfold stepA
  split
  · have := near_endI h; exact ⟨this.1, this.2.1⟩
  · exact ⟨rfl, h⟩
theorem near_b {s : Stk} (h : Rises s) (xs : List Int) (i : Nat) (c : Int) : (stepB xs i c s).bot = s.bot ∧ Rises (stepB xs i c s) := by
  unfold stepB
  repeat' split
  all_goals first
    | exact ⟨(near_emb h).1, (near_emb h).2.1⟩
    | exact ⟨(near_endE h).1, (near_endE h).2.1⟩
    | exact ⟨(near_iso h).1, (near_iso h).2.1⟩
    | exact ⟨rfl, h⟩
theorem st_rises {xs : List Int} {base : Int} : ∀ k, (stE xs base k).bot = (newS base).bot ∧ Rises (stE xs base k)
  | 0 => ⟨rfl, rises_new base⟩
  | k + 1 => by
    have h := st_rises (xs := xs) (base := base) k
    have h1 := near_a h.2 (xs.getD k 0)
    have h2 := near_b h1.2 xs k (xs.getD k 0)
    exact ⟨h2.1.trans (h1.1.trans h.1), h2.2⟩
/-- Levels are from the paragraph's to the limit. -/
theorem ex_in {xs : List Int} {base : Int} (hb : 0 ≤ base ∧ base ≤ 1) (k : Nat) : base ≤ (exA xs base k).1 ∧ (exA xs base k).1 ≤ 125 := by
  have h := st_rises (xs := xs) (base := base) k
  have h1 := near_a h.2 (xs.getD k 0)
  have ht := h1.2.top
  rw [h1.1, h.1, new_bot hb] at ht
  unfold exA outX
  simp only at ht
  split
  · simp only; omega
  · split
    · exact ht
    · exact ht
theorem new_end (base : Int) : endIS (newS base) = newS base := by simp [endIS, newS]
/-- Without what embeds, overrides or isolates nothing changes. -/
theorem st_plain {xs : List Int} {base : Int} (hp : ∀ c ∈ xs, leftC c = false ∧ opB c = false) : ∀ k, k ≤ xs.length → stE xs base k = newS base
  | 0, _ => rfl
  | k + 1, hk => by
    have hc : xs.getD k 0 ∈ xs := by rw [List.getD_eq_getElem?_getD, List.getElem?_eq_getElem (by omega), Option.getD_some]; exact List.getElem_mem _
    have h := hp _ hc
    rw [stE, st_plain hp k (by omega)]
    generalize xs.getD k 0 = c at h
    have ha : stepA (newS base) c = newS base := by
      unfold stepA
      split
      · exact new_end base
      · rfl
    have hl := h.1
    unfold leftC at hl
    simp only [Bool.or_eq_false_iff, Bool.and_eq_false_iff, decide_eq_false_iff_not] at hl
    rw [ha, stepB, if_neg (by omega), if_neg (by omega), if_neg (by omega), if_neg (by omega), if_neg (by omega), if_neg (by rw [h.2]; simp)]
theorem ex_plain {xs : List Int} {base : Int} (hb : 0 ≤ base ∧ base ≤ 1) (hp : ∀ c ∈ xs, leftC c = false ∧ opB c = false) {k : Nat} (hk : k < xs.length) : exA xs base k = (base, xs.getD k 0) := by
  have hc : xs.getD k 0 ∈ xs := by rw [List.getD_eq_getElem?_getD, List.getElem?_eq_getElem (by omega), Option.getD_some]; exact List.getElem_mem _
  have h := hp _ hc
  unfold exA
  rw [st_plain hp k (by omega)]
  generalize xs.getD k 0 = c at h
  have ha : stepA (newS base) c = newS base := by
    unfold stepA
    split
    · exact new_end base
    · rfl
  have ht : (newS base).top = ⟨base, 13, false⟩ := new_bot hb
  rw [ha, outX, ht, h.1]
  split
  · rfl
  · simp only [Bool.false_eq_true, if_false]
    unfold givS
    rw [ht]
    simp
theorem plain_all {xs : List Int} {base : Int} (hb : 0 ≤ base ∧ base ≤ 1) (hp : ∀ c ∈ xs, leftC c = false ∧ opB c = false) : clL xs base xs.length = xs ∧ ∀ n ∈ lvL xs base xs.length, n = base := by
  constructor
  · refine List.ext_getElem? fun i => ?_
    by_cases hi : i < xs.length
    · unfold clL
      rw [List.getElem?_map, List.getElem?_range hi, Option.map_some, ex_plain hb hp hi, List.getD_eq_getElem?_getD, List.getElem?_eq_getElem hi, Option.getD_some]
    · rw [List.getElem?_eq_none (by rw [clL_len]; omega), List.getElem?_eq_none (by omega)]
  · intro n hn
    unfold lvL at hn
    obtain ⟨i, hi, rfl⟩ := List.mem_map.1 hn
    rw [ex_plain hb hp (List.mem_range.1 hi)]
/-- The stack behind k isolates. -/
def deepS (f : Nat → Int) : Nat → Stk
  | 0 => newS 0
  | k + 1 => (isoS (deepS f k) (decide (f k = 20))).2
theorem deep_end (f : Nat → Int) (k : Nat) : endIS (deepS f (k + 1)) = deepS f k := iso_back
section
variable {xs : List Int} {n : Nat} {f : Nat → Int}
theorem deep_in (hf : ∀ i, i < n → xs.getD i 0 = f i ∧ (f i = 19 ∨ f i = 20)) : ∀ k, k ≤ n → stE xs 0 k = deepS f k
  | 0, _ => rfl
  | k + 1, hk => by
    have h := hf k (by omega)
    rw [stE, deep_in hf k (by omega), deepS]
    have hr : rightC xs k = decide (f k = 20) := by unfold rightC; rw [if_neg (by rw [h.1]; omega), h.1]
    rw [h.1, stepA, if_neg (by omega), stepB, if_neg (by omega), if_neg (by omega), if_neg (by omega), if_neg (by omega), if_neg (by omega), if_pos (by rw [opB_iff]; omega), hr]
theorem deep_out (hf : ∀ i, i < n → xs.getD i 0 = f i ∧ (f i = 19 ∨ f i = 20)) (hg : ∀ i, i < n → xs.getD (n + i) 0 = 22) : ∀ k, k ≤ n → stE xs 0 (n + k) = deepS f (n - k)
  | 0, _ => deep_in hf n (Nat.le_refl _)
  | k + 1, hk => by
    have h := hg k (by omega)
    rw [← Nat.add_assoc, stE, deep_out hf hg k (by omega), h, stepA, if_pos rfl, show n - k = (n - (k + 1)) + 1 by omega, deep_end]
    rfl
theorem deep_sym (hf : ∀ i, i < n → xs.getD i 0 = f i ∧ (f i = 19 ∨ f i = 20)) (hg : ∀ i, i < n → xs.getD (n + i) 0 = 22) {i : Nat} (hi : i < n) : (exA xs 0 i).1 = (exA xs 0 (2 * n - 1 - i)).1 := by
  have h := hf i hi
  have h2 := hg (n - 1 - i) (by omega)
  rw [show n + (n - 1 - i) = 2 * n - 1 - i by omega] at h2
  have h3 := deep_out hf hg (n - 1 - i) (by omega)
  rw [show n + (n - 1 - i) = 2 * n - 1 - i by omega, show n - (n - 1 - i) = i + 1 by omega] at h3
  have h4 := deep_in hf i (by omega)
  have e1 : (exA xs 0 i).1 = (deepS f i).top.lv := by
    unfold exA
    rw [h4, h.1, stepA, if_neg (by omega), outX, if_neg (by omega)]
    split <;> rfl
  have e2 : (exA xs 0 (2 * n - 1 - i)).1 = (deepS f i).top.lv := by
    unfold exA
    rw [h3, h2, stepA, if_pos rfl, deep_end, outX, if_neg (by omega)]
    split <;> rfl
  rw [e1, e2]
theorem deep_last (hf : ∀ i, i < n → xs.getD i 0 = f i ∧ (f i = 19 ∨ f i = 20)) (hg : ∀ i, i < n → xs.getD (n + i) 0 = 22) (hl : xs.getD (2 * n) 0 = 0) : (exA xs 0 (2 * n)).1 = 0 := by
  have h3 := deep_out hf hg n (Nat.le_refl _)
  rw [show n + n = 2 * n by omega, Nat.sub_self] at h3
  unfold exA
  rw [h3, hl]
  show (outX 0 (stepA (newS 0) 0) 0).1 = 0
  decide
end
end Go.Proofs.Ytnmpoipakmjbpaa
/- What isolates and what ends it have one level: the stack at the one is the stack at the other. No function of the program. -/
namespace Go.Proofs.Ytnmpoipakmjbpaa
open Go.RowKit

/-- Whether a stack is inside of what was isolated at another. -/
def Above (T S : Stk) : Prop :=
  (∃ (P : List Ent) (e : Ent), T.R = P ++ e :: S.R ∧ (∀ x ∈ P, x.is = false) ∧ e.is = true ∧ T.bot = S.bot ∧ T.a = 0 ∧ T.c = S.c + 1 ∧ S.a = 0 ∧ S.b = 0) ∨ T = { S with a := S.a + 1 }
section
variable {T S : Stk} {r : Bool} {o : Int}
theorem above_iso : Above (isoS T r).2 T := by
  cases h : roomS T r with
  | true =>
    rw [iso_room h]
    have h3 := room_iff.1 h
    exact .inl ⟨[], _, rfl, by simp, rfl, rfl, h3.2.1, rfl, h3.2.1, h3.2.2⟩
  | false => rw [iso_no h]; exact .inr rfl
theorem above_end (h : Above T S) : endIS T = S := by
  rcases h with ⟨P, e, hR, hP, he, hb, ha, hc, h1, h2⟩ | rfl
  · have hd : (T.R.dropWhile fun e => !e.is).tail = S.R := by
      rw [hR]
      have : ∀ P : List Ent, (∀ x ∈ P, x.is = false) → (P ++ e :: S.R).dropWhile (fun e => !e.is) = e :: S.R := fun P => by
        induction P with
        | nil => intro _; rw [List.nil_append, List.dropWhile_cons, if_neg (by rw [he]; simp)]
        | cons x P ih =>
          intro h
          rw [List.cons_append, List.dropWhile_cons, if_pos (by rw [h x (by simp)]; rfl)]
          exact ih fun y hy => h y (by simp [hy])
      rw [this P hP]
      rfl
    unfold endIS
    rw [if_neg (by omega), if_pos (by omega), hd, hb, ha, hc]
    cases S
    simp_all
  · unfold endIS
    rw [if_pos (by simp)]
    simp
theorem above_emb (h : Above T S) : Above (embS T r o).2 S := by
  rcases h with ⟨P, e, hR, hP, he, hb, ha, hc, h1, h2⟩ | rfl
  · cases hr : roomS T r with
    | true =>
      rw [emb_room hr]
      exact .inl ⟨⟨nextS T r, o, false⟩ :: P, e, by simp [hR], by simpa using hP, he, hb, ha, hc, h1, h2⟩
    | false =>
      rw [emb_no hr, if_pos ha]
      exact .inl ⟨P, e, hR, hP, he, hb, ha, hc, h1, h2⟩
  · have hr : roomS { S with a := S.a + 1 } r = false := by unfold roomS; simp
    rw [emb_no hr, if_neg (by simp)]
    exact .inr rfl
theorem above_endE (h : Above T S) : Above (endES T) S := by
  rcases h with ⟨P, e, hR, hP, he, hb, ha, hc, h1, h2⟩ | rfl
  · unfold endES
    rw [if_neg (by omega)]
    split
    · exact .inl ⟨P, e, hR, hP, he, hb, ha, hc, h1, h2⟩
    · cases P with
      | nil =>
        have ht : T.top.is = true := by unfold Stk.top; rw [hR]; exact he
        rw [if_pos ht]
        exact .inl ⟨[], e, hR, hP, he, hb, ha, hc, h1, h2⟩
      | cons x P =>
        have ht : ¬ T.top.is = true := by unfold Stk.top; rw [hR]; simp [hP x (by simp)]
        rw [if_neg ht]
        unfold popS
        rw [if_neg (by rw [hR]; simp)]
        exact .inl ⟨P, e, by simp [hR], fun y hy => hP y (by simp [hy]), he, hb, ha, hc, h1, h2⟩
  · unfold endES
    rw [if_pos (by simp)]
    exact .inr rfl
theorem above_step {xs : List Int} {i : Nat} {c : Int} (h : Above T S) (hc : opB c = false) : Above (stepB xs i c T) S := by
  unfold stepB
  rw [hc]
  repeat' split
  all_goals first
    | exact above_emb h
    | exact above_endE h
    | exact h
    | (rename_i k; cases k)
end
/-- One inside the other. -/
def Nest : Stk → List Stk → Prop
  | _, [] => True
  | T, S :: F => Above T S ∧ Nest S F
theorem nest_go {xs : List Int} {base : Int} : ∀ (l : List Int) (p d j : Nat) (F : List Stk) (S : Stk), xs.drop p = l → F.length = d + 1 → F.getLast? = some S → Nest (stE xs base p) F → clo l d = some j → endIS (stE xs base (p + j)) = S
  | [], _, _, _, _, _, _, _, _, _, h => by simp [clo] at h
  | c :: l, p, d, j, F, S, hl, hF, hS, hN, h => by
    have hc : xs.getD p 0 = c := by
      have : xs[p]? = some c := by have := congrArg (fun t => t[0]?) hl; simpa using this
      rw [List.getD_eq_getElem?_getD, this]; rfl
    have hl2 : xs.drop (p + 1) = l := by rw [← List.drop_drop, hl]; rfl
    rw [clo] at h
    by_cases ho : opB c = true
    · rw [if_pos ho, Option.map_eq_some_iff] at h
      obtain ⟨j', hj, rfl⟩ := h
      have ho' := (opB_iff c).1 ho
      have hs : stE xs base (p + 1) = (isoS (stE xs base p) (rightC xs p)).2 := by
        rw [stE, hc, stepA, if_neg (by omega), stepB, if_neg (by omega), if_neg (by omega), if_neg (by omega), if_neg (by omega), if_neg (by omega), if_pos ho]
      have := nest_go l (p + 1) (d + 1) j' (stE xs base p :: F) S hl2 (by simp [hF]) (by
        cases F with
        | nil => simp at hF
        | cons x F => rw [List.getLast?_cons_cons]; exact hS) ⟨by rw [hs]; exact above_iso, hN⟩ hj
      rwa [show p + 1 + j' = p + (j' + 1) by omega] at this
    · rw [if_neg ho] at h
      have ho' : opB c = false := by simpa using ho
      by_cases hp : c = 22
      · rw [if_pos hp] at h
        match F, hF, hS, hN with
        | S0 :: F, hF, hS, ⟨hA, hN⟩ =>
          have he := above_end hA
          by_cases hd : d = 0
          · rw [if_pos hd] at h
            obtain rfl := Option.some.inj h
            have : F = [] := List.eq_nil_of_length_eq_zero (by simp at hF; omega)
            subst this
            obtain rfl : S0 = S := by simpa using hS
            exact he
          · rw [if_neg hd, Option.map_eq_some_iff] at h
            obtain ⟨j', hj, rfl⟩ := h
            have hs : stE xs base (p + 1) = S0 := by
              rw [stE, hc, stepA, if_pos hp, he, stepB, if_neg (by omega), if_neg (by omega), if_neg (by omega), if_neg (by omega), if_neg (by omega), if_neg (by rw [ho']; simp)]
            have := nest_go l (p + 1) (d - 1) j' F S hl2 (by simp at hF; omega) (by
              cases F with
              | nil => simp at hF; omega
              | cons x F => rwa [List.getLast?_cons_cons] at hS) (by rw [hs]; exact hN) hj
            rwa [show p + 1 + j' = p + (j' + 1) by omega] at this
      · rw [if_neg hp, Option.map_eq_some_iff] at h
        obtain ⟨j', hj, rfl⟩ := h
        have hs : stE xs base (p + 1) = stepB xs p c (stE xs base p) := by rw [stE, hc, stepA, if_neg hp]
        have hN2 : Nest (stE xs base (p + 1)) F := by
          match F, hN with
          | [], _ => trivial
          | S0 :: F, ⟨hA, hN⟩ => exact ⟨by rw [hs]; exact above_step hA ho', hN⟩
        have := nest_go l (p + 1) d j' F S hl2 hF hS hN2 hj
        rwa [show p + 1 + j' = p + (j' + 1) by omega] at this
/-- What isolates and what ends it have one level. -/
theorem pair_level {xs : List Int} {base : Int} {i j : Nat} {c : Int} (hc : xs[i]? = some c) (ho : opB c = true) (h : clo (xs.drop (i + 1)) 0 = some j) (hp : xs[i + 1 + j]? = some 22) : (exA xs base (i + 1 + j)).1 = (exA xs base i).1 := by
  have ho' := (opB_iff c).1 ho
  have hg : xs.getD i 0 = c := by rw [List.getD_eq_getElem?_getD, hc]; rfl
  have hg2 : xs.getD (i + 1 + j) 0 = 22 := by rw [List.getD_eq_getElem?_getD, hp]; rfl
  have hs : stE xs base (i + 1) = (isoS (stE xs base i) (rightC xs i)).2 := by
    rw [stE, hg, stepA, if_neg (by omega), stepB, if_neg (by omega), if_neg (by omega), if_neg (by omega), if_neg (by omega), if_neg (by omega), if_pos ho]
  have hn := nest_go (xs.drop (i + 1)) (i + 1) 0 j [stE xs base i] (stE xs base i) rfl rfl rfl ⟨by rw [hs]; exact above_iso, trivial⟩ h
  have e : ∀ (s : Stk) (c : Int), c ≠ 10 → (outX base s c).1 = s.top.lv := fun s c h => by
    unfold outX
    rw [if_neg h]
    split <;> rfl
  unfold exA
  rw [hg, hg2, stepA, if_pos rfl, hn, stepA, if_neg (by omega), e _ _ (by omega), e _ _ (by omega)]
end Go.Proofs.Ytnmpoipakmjbpaa
/- Runs and sequences as mathematics: each place that is not left out is in one of them, once; a sequence has one level, where what isolates and what ends it have. No function of the program. -/
namespace Go.Proofs.Ytnmpoipakmjbpaa
open Go.RowKit

/-- A place more: the runs, the last one first, and the last place. -/
def rnS (lv cl : List Int) (s : List (List Nat) × Option Nat) (k : Nat) : List (List Nat) × Option Nat :=
  if leftC (cl.getD k 0) = true then s else match s with
  | (r :: rs, some la) => if lv.getD la 0 = lv.getD k 0 then ((r ++ [k]) :: rs, some k) else ([k] :: r :: rs, some k)
  | (o, _) => ([k] :: o, some k)
def rnA (lv cl : List Int) : Nat → List (List Nat) × Option Nat
  | 0 => ([], none)
  | k + 1 => rnS lv cl (rnA lv cl k) k
def runsF (lv cl : List Int) : List (List Nat) := (rnA lv cl lv.length).1.reverse
/-- What holds of the runs so far. -/
def RnOk (lv cl : List Int) (s : List (List Nat) × Option Nat) (k : Nat) : Prop :=
  (s.1.reverse.flatten = (List.range k).filter fun i => !leftC (cl.getD i 0)) ∧ (∀ r ∈ s.1, r ≠ [] ∧ ∀ x ∈ r, ∀ y ∈ r, lv.getD x 0 = lv.getD y 0) ∧ (∀ r rs, s.1 = r :: rs → s.2 = r.getLast?) ∧ (s.1 = [] → s.2 = none)
theorem rn_ok (lv cl : List Int) : ∀ k, RnOk lv cl (rnA lv cl k) k
  | 0 => ⟨rfl, by simp [rnA], by simp [rnA], fun _ => rfl⟩
  | k + 1 => by
    have h := rn_ok lv cl k
    rw [rnA]
    generalize rnA lv cl k = s at h
    obtain ⟨h1, h2, h3, h4⟩ := h
    unfold rnS
    by_cases hl : leftC (cl.getD k 0) = true
    · rw [if_pos hl]
      refine ⟨?_, h2, h3, h4⟩
      rw [h1, List.range_succ, List.filter_append]
      simp only [List.filter_cons, List.filter_nil, hl, Bool.not_true, Bool.false_eq_true, if_false, List.append_nil]
    · rw [if_neg hl]
      have hr : (List.range (k + 1)).filter (fun i => !leftC (cl.getD i 0)) = (List.range k).filter (fun i => !leftC (cl.getD i 0)) ++ [k] := by
        have hl' : leftC (cl.getD k 0) = false := by simpa using hl
        rw [List.range_succ, List.filter_append]
        simp only [List.filter_cons, List.filter_nil, hl', Bool.not_false, if_true]
      have hnew : ∀ o : List (List Nat), o = s.1 → RnOk lv cl ([k] :: o, some k) (k + 1) := fun o ho => by
        subst ho
        refine ⟨?_, ?_, ?_, by simp⟩
        · rw [hr, ← h1]; simp
        · intro r hm
          rcases List.mem_cons.1 hm with rfl | hm
          · refine ⟨by simp, ?_⟩
            intro x hx y hy
            rw [List.mem_singleton] at hx hy
            rw [hx, hy]
          · exact h2 r hm
        · intro r rs e
          simp only [List.cons.injEq] at e
          rw [← e.1]; rfl
      obtain ⟨o, la⟩ := s
      match o, la with
      | [], la => exact hnew [] rfl
      | r :: rs, none => exact hnew _ rfl
      | r :: rs, some la =>
        show RnOk lv cl (if lv.getD la 0 = lv.getD k 0 then ((r ++ [k]) :: rs, some k) else ([k] :: r :: rs, some k)) (k + 1)
        split
        · rename_i he
          have hla := h3 r rs rfl
          have hm : la ∈ r := List.mem_of_getLast? hla.symm
          refine ⟨?_, ?_, ?_, by simp⟩
          · rw [hr, ← h1]; simp
          · intro r' hm'
            rcases List.mem_cons.1 hm' with rfl | hm'
            · refine ⟨by simp, ?_⟩
              have hk : ∀ x ∈ r ++ [k], lv.getD x 0 = lv.getD la 0 := fun x hx => by
                rcases List.mem_append.1 hx with hx | hx
                · exact (h2 r (by simp)).2 x hx la hm
                · rw [List.mem_singleton] at hx; rw [hx, he]
              intro x hx y hy
              rw [hk x hx, hk y hy]
            · exact h2 r' (by simp [hm'])
          · intro r' rs' e
            simp only [List.cons.injEq] at e
            rw [← e.1]; simp
        · exact hnew _ rfl
theorem runs_flat (lv cl : List Int) : (runsF lv cl).flatten = (List.range lv.length).filter fun i => !leftC (cl.getD i 0) := (rn_ok lv cl lv.length).1
theorem runs_one {lv cl : List Int} {r : List Nat} (h : r ∈ runsF lv cl) : r ≠ [] ∧ ∀ x ∈ r, ∀ y ∈ r, lv.getD x 0 = lv.getD y 0 := (rn_ok lv cl lv.length).2.1 r (List.mem_reverse.1 h)

/-- Which run begins with a place. -/
def begF (R : List (List Nat)) (p : Nat) : Option Nat := R.findIdx? fun r => decide (r.head? = some p)
/-- The run that goes on behind one. -/
def nxF (R : List (List Nat)) (bf mt : List Int) (k : Nat) : Option Nat := match (R.getD k []).getLast? with
  | none => none
  | some la => if opB (bf.getD la 0) = true ∧ mt.getD la 0 < bf.length then begF R (mt.getD la 0).toNat else none
/-- The runs used, with those that go on from one. -/
def chF (R : List (List Nat)) (bf mt : List Int) : Nat → Option Nat → List Nat → List Nat
  | 0, _, u => u
  | _ + 1, none, u => u
  | f + 1, some k, u => if k ∈ u then u else chF R bf mt f (nxF R bf mt k) (u ++ [k])
/-- The sequences as runs, and the runs used. -/
def sqF (R : List (List Nat)) (bf mt : List Int) : Nat → List (List Nat) × List Nat
  | 0 => ([], [])
  | i + 1 => if i ∈ (sqF R bf mt i).2 then sqF R bf mt i else
    ((sqF R bf mt i).1 ++ [(chF R bf mt (R.length + 1) (some i) (sqF R bf mt i).2).drop (sqF R bf mt i).2.length], chF R bf mt (R.length + 1) (some i) (sqF R bf mt i).2)
section
variable {R : List (List Nat)} {bf mt : List Int}
theorem beg_lt {p k : Nat} (h : begF R p = some k) : k < R.length ∧ (R.getD k []).head? = some p := by
  unfold begF at h
  obtain ⟨hk, hp, _⟩ := List.findIdx?_eq_some_iff_getElem.1 h
  refine ⟨hk, ?_⟩
  rw [List.getD_eq_getElem?_getD, List.getElem?_eq_getElem hk, Option.getD_some]
  exact of_decide_eq_true hp
theorem nx_lt {k j : Nat} (h : nxF R bf mt k = some j) : j < R.length := by
  unfold nxF at h
  split at h
  · cases h
  · split at h
    · exact (beg_lt h).1
    · cases h
theorem ch_ok : ∀ (f : Nat) (k : Option Nat) (u : List Nat), (∀ x ∈ u, x < R.length) → u.Nodup → (∀ j, k = some j → j < R.length) → u <+: chF R bf mt f k u ∧ (∀ x ∈ chF R bf mt f k u, x < R.length) ∧ (chF R bf mt f k u).Nodup
  | 0, _, u, h1, h2, _ => ⟨List.prefix_refl _, h1, h2⟩
  | _ + 1, none, u, h1, h2, _ => ⟨List.prefix_refl _, h1, h2⟩
  | f + 1, some k, u, h1, h2, h3 => by
    rw [chF]
    split
    · exact ⟨List.prefix_refl _, h1, h2⟩
    · rename_i hk
      have := ch_ok f (nxF R bf mt k) (u ++ [k]) (fun x hx => by
        rcases List.mem_append.1 hx with hx | hx
        · exact h1 x hx
        · rw [List.mem_singleton] at hx; rw [hx]; exact h3 k rfl) (by
        rw [List.nodup_append]
        refine ⟨h2, by simp, ?_⟩
        intro x hx y hy
        rw [List.mem_singleton] at hy
        subst hy
        exact fun e => hk (e ▸ hx)) (fun j hj => nx_lt hj)
      exact ⟨(List.prefix_append u [k]).trans this.1, this.2⟩
theorem ch_has {f k : Nat} {u : List Nat} (h1 : ∀ x ∈ u, x < R.length) (h2 : u.Nodup) (hk : k < R.length) : k ∈ chF R bf mt (f + 1) (some k) u := by
  rw [chF]
  split
  · assumption
  · rename_i hn
    have := (ch_ok (bf := bf) (mt := mt) f (nxF R bf mt k) (u ++ [k]) (fun x hx => by
        rcases List.mem_append.1 hx with hx | hx
        · exact h1 x hx
        · rw [List.mem_singleton] at hx; rw [hx]; exact hk) (by
        rw [List.nodup_append]
        refine ⟨h2, by simp, ?_⟩
        intro x hx y hy
        rw [List.mem_singleton] at hy
        subst hy
        exact fun e => hn (e ▸ hx)) (fun j hj => nx_lt hj)).1
    exact this.subset (by simp)
theorem sq_ok : ∀ i, i ≤ R.length → (∀ x ∈ (sqF R bf mt i).2, x < R.length) ∧ (sqF R bf mt i).2.Nodup ∧ (∀ j, j < i → j ∈ (sqF R bf mt i).2) ∧ (sqF R bf mt i).1.flatten = (sqF R bf mt i).2
  | 0, _ => ⟨by simp [sqF], by simp [sqF], by omega, rfl⟩
  | i + 1, hi => by
    obtain ⟨h1, h2, h3, h4⟩ := sq_ok i (by omega)
    rw [sqF]
    split
    · rename_i hm
      exact ⟨h1, h2, fun j hj => by
        by_cases e : j = i
        · rw [e]; exact hm
        · exact h3 j (by omega), h4⟩
    · have hc := ch_ok (R := R) (bf := bf) (mt := mt) (R.length + 1) (some i) _ h1 h2 (fun j hj => by obtain rfl := Option.some.inj hj; omega)
      refine ⟨hc.2.1, hc.2.2, fun j hj => ?_, ?_⟩
      · by_cases e : j = i
        · rw [e]; exact ch_has h1 h2 (by omega)
        · exact hc.1.subset (h3 j (by omega))
      · rw [List.flatten_append, h4, List.flatten_cons, List.flatten_nil, List.append_nil]
        obtain ⟨t, ht⟩ := hc.1
        show (sqF R bf mt i).2 ++ (chF R bf mt (R.length + 1) (some i) (sqF R bf mt i).2).drop (sqF R bf mt i).2.length = chF R bf mt (R.length + 1) (some i) (sqF R bf mt i).2
        rw [← ht, List.drop_left]
/-- Every run is used, once. -/
theorem sq_perm : (sqF R bf mt R.length).2.Perm (List.range R.length) := by
  obtain ⟨h1, h2, h3, _⟩ := sq_ok (R := R) (bf := bf) (mt := mt) R.length (Nat.le_refl _)
  refine (List.perm_ext_iff_of_nodup h2 List.nodup_range).2 fun a => ?_
  rw [List.mem_range]
  exact ⟨h1 a, h3 a⟩
/-- The places of the sequences, one behind the other. -/
def placesF (R : List (List Nat)) (ks : List Nat) : List Nat := ks.flatMap fun k => R.getD k []
theorem sq_places : (((sqF R bf mt R.length).1.map (placesF R)).flatten).Perm R.flatten := by
  have e : ((sqF R bf mt R.length).1.map (placesF R)).flatten = placesF R (sqF R bf mt R.length).2 := by
    rw [← (sq_ok (R := R) (bf := bf) (mt := mt) R.length (Nat.le_refl _)).2.2.2]
    have : ∀ L : List (List Nat), (L.map (placesF R)).flatten = placesF R L.flatten := fun L => by
      induction L with
      | nil => rfl
      | cons l L ih =>
        rw [List.map_cons, List.flatten_cons, ih, List.flatten_cons]
        unfold placesF
        rw [List.flatMap_append]
    exact this _
  rw [e]
  have e2 : placesF R (List.range R.length) = R.flatten := by
    unfold placesF
    rw [List.flatMap_def]
    congr 1
    refine List.ext_getElem? fun i => ?_
    rw [List.getElem?_map]
    by_cases hi : i < R.length
    · rw [List.getElem?_range hi, Option.map_some, List.getD_eq_getElem?_getD, List.getElem?_eq_getElem hi, Option.getD_some]
    · rw [List.getElem?_eq_none (by simpa using hi), List.getElem?_eq_none (by omega)]; rfl
  rw [← e2]
  exact sq_perm.flatMap_right _
/-- All runs of a sequence have one level, where what isolates and what ends it have. -/
theorem ch_level {lv : List Int} (hR : ∀ r ∈ R, r ≠ [] ∧ ∀ x ∈ r, ∀ y ∈ r, lv.getD x 0 = lv.getD y 0) (hm : ∀ la : Nat, opB (bf.getD la 0) = true → mt.getD la 0 < bf.length → lv.getD (mt.getD la 0).toNat 0 = lv.getD la 0) (n : Int) : ∀ (f : Nat) (k : Option Nat) (u : List Nat), (∀ j, k = some j → j < R.length ∧ ∀ x ∈ R.getD j [], lv.getD x 0 = n) → ∀ j ∈ chF R bf mt f k u, j ∈ u ∨ ∀ x ∈ R.getD j [], lv.getD x 0 = n
  | 0, _, u, _, j, hj => by rw [chF] at hj; exact .inl hj
  | _ + 1, none, u, _, j, hj => by rw [chF] at hj; exact .inl hj
  | f + 1, some k, u, hk, j, hj => by
    rw [chF] at hj
    split at hj
    · exact .inl hj
    · rename_i hn
      have hk' := hk k rfl
      have hstep : ∀ j', nxF R bf mt k = some j' → j' < R.length ∧ ∀ x ∈ R.getD j' [], lv.getD x 0 = n := fun j' h => by
        unfold nxF at h
        split at h
        · cases h
        · rename_i la hla
          split at h
          · rename_i hc
            obtain ⟨hlt, hh⟩ := beg_lt h
            refine ⟨hlt, fun x hx => ?_⟩
            have hmem : R.getD j' [] ∈ R := by rw [List.getD_eq_getElem?_getD, List.getElem?_eq_getElem hlt, Option.getD_some]; exact List.getElem_mem hlt
            have h1 := (hR _ hmem).2 x hx _ (List.mem_of_head? hh)
            rw [h1, hm la hc.1 hc.2]
            exact hk'.2 la (List.mem_of_getLast? hla)
          · cases h
      rcases ch_level hR hm n f (nxF R bf mt k) (u ++ [k]) hstep j hj with h | h
      · rcases List.mem_append.1 h with h | h
        · exact .inl h
        · rw [List.mem_singleton] at h
          subst h
          exact .inr hk'.2
      · exact .inr h
/-- So all places of a sequence have the level of the first one. -/
theorem sq_level {lv : List Int} (hR : ∀ r ∈ R, r ≠ [] ∧ ∀ x ∈ r, ∀ y ∈ r, lv.getD x 0 = lv.getD y 0) (hm : ∀ la : Nat, opB (bf.getD la 0) = true → mt.getD la 0 < bf.length → lv.getD (mt.getD la 0).toNat 0 = lv.getD la 0) : ∀ i, i ≤ R.length → ∀ ks ∈ (sqF R bf mt i).1, placesF R ks ≠ [] ∧ ∀ x ∈ placesF R ks, ∀ y ∈ placesF R ks, lv.getD x 0 = lv.getD y 0
  | 0, _, ks, h => by simp [sqF] at h
  | i + 1, hi, ks, h => by
    obtain ⟨h1, h2, _, _⟩ := sq_ok (R := R) (bf := bf) (mt := mt) i (by omega)
    rw [sqF] at h
    split at h
    · exact sq_level hR hm i (by omega) ks h
    · rename_i hn
      rcases List.mem_append.1 h with h | h
      · exact sq_level hR hm i (by omega) ks h
      · rw [List.mem_singleton] at h
        have hc := ch_ok (R := R) (bf := bf) (mt := mt) (R.length + 1) (some i) _ h1 h2 (fun j hj => by obtain rfl := Option.some.inj hj; omega)
        have hmem : R.getD i [] ∈ R := by rw [List.getD_eq_getElem?_getD, List.getElem?_eq_getElem (by omega), Option.getD_some]; exact List.getElem_mem _
        obtain ⟨hne, hsame⟩ := hR _ hmem
        obtain ⟨x0, hx0⟩ := List.exists_mem_of_ne_nil _ hne
        have hl := ch_level hR hm (lv.getD x0 0) (R.length + 1) (some i) (sqF R bf mt i).2 (fun j hj => by
          obtain rfl := Option.some.inj hj
          exact ⟨by omega, fun x hx => hsame x hx x0 hx0⟩)
        have hh := ch_has (R := R) (bf := bf) (mt := mt) (f := R.length) (k := i) h1 h2 (by omega)
        obtain ⟨t, ht⟩ := hc.1
        have hnd := hc.2.2
        rw [← ht, List.drop_left] at h
        rw [← ht] at hl hh hnd
        subst h
        have hall : ∀ k ∈ ks, ∀ x ∈ R.getD k [], lv.getD x 0 = lv.getD x0 0 := fun k hk => by
          rcases hl k (List.mem_append_right _ hk) with h | h
          · exact absurd rfl ((List.nodup_append.1 hnd).2.2 k h k hk)
          · exact h
        have hit : i ∈ ks := by
          rcases List.mem_append.1 hh with h | h
          · exact absurd h hn
          · exact h
        refine ⟨fun e => ?_, fun x hx y hy => ?_⟩
        · have : x0 ∈ placesF R ks := List.mem_flatMap.2 ⟨i, hit, hx0⟩
          rw [e] at this
          cases this
        · obtain ⟨k, hk, hx⟩ := List.mem_flatMap.1 hx
          obtain ⟨k', hk', hy⟩ := List.mem_flatMap.1 hy
          rw [hall k hk x hx, hall k' hk' y hy]
end
end Go.Proofs.Ytnmpoipakmjbpaa
/- The reference's Left, walked. -/
namespace Go.Proofs.Ytnmpoipakmjbpaa
open Go.RowKit

set_option maxRecDepth 100000 in
theorem rxLeft_any (x : Int) (w : World) : Calls Try.prog 19 #[.int .i64 x] w fun e w' => e = .returned (.bool (leftC x)) ∧ w = w' := by
  obtain ⟨v, hv⟩ : ∃ v, leftC x = v := ⟨_, rfl⟩
  rw [hv]
  have HV := Lib.hid hv
  clear hv
  by_cases h14 : 14 ≤ x
  · have d14 : decide ((14 : Int) ≤ x) = true := decide_eq_true h14
    by_cases h18 : x ≤ 18
    · have d18 : decide (x ≤ 18) = true := decide_eq_true h18
      obtain rfl : v = true := by rw [← HV.out]; unfold leftC; simp [h14, h18]
      go_enter Try.func19, Try.ntmps19
      go_wp2
      go_ret
      exact ⟨rfl, rfl⟩
    · have d18 : decide (x ≤ 18) = false := decide_eq_false h18
      have g9 : (x == 9) = false := by simp; omega
      obtain rfl : v = false := by rw [← HV.out]; unfold leftC; simp; omega
      go_enter Try.func19, Try.ntmps19
      go_wp2
      go_ret
      exact ⟨rfl, rfl⟩
  · have d14 : decide ((14 : Int) ≤ x) = false := decide_eq_false h14
    by_cases h9 : x = 9
    · subst h9
      obtain rfl : v = true := by rw [← HV.out]; decide
      go_enter Try.func19, Try.ntmps19
      go_wp2
      go_ret
      exact ⟨rfl, rfl⟩
    · have g9 : (x == 9) = false := by simp [h9]
      obtain rfl : v = false := by rw [← HV.out]; unfold leftC; simp [h14, h9]
      go_enter Try.func19, Try.ntmps19
      go_wp2
      go_ret
      exact ⟨rfl, rfl⟩
end Go.Proofs.Ytnmpoipakmjbpaa
/- para's isolates, naskhref20's Opens. -/
namespace Go.Proofs.Ytnmpoipakmjbpaa
open Go.RowKit

theorem opB_cases (c : Int) : (c = 19 ∧ opB c = true) ∨ (c = 20 ∧ opB c = true) ∨ (c = 21 ∧ opB c = true) ∨ (c ≠ 19 ∧ c ≠ 20 ∧ c ≠ 21 ∧ opB c = false) := by
  by_cases h1 : c = 19
  · exact .inl ⟨h1, (opB_iff c).2 (.inl h1)⟩
  by_cases h2 : c = 20
  · exact .inr (.inl ⟨h2, (opB_iff c).2 (.inr (.inl h2))⟩)
  by_cases h3 : c = 21
  · exact .inr (.inr (.inl ⟨h3, (opB_iff c).2 (.inr (.inr h3))⟩))
  refine .inr (.inr (.inr ⟨h1, h2, h3, ?_⟩))
  rw [Bool.eq_false_iff]
  intro h
  rw [opB_iff] at h
  omega
theorem prIso_of (c : Int) (v : Bool) (hv : opB c = v) (w : World) : Calls Try.prog 52 #[.int .i64 c] w fun e w' => e = .returned (.bool v) ∧ w = w' := by
  subst hv
  rcases opB_cases c with ⟨rfl, h⟩ | ⟨rfl, h⟩ | ⟨rfl, h⟩ | ⟨h1, h2, h3, h⟩
  iterate 3
    · rw [h]
      clear h
      go_enter Try.func52, Try.ntmps52
      go_wp2
      go_ret
      exact ⟨rfl, rfl⟩
  · rw [h]
    have g1 : (c == 19) = false := by simp [h1]
    have g2 : (c == 20) = false := by simp [h2]
    have g3 : (c == 21) = false := by simp [h3]
    clear h h1 h2 h3
    go_enter Try.func52, Try.ntmps52
    go_wp2
    go_ret
    exact ⟨rfl, rfl⟩
theorem rfOpens_of (c : Int) (v : Bool) (hv : opB c = v) (w : World) : Calls Try.prog 28 #[.int .i64 c] w fun e w' => e = .returned (.bool v) ∧ w = w' := by
  subst hv
  rcases opB_cases c with ⟨rfl, h⟩ | ⟨rfl, h⟩ | ⟨rfl, h⟩ | ⟨h1, h2, h3, h⟩
  iterate 3
    · rw [h]
      clear h
      go_enter Try.func28, Try.ntmps28
      go_wp2
      go_ret
      exact ⟨rfl, rfl⟩
  · rw [h]
    have g1 : (c == 19) = false := by simp [h1]
    have g2 : (c == 20) = false := by simp [h2]
    have g3 : (c == 21) = false := by simp [h3]
    clear h h1 h2 h3
    go_enter Try.func28, Try.ntmps28
    go_wp2
    go_ret
    exact ⟨rfl, rfl⟩
end Go.Proofs.Ytnmpoipakmjbpaa
/- para's Matches, walked. -/
namespace Go.Proofs.Ytnmpoipakmjbpaa
open Go.RowKit

def intV (x : Int) : Value := .int .i64 x
theorem intSliceM : SliceOf Try.prog 22 3 1 8 := .mk_ (z := .int .i64 0) Try.underlying22 (by kernel_rfl) rfl
/-- The stack, as the program lays it: the first one first. -/
def stkL (s : List Nat) : List Int := s.reverse.map fun i => ((i : Nat) : Int)
theorem stkL_len (s : List Nat) : (stkL s).length = s.length := by simp [stkL]
theorem stkL_push (k : Nat) (s : List Nat) : stkL (k :: s) = stkL s ++ [((k : Nat) : Int)] := by simp [stkL]
theorem stkL_top (t : Nat) (r : List Nat) : (stkL (t :: r))[r.length]? = some ((t : Nat) : Int) := by
  rw [stkL_push, List.getElem?_append_right (by rw [stkL_len]; exact Nat.le_refl _), stkL_len, Nat.sub_self]
  rfl
theorem stkL_take (t : Nat) (r : List Nat) : (stkL (t :: r)).take r.length = stkL r := by
  rw [stkL_push, List.take_append_of_le_length (by rw [stkL_len]; exact Nat.le_refl _), ← stkL_len, List.take_length]
theorem pmS_open {xs : List Int} {k : Nat} {c : Int} {m : List Int} {s : List Nat} (h : pmS xs k = (m, s)) (hc : xs[k]? = some c) (ho : opB c = true) : pmS xs (k + 1) = ((m.set k (-1)).set k xs.length, k :: s) := by
  rw [pmS]; simp only [h, hc]; rw [if_pos ho]
theorem pmS_shut {xs : List Int} {k t : Nat} {m : List Int} {r : List Nat} (h : pmS xs k = (m, t :: r)) (hc : xs[k]? = some 22) : pmS xs (k + 1) = (((m.set k (-1)).set k t).set t k, r) := by
  rw [pmS]; simp only [h, hc]; rw [if_neg (by decide)]; rfl
theorem pmS_empty {xs : List Int} {k : Nat} {m : List Int} (h : pmS xs k = (m, [])) (hc : xs[k]? = some 22) : pmS xs (k + 1) = (m.set k (-1), []) := by
  rw [pmS]; simp only [h, hc]; rw [if_neg (by decide)]; rfl
theorem pmS_pass {xs : List Int} {k : Nat} {c : Int} {m : List Int} {s : List Nat} (h : pmS xs k = (m, s)) (hc : xs[k]? = some c) (ho : opB c = false) (h2 : c ≠ 22) : pmS xs (k + 1) = (m.set k (-1), s) := by
  rw [pmS]; simp only [h, hc]; rw [if_neg (by rw [ho]; decide), if_neg h2]
theorem headM {w : World} {base : Nat} {e : TypeId} {size g n m cap : Nat} {xs : List Value} (h : w.ownsRow base e size (.slice (some ⟨g, 0, none⟩) n cap) n xs) (hm : m ≤ n) : w.ownsRow base e size (.slice (some ⟨g, 0, none⟩) m cap) m (xs.take (m * size)) := by
  obtain ⟨h1, h2⟩ := h
  refine ⟨by rw [List.length_take, h1]; exact Nat.min_eq_left (Nat.mul_le_mul_right _ hm), ?_⟩
  rcases h2 with ⟨h', _⟩ | ⟨g', cap', cur, h', hb, hg, hnc, hcm, hcs, htake⟩
  · simp at h'
  · simp only [Value.slice.injEq, Option.some.injEq, Addr.mk.injEq, and_true, true_and] at h'
    obtain ⟨rfl, rfl⟩ := h'
    refine .inr ⟨g, cap, cur, rfl, hb, hg, Nat.le_trans hm hnc, hcm, hcs, ?_⟩
    rw [← htake, List.take_take, Nat.min_eq_left (Nat.mul_le_mul_right _ hm)]
/-- What lies in memory between two rounds: the answers' block, the stack. -/
structure MtAt (w0 w : World) (g n : Nat) (m : List Int) (v : Value) (s : List Nat) : Prop where
  ans : w.ownsRow w0.heap.size 3 1 (.slice (some ⟨g, 0, none⟩) n n) n (m.map (Value.int .i64))
  stk : w.ownsRow w0.heap.size 3 1 v s.length ((stkL s).map (Value.int .i64))
  ne : v.ownBlock ≠ some g
  low : Below w0.heap.size w0 w
section
variable {w0 w w' : World} {g n : Nat} {m : List Int} {v : Value} {s : List Nat}
theorem MtAt.set (h : MtAt w0 w g n m v s) (k : Nat) (x : Int) : MtAt w0 (w.setCell ⟨g, k, none⟩ (.int .i64 x)) g n (m.set k x) v s := by
  have h1 := h.ans.stored k (.int .i64 x)
  refine ⟨by rw [List.map_set]; exact h1.1, own_set_far h.stk h.ne, h.ne, h.low.setCell (p := ⟨g, k, none⟩) (h.ans.lt g rfl).1 _⟩
theorem MtAt.push (h : MtAt w0 w g n m v s) {k : Nat} {v' : Value} (hg : w.grownBy w' v.ownBlock) (hown : w'.ownsRow w0.heap.size 3 1 v' (s.length + 1) ((stkL s).map (Value.int .i64) ++ [.int .i64 (k : Int)])) (hat : v'.ownBlock = v.ownBlock ∨ ∃ b, v'.ownBlock = some b ∧ w.heap.size ≤ b) : MtAt w0 w' g n m v' (k :: s) := by
  refine ⟨h.ans.kept hg (.inr (fun e => h.ne e.symm)), by rw [stkL_push, List.map_append, List.length_cons]; exact hown, ?_, below_app h.low hg h.stk h.low.size⟩
  rcases hat with e | ⟨b, e, hb⟩
  · rw [e]; exact h.ne
  · intro e2
    rw [e] at e2
    have := (h.ans.lt g rfl).2
    have : b = g := by simpa using e2
    omega
theorem MtAt.pop {t : Nat} {r : List Nat} {b c : Nat} (h : MtAt w0 w g n m (.slice (some ⟨b, 0, none⟩) (r.length + 1) c) (t :: r)) : MtAt w0 w g n m (.slice (some ⟨b, 0, none⟩) r.length c) r := by
  have h1 := headM (m := r.length) h.stk (by simp)
  refine ⟨h.ans, ?_, h.ne, h.low⟩
  rw [Nat.mul_one, ← List.map_take, stkL_take] at h1
  exact h1
theorem MtAt.lowr (h : MtAt w0 w g n m v s) (hb : Below w.heap.size w w') : MtAt w0 w' g n m v s := ⟨own_below h.ans hb, own_below h.stk hb, h.ne, h.low.trans (hb.mono h.low.size)⟩
theorem MtAt.cell (h : MtAt w0 w g n m v s) {k : Nat} (hk : k < n) : (∃ u, w.cell? ⟨g, k, none⟩ = some u) ∧ w.frozen? ⟨g, k, none⟩ = false := own_slot h.ans (by omega)
end
set_option maxRecDepth 100000 in
set_option maxHeartbeats 4000000 in
theorem prMatches_any (A : Option Addr) (n c : Nat) (xs : List Int) (w : World) (hr : Rd w 1 A n (xs.map (Value.int .i64))) (hn : n ≤ 100000) :
    Calls Try.prog 24 #[.slice A n c] w fun e w' => ∃ v, e = .returned v ∧ w'.ownsRow w.heap.size 3 1 v n ((matF xs).map (Value.int .i64)) ∧ Below w.heap.size w w' := by
  have hlen : xs.length = n := by simpa using hr.len1
  have HL := Lib.hid hlen
  have HR := Lib.hid hr
  clear hlen hr
  go_enter Try.func24, Try.ntmps24
  go_wp2_with (first
    | (refine wpList_mkFull rfl _ _ _ rfl (base := w.heap.size) (e := 3) (bytes := 8) (z := .int .i64 0) Try.underlying22 (by kernel_rfl) rfl (n : Int) (n : Int) n rfl rfl rfl rfl (by omega) (by unfold maxLen; omega) (Nat.le_refl _) ?_; intro w1 hown1 hg1)
    | fail)
  have hgn : w.heap.size < w1.heap.size := (hown1.lt w.heap.size rfl).2
  obtain ⟨g, hg⟩ : ∃ g, w.heap.size = g := ⟨_, rfl⟩
  have HM0 : Hid (MtAt w w1 g n (List.replicate n 0) (.slice none 0 0) []) := Lib.hid ⟨by rw [List.map_replicate, ← hg]; exact hown1, ⟨rfl, .inl ⟨rfl, rfl⟩⟩, by simp [Value.ownBlock], below_make hg1⟩
  rw [hg]
  clear hown1 hg1
  go_wp2_with fail
  go_loopw [4, 13] (fun v i wr => ∃ k : Nat, k ≤ n ∧ i = .int .i64 (k : Int) ∧ MtAt w wr g n (pmS xs k).1 v (pmS xs k).2) (fun _ i _ => n - (intOf i).toNat)
  case atStart => exact ⟨0, Nat.zero_le _, rfl, by have := HM0.out; rw [pmS, HL.out]; exact this⟩
  case round =>
    obtain ⟨k, hk, rfl, hM⟩ := hrel
    have hsl := pmS_stack xs k
    obtain ⟨m, s, hms⟩ : ∃ m s, pmS xs k = (m, s) := ⟨_, _, rfl⟩
    have HS := Lib.hid hms
    rw [hms] at hM hsl
    simp only at hM hsl
    by_cases hlt : k < n
    · obtain ⟨x, hx⟩ : ∃ x, xs[k]? = some x := ⟨_, List.getElem?_eq_getElem (by rw [HL.out]; exact hlt)⟩
      obtain ⟨ad, rfl, hab, hcell⟩ := (HR.out.below hM.low).at_ hlt
      have cx : wr.cell? (ad.add k) = some (.int .i64 x) := hcell _ (by rw [List.getElem?_map, hx]; rfl)
      obtain ⟨⟨u, cu⟩, fu⟩ := hM.cell hlt
      have hM1 := hM.set k (-1)
      obtain ⟨⟨u1, cu1⟩, fu1⟩ := hM1.cell hlt
      have HM1 := Lib.hid hM1
      have HX := Lib.hid hx
      obtain ⟨o, ho⟩ : ∃ o, opB x = o := ⟨_, rfl⟩
      have HI := Lib.hid (fun W => prIso_of x o ho W)
      have HO := Lib.hid ho
      have hkn : (k : Int) < (n : Int) := by omega
      have hk0 : (0 : Int) ≤ (k : Int) := by omega
      clear hM hM1 hms hcell hx ho
      cases o with
      | true =>
        have HN := Lib.hid (pmS_open HS.out HX.out HO.out)
        rw [HL.out] at HN
        have HM2 := Lib.hid (HM1.out.set k (n : Int))
        have HNW := Lib.hid (cells_new ((wr.setCell ⟨g, k, none⟩ (.int .i64 (-1))).setCell ⟨g, k, none⟩ (.int .i64 (n : Int))) [.int .i64 (k : Int)] 3)
        have hsz2 : ((wr.setCell ⟨g, k, none⟩ (.int .i64 (-1))).setCell ⟨g, k, none⟩ (.int .i64 (n : Int))).heap.size = wr.heap.size := by simp [World.setCell]
        rw [hsz2] at HNW
        clear hsz2
        go_wp2_with (first
          | (go_at_call 52; with_reducible refine (HI.out _).mono ?_; rintro e w2 ⟨rfl, rfl⟩)
          | (at_builtin; refine wpList_app rfl _ _ _ rfl intSliceM (by decide) _ s.length _ rfl (HM2.out.stk.alloc _) ⟨wr.heap.size, 0, none⟩ 1 1 [.int .i64 (k : Int)] rfl rfl HNW.out (oneInt _ _) (by omega) (by unfold maxLen; omega) (Nat.le_trans HM2.out.low.size (by simp)) ?_; intro v1 w3 hown3 hg3 hat3)
          | fail)
        have HM3 := Lib.hid ((HM2.out.lowr (below_new _ _)).push (k := k) hg3 hown3 (by
          rcases hat3 with e | e
          · exact .inl e
          · exact .inr ⟨_, e, by simp⟩))
        clear hown3 hg3 hat3
        go_roundw
        case rel => exact ⟨k + 1, by omega, by go_num, by rw [HN.out]; exact HM3.out⟩
        case measure => simp [intOf]; omega
      | false =>
        by_cases h22 : x = 22
        · subst h22
          cases s with
          | nil =>
            have HN := Lib.hid (pmS_empty HS.out HX.out)
            obtain ⟨As, cs, hv, hcs⟩ := own_form HM1.out.stk
            simp only [List.length_nil] at hv
            subst hv
            go_wp2_with (first
              | (go_at_call 52; with_reducible refine (HI.out _).mono ?_; rintro e w2 ⟨rfl, rfl⟩)
              | fail)
            go_roundw
            case rel => exact ⟨k + 1, by omega, by go_num, by rw [HN.out]; exact HM1.out⟩
            case measure => simp [intOf]; omega
          | cons t r =>
            have HN := Lib.hid (pmS_shut HS.out HX.out)
            obtain ⟨gs, cs, rfl, hcs, hgs, hbs, hcell⟩ := own_at HM1.out.stk (by simp)
            have hct : (wr.setCell ⟨g, k, none⟩ (.int .i64 (-1))).cell? ⟨gs, r.length, none⟩ = some (.int .i64 (t : Int)) := hcell _ _ (by rw [List.getElem?_map, stkL_top]; rfl)
            have htk : t < k := by
              have h9 := (pmI_all xs k (by rw [HL.out]; omega)).st 0 t (by rw [HS.out]; rfl)
              exact h9.1
            have HM2 := Lib.hid (HM1.out.set k (t : Int))
            have HM3 := Lib.hid ((HM2.out.set t (k : Int)).pop)
            have HMX := Lib.hid (((HM1.out.set t (k : Int)).set k (t : Int)).pop)
            have HC := Lib.hid (show (((m.set k (-1)).set t (k : Int)).set k (t : Int)) = (((m.set k (-1)).set k (t : Int)).set t (k : Int)) from List.set_comm _ _ (by omega))
            have hne : gs ≠ g := fun e => HM1.out.ne (by rw [e]; rfl)
            obtain ⟨⟨u2, cu2⟩, fu2⟩ := HM1.out.cell (show t < n by omega)
            obtain ⟨⟨u3, cu3⟩, fu3⟩ := HM2.out.cell (show t < n by omega)
            have ht0 : (0 : Int) ≤ (t : Int) := by omega
            have htn : (t : Int) < (n : Int) := by omega
            have hrl : r.length + 1 ≤ 100000 := by simp at hsl; omega
            obtain ⟨q, hq⟩ : ∃ q, r.length = q := ⟨_, rfl⟩
            have hlr : (((t :: r).length : Nat) : Int) = (q : Int) + 1 := by simp; omega
            simp only [List.length_cons, hq] at *
            have hl1 : ((q : Int) + 1) - 1 = (q : Int) := by omega
            clear hcell
            go_wp2_with (first
              | (go_at_call 52; with_reducible refine (HI.out _).mono ?_; rintro e w2 ⟨rfl, rfl⟩)
              | fail)
            go_region
            have HM4 := Lib.hid (HM3.out.lowr (Below.refl _ _).drew)
            go_wp2_with fail
            go_roundw
            case rel => exact ⟨k + 1, by omega, by go_num, by rw [HN.out]; exact HM4.out⟩
            case measure => simp [intOf]; omega
        · have HN := Lib.hid (pmS_pass HS.out HX.out HO.out h22)
          have g22 : (x == 22) = false := by simp [h22]
          clear h22
          go_wp2_with (first
            | (go_at_call 52; with_reducible refine (HI.out _).mono ?_; rintro e w2 ⟨rfl, rfl⟩)
            | fail)
          go_roundw
          case rel => exact ⟨k + 1, by omega, by go_num, by rw [HN.out]; exact HM1.out⟩
          case measure => simp [intOf]; omega
    · obtain rfl : k = n := by omega
      have HZ := Lib.hid (show matF xs = m by unfold matF; rw [HL.out, HS.out])
      have HMM := Lib.hid hM
      clear hM hms
      go_wp2
      go_ret
      exact ⟨_, rfl, by rw [HZ.out]; exact HMM.out.ans, HMM.out.low⟩
end Go.Proofs.Ytnmpoipakmjbpaa
/- Which blocks a call may write. -/
namespace Go.Proofs.Ytnmpoipakmjbpaa
open Go.RowKit

/-- w' is w with new blocks, and with writes to the blocks of S alone. -/
structure Kept (w w' : World) (S : List Nat) : Prop where
  os : w'.os = w.os
  tape : w'.tape = w.tape
  output : w'.output = w.output
  size : w.heap.size ≤ w'.heap.size
  block : ∀ i, i < w.heap.size → i ∉ S → w'.heap[i]? = w.heap[i]?
theorem Kept.refl (w : World) (S : List Nat) : Kept w w S := ⟨rfl, rfl, rfl, Nat.le_refl _, fun _ _ _ => rfl⟩
theorem Kept.trans {a b c : World} {S : List Nat} (h : Kept a b S) (k : Kept b c S) : Kept a c S :=
  ⟨k.os.trans h.os, k.tape.trans h.tape, k.output.trans h.output, Nat.le_trans h.size k.size, fun i hi hs => (k.block i (Nat.lt_of_lt_of_le hi h.size) hs).trans (h.block i hi hs)⟩
theorem Kept.of_grown {a b : World} {g : Nat} {S : List Nat} (h : a.grownBy b (some g)) (hg : g ∈ S) : Kept a b S :=
  ⟨h.os, h.tape, h.output, h.size, fun i hi hs => h.block i hi (fun e => hs (by obtain rfl := Option.some.inj e; exact hg))⟩
theorem Kept.of_below {a b : World} (h : Below a.heap.size a b) (S : List Nat) : Kept a b S := ⟨h.os, h.tape, h.output, h.size, fun i hi _ => h.block i hi⟩
theorem Kept.drew {a b : World} {S : List Nat} (h : Kept a b S) : Kept a b.drew S := ⟨h.os, h.tape, h.output, h.size, h.block⟩
theorem Kept.set {a b : World} {S : List Nat} (h : Kept a b S) {g : Nat} (hg : g ∈ S ∨ a.heap.size ≤ g) (j : Nat) (u : Value) : Kept a (b.setCell ⟨g, j, none⟩ u) S :=
  ⟨h.os, h.tape, h.output, by simpa [World.setCell] using h.size, fun i hi hs => (Below.heap_setCell b ⟨g, j, none⟩ u i (by
    show i ≠ g
    rintro rfl
    rcases hg with hg | hg
    · exact hs hg
    · omega)).trans (h.block i hi hs)⟩
theorem Kept.heap {w w' : World} {S : List Nat} (h : Kept w w' S) {g : Nat} {o : Obj} (hg : w.heap[g]? = some o) (hs : g ∉ S) : w'.heap[g]? = some o := by
  have hlt : g < w.heap.size := by
    rcases Nat.lt_or_ge g w.heap.size with h' | h'
    · exact h'
    · rw [Array.getElem?_eq_none h'] at hg
      cases hg
  exact (h.block g hlt hs).trans hg
theorem Kept.cell {w w' : World} {S : List Nat} (h : Kept w w' S) {g j : Nat} {v : Value} (hc : w.cell? ⟨g, j, none⟩ = some v) (hs : g ∉ S) : w'.cell? ⟨g, j, none⟩ = some v := by
  have hlt : g < w.heap.size := cell_lt hc
  unfold World.cell? at hc ⊢
  rw [show w'.heap[(⟨g, j, none⟩ : Addr).block]? = w.heap[(⟨g, j, none⟩ : Addr).block]? from h.block g hlt hs]
  exact hc
theorem heap_lt {w : World} {g : Nat} {o : Obj} (h : w.heap[g]? = some o) : g < w.heap.size := by
  rcases Nat.lt_or_ge g w.heap.size with h' | h'
  · exact h'
  · rw [Array.getElem?_eq_none h'] at h
    cases h
theorem frozen_of_heap {w : World} {g : Nat} {cs : Array Value} {t : TypeId} (h : w.heap[g]? = some (.cells cs t (0, 0))) (j : Nat) : w.frozen? ⟨g, j, none⟩ = false := by
  unfold World.frozen?
  rw [show w.heap[(⟨g, j, none⟩ : Addr).block]? = _ from h]
  rfl
theorem heap_setCell_far {w : World} {g k : Nat} (h : k ≠ g) (j : Nat) (u : Value) : (w.setCell ⟨g, j, none⟩ u).heap[k]? = w.heap[k]? := Below.heap_setCell w ⟨g, j, none⟩ u k h
end Go.Proofs.Ytnmpoipakmjbpaa
/- What writes to some blocks alone leaves: rows, what lies below. -/
namespace Go.Proofs.Ytnmpoipakmjbpaa
open Go.RowKit

theorem own_kept {w w' : World} {base : Nat} {e : TypeId} {size n : Nat} {v : Value} {xs : List Value} {S : List Nat} (h : w.ownsRow base e size v n xs) (hk : Kept w w' S) (hs : ∀ x ∈ S, x < base) : w'.ownsRow base e size v n xs :=
  ⟨h.1, h.2.imp id fun ⟨g, cap, cur, e1, hb, hg, r⟩ => ⟨g, cap, cur, e1, hb, hk.heap hg (fun hm => by have := hs g hm; omega), r⟩⟩
theorem own_keptG {w w' : World} {base : Nat} {e : TypeId} {size n g c : Nat} {xs : List Value} {S : List Nat} (h : w.ownsRow base e size (.slice (some ⟨g, 0, none⟩) n c) n xs) (hk : Kept w w' S) (hs : g ∉ S) : w'.ownsRow base e size (.slice (some ⟨g, 0, none⟩) n c) n xs := by
  refine ⟨h.1, h.2.imp id fun ⟨g', cap, cur, e1, hb, hg, r⟩ => ⟨g', cap, cur, e1, hb, hk.heap hg (fun hm => ?_), r⟩⟩
  simp only [Value.slice.injEq, Option.some.injEq, Addr.mk.injEq, and_true] at e1
  obtain ⟨rfl, _⟩ := e1
  exact hs hm
theorem Kept.lower {a b w : World} {S : List Nat} {B : Nat} (h : Kept a b S) (hb : Below B w a) (hB : B ≤ a.heap.size) (hs : ∀ x ∈ S, B ≤ x) : Below B w b :=
  ⟨h.os.trans hb.os, h.tape.trans hb.tape, h.output.trans hb.output, Nat.le_trans hb.size h.size, fun k hk => (h.block k (Nat.lt_of_lt_of_le hk hB) (fun hm => by have := hs k hm; omega)).trans (hb.block k hk)⟩
theorem Kept.belowE {w b : World} (h : Kept w b []) : Below w.heap.size w b := h.lower (Below.refl _ _) (Nat.le_refl _) (by simp)
theorem Kept.moreS {a b : World} {S T : List Nat} (h : Kept a b S) (hs : ∀ x ∈ S, x ∈ T) : Kept a b T := ⟨h.os, h.tape, h.output, h.size, fun i hi hn => h.block i hi (fun hm => hn (hs i hm))⟩
/-- Writes to new blocks are no writes. -/
theorem Kept.less {a b : World} {S T : List Nat} (h : Kept a b S) (hs : ∀ x ∈ S, x ∈ T ∨ a.heap.size ≤ x) : Kept a b T := ⟨h.os, h.tape, h.output, h.size, fun i hi hn => h.block i hi (fun hm => by
  rcases hs i hm with h' | h'
  · exact hn h'
  · omega)⟩
end Go.Proofs.Ytnmpoipakmjbpaa
/- Blocks of memory by their cells: what lies in one, what a store leaves of others. -/
namespace Go.Proofs.Ytnmpoipakmjbpaa
open Go.RowKit

def intsZ (l : List Int) : List Value := l.map (Value.int .i64)
theorem intsZ_set (l : List Int) (i : Nat) (x : Int) : intsZ (l.set i x) = (intsZ l).set i (.int .i64 x) := by simp [intsZ, List.map_set]
theorem hp_lt {w : World} {g : Nat} {o : Obj} (h : w.heap[g]? = some o) : g < w.heap.size := by
  by_cases c : g < w.heap.size
  · exact c
  · rw [Array.getElem?_eq_none (by omega)] at h; exact absurd h (by simp)
theorem hp_cell {w : World} {g : Nat} {cs : Array Value} {t : TypeId} (h : w.heap[g]? = some (.cells cs t (0, 0))) {j : Nat} {v : Value} (hj : cs[j]? = some v) : w.cell? ⟨g, j, none⟩ = some v := by
  unfold World.cell?
  rw [show w.heap[(⟨g, j, none⟩ : Addr).block]? = _ from h]
  simpa using hj
theorem hp_froz {w : World} {g : Nat} {cs : Array Value} {t : TypeId} (h : w.heap[g]? = some (.cells cs t (0, 0))) (j : Nat) : w.frozen? ⟨g, j, none⟩ = false := by
  unfold World.frozen?
  rw [show w.heap[(⟨g, j, none⟩ : Addr).block]? = _ from h]
  rfl
theorem hp_far {w : World} {g k : Nat} (h : k ≠ g) (j : Nat) (u : Value) : (w.setCell ⟨g, j, none⟩ u).heap[k]? = w.heap[k]? := Below.heap_setCell w ⟨g, j, none⟩ u k h
theorem hp_row {w : World} {g : Nat} {l : List Int} {t : TypeId} (h : w.heap[g]? = some (.cells (intsZ l).toArray t (0, 0))) (i : Nat) (x : Int) : (w.setCell ⟨g, i, none⟩ (.int .i64 x)).heap[g]? = some (.cells (intsZ (l.set i x)).toArray t (0, 0)) := by
  rw [heap_setCell_same w g i _ t _ h]
  congr 2
  rw [intsZ_set, List.setIfInBounds_toArray]
theorem Rd.belowS {w w' : World} {size n s : Nat} {A : Option Addr} {xs : List Value} (h : Rd w size A n xs) (hA : 0 < n → ∀ ad, A = some ad → ad.block < s) (hb : Below s w w') : Rd w' size A n xs :=
  ⟨h.1, fun hn => by
    obtain ⟨ad, e, hlt, hc⟩ := h.2 hn
    exact ⟨ad, e, Nat.lt_of_lt_of_le hlt hb.size, fun j u hu => (hb.cell (by rw [blockAdd]; exact hA hn ad e)).trans (hc j u hu)⟩⟩
end Go.Proofs.Ytnmpoipakmjbpaa
/- A map from places to numbers that the call itself has made, as a function of the place: looked up, stored, deleted (after XFinT, which has spans). -/
namespace Go.Proofs.Ytnmpoipakmjbpaa
open Go.RowKit

def numD (s : Nat) : DataW Unit := .lit (.int .i64 (s : Int))
def valN (s : Nat) : Value := .int .i64 (s : Int)
/-- How a number in a map reads. -/
def numElem : Value → Option (DataW Unit × List MemPlace)
  | .int .i64 a => if 0 ≤ a then some (numD a.toNat, []) else none
  | _ => none
theorem numElem_mk (s : Nat) : numElem (valN s) = some (numD s, []) := by
  show (if 0 ≤ (s : Int) then some (numD (s : Int).toNat, []) else none) = _
  rw [if_pos (by omega), Int.toNat_natCast]
theorem numElem_inv {v : Value} {z : DataW Unit × List MemPlace} (h : numElem v = some z) : ∃ s : Nat, v = valN s ∧ z = (numD s, []) := by
  unfold numElem at h
  split at h
  · rename_i a
    split at h
    · rename_i ha
      exact ⟨a.toNat, by unfold valN; rw [Int.toNat_of_nonneg ha], (Option.some.inj h).symm⟩
    · simp at h
  · simp at h
theorem numD_inj {s t : Nat} (h : numD s = numD t) : s = t := by
  unfold numD at h
  simp only [DataW.lit.injEq, Lit.int.injEq, true_and] at h
  omega
theorem key_wfN {k : Nat} (h : k ≤ 100000000) : (Lit.int .i64 (k : Int)).wf = true := by
  simp [Lit.wf, IntKind.min, IntKind.max, IntKind.signed, IntKind.bits]; omega
/-- How many places below n have a span. -/
def cntMN (M : Nat → Option Nat) : Nat → Nat
  | 0 => 0
  | n + 1 => cntMN M n + (if (M n).isSome = true then 1 else 0)
theorem cntMN_le (M : Nat → Option Nat) (n : Nat) : cntMN M n ≤ n := by
  induction n with
  | zero => exact Nat.le_refl _
  | succ n ih => unfold cntMN; split <;> omega
def putMN (M : Nat → Option Nat) (k : Nat) (s : Nat) : Nat → Option Nat := fun j => if j = k then some s else M j
def delMN (M : Nat → Option Nat) (k : Nat) : Nat → Option Nat := fun j => if j = k then none else M j
theorem cntMN_far {M N : Nat → Option Nat} {n : Nat} (h : ∀ j, j < n → M j = N j) : cntMN M n = cntMN N n := by
  induction n with
  | zero => rfl
  | succ n ih => unfold cntMN; rw [ih (fun j hj => h j (by omega)), h n (by omega)]
theorem cntMN_put {M : Nat → Option Nat} {n k : Nat} (hk : k < n) (s : Nat) : cntMN (putMN M k s) n = if (M k).isSome = true then cntMN M n else cntMN M n + 1 := by
  induction n with
  | zero => omega
  | succ n ih =>
    by_cases e : k = n
    · subst e
      unfold cntMN
      rw [cntMN_far (M := putMN M k s) (N := M) (fun j hj => if_neg (by omega)), show putMN M k s k = some s from if_pos rfl]
      cases hm : (M k).isSome <;> simp
    · have h1 := ih (by omega)
      unfold cntMN
      rw [h1, show putMN M k s n = M n from if_neg (fun h => e h.symm)]
      cases hm : (M k).isSome <;> simp <;> omega
theorem cntMN_del {M : Nat → Option Nat} {n k : Nat} (hk : k < n) : cntMN (delMN M k) n + (if (M k).isSome = true then 1 else 0) = cntMN M n := by
  induction n with
  | zero => omega
  | succ n ih =>
    by_cases e : k = n
    · subst e
      unfold cntMN
      rw [cntMN_far (M := delMN M k) (N := M) (fun j hj => if_neg (by omega)), show delMN M k k = none from if_pos rfl]
      simp
    · have h1 := ih (by omega)
      unfold cntMN
      rw [show delMN M k n = M n from if_neg (fun h => e h.symm)]
      omega
/-- Block m is a map of places below n that has these spans. -/
def NumAt (w : World) (m n : Nat) (M : Nat → Option Nat) : Prop :=
  (∃ D : DataW Unit, w.ownsMap Try.prog 3 numElem m n D ∧ Maps.size D = cntMN M n ∧ ∀ k : Nat, Maps.has D (.int .i64 (k : Int)) = (M k).isSome ∧ D.atKey (.int .i64 (k : Int)) (numD 0) = numD ((M k).getD 0))
section
variable {w w' : World} {m n : Nat} {M : Nat → Option Nat}
theorem NumAt.drew (h : NumAt w m n M) : NumAt w.drew m n M := h
theorem NumAt.lt (h : NumAt w m n M) : m < w.heap.size := by obtain ⟨D, h, _⟩ := h; exact h.lt
theorem NumAt.heap (h : NumAt w m n M) (he : w'.heap[m]? = w.heap[m]?) : NumAt w' m n M := by
  obtain ⟨D, ⟨es, clock, h1, h2, h3, h4⟩, h5⟩ := h
  exact ⟨D, ⟨es, clock, he.trans h1, h2, h3, h4⟩, h5⟩
theorem NumAt.kept {S : List Nat} (h : NumAt w m n M) (hk : Kept w w' S) (hs : m ∉ S) : NumAt w' m n M := h.heap (hk.block m h.lt hs)
theorem fit_noneN : WideElems.Fit Try.prog 3 numElem #[] 0 := by
  obtain ⟨es, clock, h1, h2, _⟩ := World.ownsMap_made (default : World) Try.prog 3 numElem
  rw [heap_alloc_new] at h1
  injection h1 with h1
  injection h1 with h1 h3
  subst h1 h3
  exact h2
theorem cntMN_none (n : Nat) : cntMN (fun _ => none) n = 0 := by
  induction n with
  | zero => rfl
  | succ n ih => unfold cntMN; rw [ih]; rfl
theorem NumAt.none_ (h : w.heap[m]? = some (.map #[] 0)) (n : Nat) : NumAt w m n (fun _ => none) :=
  ⟨.map [], ⟨#[], 0, h, fit_noneN, Nat.zero_le _, by simp⟩, by rw [cntMN_none]; rfl, fun k => ⟨rfl, rfl⟩⟩
theorem own_fitN {k : TypeId} {R : Value → Option (DataW Unit × List MemPlace)} {b c : Nat} {D : DataW Unit} (h : w.ownsMap Try.prog k R b c D) {c' : Nat} (hc : Maps.size D ≤ c') : w.ownsMap Try.prog k R b c' D := by
  obtain ⟨es, clock, h1, h2, h3, rfl⟩ := h
  refine ⟨es, clock, h1, h2, ?_, rfl⟩
  have := length_read (P := Try.prog) (k := k) (R0 := R) es
  unfold Maps.size at hc
  simp only [this] at hc
  exact hc
theorem int_mapN : Maps.Keyed Try.prog 3 := Maps.int_keyed Try.underlying3
theorem map_typeN : Try.prog.underlying 47 = some (.map 3 3) := Try.underlying47
theorem num_zero (w : World) : (zeroValue 3).run Try.prog w = .ok (valN 0) w := Try.zeroValue3 w
theorem NumAt.look (h : NumAt w m n M) {k : Nat} (hk : k ≤ 100000000) : (Instr.lookup 47 (.map (some m)) (.int .i64 (k : Int)) false).run Try.prog w = .ok (valN ((M k).getD 0)) w := by
  obtain ⟨D, h1, _, h2⟩ := h
  obtain ⟨v, ps, hrun, hv⟩ := h1.lookup int_mapN map_typeN (num_zero w) (numElem_mk 0) (Maps.keyOf_int_mk Try.underlying3 (key_wfN hk))
  obtain ⟨s, rfl, hz⟩ := numElem_inv hv
  rw [(h2 k).2] at hz
  rw [hrun, numD_inj (congrArg Prod.fst hz)]
theorem NumAt.look_ok (h : NumAt w m n M) {k : Nat} (hk : k ≤ 100000000) : (Instr.lookup 47 (.map (some m)) (.int .i64 (k : Int)) true).run Try.prog w = .ok (.tuple #[valN ((M k).getD 0), .bool (M k).isSome]) w := by
  obtain ⟨D, h1, _, h2⟩ := h
  obtain ⟨v, ps, hrun, hv⟩ := h1.look_ok int_mapN map_typeN (num_zero w) (numElem_mk 0) (Maps.keyOf_int_mk Try.underlying3 (key_wfN hk))
  obtain ⟨s, rfl, hz⟩ := numElem_inv hv
  rw [(h2 k).2] at hz
  rw [hrun, (h2 k).1, numD_inj (congrArg Prod.fst hz)]
set_option maxRecDepth 100000 in
theorem NumAt.store (h : NumAt w m n M) {k : Nat} (hk : k < n) (hc : n ≤ 100000000) (s : Nat) : ∃ w', (Instr.mapUpdate 47 (.map (some m)) (.int .i64 (k : Int)) (valN s)).run Try.prog w = .ok () w' ∧ NumAt w' m n (putMN M k s) ∧ w.mapTurned w' m := by
  obtain ⟨D, h1, hsz, h2⟩ := h
  have hl : WideAt.IsKeyLit (.int .i64 (k : Int)) := trivial
  have htd := h1.tidy int_mapN
  obtain ⟨w', hrun, h3, h4⟩ := h1.store int_mapN map_typeN (by unfold maxLen; omega) (Maps.keyOf_int_mk Try.underlying3 (key_wfN (k := k) (by omega))) (numElem_mk s)
  have hsz2 : Maps.size (D.put (.int .i64 (k : Int)) (numD s)) = cntMN (putMN M k s) n := by
    rw [Maps.size_put htd, (h2 k).1, hsz, cntMN_put hk]
  refine ⟨w', hrun, ⟨_, own_fitN h3 (by rw [hsz2]; exact cntMN_le _ _), hsz2, fun j => ?_⟩, h4⟩
  unfold putMN
  by_cases e : j = k
  · subst e
    rw [if_pos rfl]
    exact ⟨Maps.has_put_same h1.isMap hl _, Maps.atKey_put_same h1.isMap hl _ _⟩
  · rw [if_neg e]
    have hne : (Lit.int .i64 (j : Int)) ≠ .int .i64 (k : Int) := fun e9 => e (by have := (Lit.int.inj e9).2; omega)
    exact ⟨(Maps.has_put_other hne _).trans (h2 j).1, (Maps.atKey_put_other hne _ _).trans (h2 j).2⟩
set_option maxRecDepth 100000 in
theorem NumAt.drop (h : NumAt w m n M) {k : Nat} (hk : k < n) (hc : n ≤ 100000000) (ty : TypeId) : ∃ w', (Builtin.delete_ #[47, 3] ty #[.map (some m), .int .i64 (k : Int)]).run Try.prog w = .ok (.tuple #[]) w' ∧ NumAt w' m n (delMN M k) ∧ w.mapTurned w' m := by
  obtain ⟨D, h1, hsz, h2⟩ := h
  have htd := h1.tidy int_mapN
  obtain ⟨w', hrun, h3, h4⟩ := h1.drop int_mapN map_typeN (Maps.keyOf_int_mk Try.underlying3 (key_wfN (k := k) (by omega))) ty
  have hsz2 : Maps.size (D.del (.int .i64 (k : Int))) = cntMN (delMN M k) n := by
    have e1 := Maps.size_del (k := .int .i64 (k : Int)) htd
    have e2 := cntMN_del (M := M) hk
    rw [(h2 k).1] at e1
    omega
  refine ⟨w', hrun, ⟨_, h3, hsz2, fun j => ?_⟩, h4⟩
  unfold delMN
  by_cases e : j = k
  · subst e
    rw [if_pos rfl]
    exact ⟨Maps.has_del_same, Maps.atKey_del_same _⟩
  · rw [if_neg e]
    have hne : (Lit.int .i64 (j : Int)) ≠ .int .i64 (k : Int) := fun e9 => e (by have := (Lit.int.inj e9).2; omega)
    exact ⟨(Maps.has_del_other hne).trans (h2 j).1, (Maps.atKey_del_other hne _).trans (h2 j).2⟩
theorem kept_turnedN (h : w.mapTurned w' m) : Kept w w' [m] := Kept.of_grown h.grown (List.mem_singleton_self _)
end
end Go.Proofs.Ytnmpoipakmjbpaa
