/- Texts of one claim, one behind the other. -/
import Derived.WalkKit
import Derived.BigQuiet
import Derived.Test.YtdgomaoikeffhaaGreatMgAp1
/- A stack of levels as mathematics: what each call leaves, that what begins and ends leaves it as it was, that levels rise. No function of the program. -/
namespace Go.Proofs.YtdgomaoikeffhaaGreat
open Go.RowKit

/-- An entry of a stack: level, override, whether it isolates. -/
structure Ent where
  lv : Int
  ov : Int
  is : Bool
deriving DecidableEq
/-- A stack: its entries, the last one first, above the first one; isolates and embeddings too many; isolates that count. -/
structure Stk where
  bot : Ent
  R : List Ent
  a : Nat
  b : Nat
  c : Nat
deriving DecidableEq
namespace Stk
def top (s : Stk) : Ent := s.R.headD s.bot
def all (s : Stk) : List Ent := s.bot :: s.R.reverse
def len (s : Stk) : Nat := s.R.length + 1
end Stk
/-- The next odd, or even, number. -/
def nextN (n : Int) (r : Bool) : Int := if (decide ((n + 1) % 2 = 1) != r) = true then n + 2 else n + 1
def newS (level : Int) : Stk := ⟨⟨min (max level 0) 125, 13, false⟩, [], 0, 0, 0⟩
section
variable (s : Stk)
def nextS (r : Bool) : Int := nextN s.top.lv r
def roomS (r : Bool) : Bool := decide (nextS s r ≤ 125) && (decide (s.a = 0) && decide (s.b = 0))
def pushS (e : Ent) : Bool × Stk := if e.lv ≤ s.top.lv ∨ 125 < e.lv then (false, s) else (true, { s with R := e :: s.R })
def popS : Bool × Stk := if s.R = [] then (false, s) else (true, { s with R := s.R.tail })
def embS (r : Bool) (o : Int) : Bool × Stk := if roomS s r = true then pushS s ⟨nextS s r, o, false⟩ else (false, if s.a = 0 then { s with b := s.b + 1 } else s)
def isoS (r : Bool) : Bool × Stk := if roomS s r = true then pushS { s with c := s.c + 1 } ⟨nextS s r, 13, true⟩ else (false, { s with a := s.a + 1 })
def endES : Stk := if 0 < s.a then s else if 0 < s.b then { s with b := s.b - 1 } else if s.top.is = true then s else (popS s).2
def endIS : Stk := if 0 < s.a then { s with a := s.a - 1 } else if 0 < s.c then { s with b := 0, R := (s.R.dropWhile fun e => !e.is).tail, c := s.c - 1 } else s
end
theorem nextN_gt (n : Int) (r : Bool) : n + 1 ≤ nextN n r ∧ nextN n r ≤ n + 2 := by unfold nextN; split <;> omega
section
variable {s : Stk} {r : Bool} {o : Int}
theorem room_iff : roomS s r = true ↔ nextS s r ≤ 125 ∧ s.a = 0 ∧ s.b = 0 := by unfold roomS; simp
theorem push_ok {e : Ent} (h1 : s.top.lv < e.lv) (h2 : e.lv ≤ 125) : pushS s e = (true, { s with R := e :: s.R }) := by unfold pushS; rw [if_neg (by omega)]
theorem emb_room (h : roomS s r = true) : embS s r o = (true, { s with R := ⟨nextS s r, o, false⟩ :: s.R }) := by
  unfold embS
  rw [if_pos h]
  exact push_ok (by show s.top.lv < nextS s r; have := nextN_gt s.top.lv r; unfold nextS; omega) (room_iff.1 h).1
theorem emb_no (h : roomS s r = false) : embS s r o = (false, if s.a = 0 then { s with b := s.b + 1 } else s) := by unfold embS; rw [if_neg (by simp [h])]
theorem iso_room (h : roomS s r = true) : isoS s r = (true, { s with R := ⟨nextS s r, 13, true⟩ :: s.R, c := s.c + 1 }) := by
  unfold isoS
  rw [if_pos h]
  have := push_ok (s := { s with c := s.c + 1 }) (e := ⟨nextS s r, 13, true⟩) (by show s.top.lv < nextS s r; have := nextN_gt s.top.lv r; unfold nextS; omega) (room_iff.1 h).1
  rw [this]
theorem iso_no (h : roomS s r = false) : isoS s r = (false, { s with a := s.a + 1 }) := by unfold isoS; rw [if_neg (by simp [h])]
/-- What begins and ends leaves all as it was. -/
theorem emb_back : endES (embS s r o).2 = s := by
  cases h : roomS s r with
  | true =>
    rw [emb_room h]
    have h3 := room_iff.1 h
    unfold endES popS
    simp [h3.2.1, h3.2.2, Stk.top]
    cases s
    simp_all
  | false =>
    rw [emb_no h]
    by_cases ha : s.a = 0
    · simp only [if_pos ha]
      unfold endES
      simp [ha]
      cases s
      simp_all
    · simp only [if_neg ha]
      unfold endES
      rw [if_pos (by omega)]
theorem iso_back : endIS (isoS s r).2 = s := by
  cases h : roomS s r with
  | true =>
    rw [iso_room h]
    have h3 := room_iff.1 h
    unfold endIS
    simp [h3.2.1]
    cases s
    simp_all
  | false =>
    rw [iso_no h]
    unfold endIS
    simp
end
/-- Levels rise from the first entry on, and are within bounds. -/
def Rises (s : Stk) : Prop := (s.R ++ [s.bot]).Pairwise (fun x y => y.lv < x.lv) ∧ (∀ e ∈ s.R ++ [s.bot], s.bot.lv ≤ e.lv ∧ e.lv ≤ 125) ∧ 0 ≤ s.bot.lv
theorem rises_new (level : Int) : Rises (newS level) := ⟨by simp [newS], by simp [newS]; omega, by simp [newS]; omega⟩
section
variable {s : Stk}
theorem Rises.top (h : Rises s) : s.bot.lv ≤ s.top.lv ∧ s.top.lv ≤ 125 := by
  unfold Stk.top
  cases hR : s.R with
  | nil => have := h.2.1 s.bot (by simp); simp; omega
  | cons e R => have := h.2.1 e (by simp [hR]); simpa using this
theorem Rises.sub (h : Rises s) {R : List Ent} (hs : R.Sublist s.R) {a b c : Nat} : Rises ⟨s.bot, R, a, b, c⟩ :=
  ⟨h.1.sublist (hs.append_right _), fun e he => h.2.1 e ((hs.append_right _).subset he), h.2.2⟩
theorem Rises.put (h : Rises s) {e : Ent} (h1 : s.top.lv < e.lv) (h2 : e.lv ≤ 125) {a b c : Nat} : Rises ⟨s.bot, e :: s.R, a, b, c⟩ := by
  have ht := h.top
  have hall : ∀ x ∈ s.R ++ [s.bot], x.lv < e.lv := by
    intro x hx
    unfold Stk.top at h1
    cases hR : s.R with
    | nil => rw [hR] at hx h1; simp at hx h1; subst hx; exact h1
    | cons y R =>
      rw [hR] at hx h1
      simp at h1
      have hp := h.1
      rw [hR, List.cons_append, List.pairwise_cons] at hp
      rw [List.cons_append, List.mem_cons] at hx
      rcases hx with rfl | hx
      · exact h1
      · have := hp.1 x hx; omega
  refine ⟨?_, ?_, h.2.2⟩
  · rw [List.cons_append, List.pairwise_cons]
    exact ⟨hall, h.1⟩
  · intro x hx
    rw [List.cons_append, List.mem_cons] at hx
    rcases hx with rfl | hx
    · exact ⟨by show s.bot.lv ≤ _; omega, h2⟩
    · exact h.2.1 x hx
theorem pair_len : ∀ {l : List Ent} {n : Int}, l.Pairwise (fun x y => y.lv < x.lv) → (∀ e ∈ l, n ≤ e.lv) → ∀ m : Int, n ≤ m + 1 → (∀ e ∈ l, e.lv ≤ m) → (l.length : Int) ≤ m + 1 - n
  | [], n, _, _, m, hm, _ => by simp; omega
  | e :: l, n, hp, hn, m, hm, hl => by
    rw [List.pairwise_cons] at hp
    have h1 := hn e (by simp)
    have h2 := hl e (by simp)
    have := pair_len (n := n) hp.2 (fun x hx => hn x (by simp [hx])) (e.lv - 1) (by omega) (fun x hx => by have := hp.1 x hx; omega)
    simp only [List.length_cons]
    omega
theorem Rises.len (h : Rises s) : s.len ≤ 126 := by
  have := pair_len (n := 0) h.1 (fun e he => by have := h.2.1 e he; have := h.2.2; omega) 125 (by omega) (fun e he => (h.2.1 e he).2)
  rw [List.length_append] at this
  simp at this
  unfold Stk.len
  omega
end
/-- What one call may do to the length and the level. -/
def Near (s t : Stk) : Prop := t.bot = s.bot ∧ Rises t ∧ (s.len < t.len → s.top.lv < t.top.lv) ∧ (t.len < s.len → t.top.lv < s.top.lv)
section
variable {s : Stk} {r : Bool} {o : Int}
theorem near_same (h : Rises s) {a b c : Nat} : Near s ⟨s.bot, s.R, a, b, c⟩ := ⟨rfl, h.sub (List.Sublist.refl _), fun h => by simp [Stk.len] at h, fun h => by simp [Stk.len] at h⟩
theorem near_put (h : Rises s) {e : Ent} (h1 : s.top.lv < e.lv) (h2 : e.lv ≤ 125) {a b c : Nat} : Near s ⟨s.bot, e :: s.R, a, b, c⟩ := ⟨rfl, h.put h1 h2, fun _ => h1, fun h => by simp [Stk.len] at h; omega⟩
theorem near_less (h : Rises s) {R : List Ent} (hs : R <:+ s.R) {a b c : Nat} : Near s ⟨s.bot, R, a, b, c⟩ := by
  refine ⟨rfl, h.sub hs.sublist, fun hl => ?_, fun hl => ?_⟩
  · have := hs.length_le; simp [Stk.len] at hl; omega
  · obtain ⟨P, hP⟩ := hs
    unfold Stk.top
    cases P with
    | nil => simp at hP; simp [Stk.len, ← hP] at hl
    | cons e P =>
      have hp := h.1
      rw [← hP, List.cons_append, List.cons_append, List.pairwise_cons] at hp
      rw [← hP]
      simp only [List.cons_append, List.headD_cons]
      cases R with
      | nil => exact hp.1 s.bot (by simp)
      | cons x R => exact hp.1 x (by simp)
theorem near_emb (h : Rises s) : Near s (embS s r o).2 := by
  cases hr : roomS s r with
  | true => rw [emb_room hr]; exact near_put h (by show s.top.lv < nextS s r; have := nextN_gt s.top.lv r; unfold nextS; omega) (room_iff.1 hr).1
  | false =>
    rw [emb_no hr]
    show Near s (if s.a = 0 then { s with b := s.b + 1 } else s)
    split
    · exact near_same h
    · exact near_same h
theorem near_iso (h : Rises s) : Near s (isoS s r).2 := by
  cases hr : roomS s r with
  | true => rw [iso_room hr]; exact near_put h (by show s.top.lv < nextS s r; have := nextN_gt s.top.lv r; unfold nextS; omega) (room_iff.1 hr).1
  | false => rw [iso_no hr]; exact near_same h
theorem near_endE (h : Rises s) : Near s (endES s) := by
  unfold endES
  split
  · exact near_same h
  · split
    · exact near_same h
    · split
      · exact near_same h
      · unfold popS
        split
        · exact near_same h
        · exact near_less h (List.tail_suffix _)
theorem near_endI (h : Rises s) : Near s (endIS s) := by
  unfold endIS
  split
  · exact near_same h
  · split
    · exact near_less h ((List.tail_suffix _).trans (List.dropWhile_suffix _))
    · exact near_same h
theorem near_pop (h : Rises s) : Near s (popS s).2 := by
  unfold popS
  split
  · exact near_same h
  · exact near_less h (List.tail_suffix _)
theorem near_push (h : Rises s) {e : Ent} : Near s (pushS s e).2 := by
  unfold pushS
  split
  · exact near_same h
  · exact near_put h (by omega) (by omega)
end
end Go.Proofs.YtdgomaoikeffhaaGreat
/- The levels of classes as mathematics: the stack ahead of each place, the level and the class; bounds, what is plain, what is deep. No function of the program. -/
namespace Go.Proofs.YtdgomaoikeffhaaGreat
open Go.RowKit

/-- Whether a class is left out. -/
def leftC (c : Int) : Bool := (decide (14 ≤ c) && decide (c ≤ 18)) || decide (c = 9)
/-- Whether what begins at a place goes from the right. -/
def rightC (xs : List Int) (i : Nat) : Bool := if xs.getD i 0 = 21 then decide (firstF xs ((i : Int) + 1, (matF xs).getD i 0) = 1) else decide (xs.getD i 0 = 20)
def givS (s : Stk) (c : Int) : Int := if s.top.ov = 13 then c else s.top.ov
def stepA (s : Stk) (c : Int) : Stk := if c = 22 then endIS s else s
def stepB (xs : List Int) (i : Nat) (c : Int) (s : Stk) : Stk :=
  if c = 16 then (embS s true 13).2 else if c = 14 then (embS s false 13).2 else if c = 17 then (embS s true 1).2 else if c = 15 then (embS s false 0).2 else if c = 18 then endES s else if opB c = true then (isoS s (rightC xs i)).2 else s
def outX (base : Int) (s : Stk) (c : Int) : Int × Int := if c = 10 then (base, c) else if leftC c = true then (s.top.lv, 9) else (s.top.lv, givS s c)
def baseL (level : Int) : Int := min (max level 0) 1
/-- The stack ahead of place k. -/
def stE (xs : List Int) (base : Int) : Nat → Stk
  | 0 => newS base
  | k + 1 => stepB xs k (xs.getD k 0) (stepA (stE xs base k) (xs.getD k 0))
def exA (xs : List Int) (base : Int) (k : Nat) : Int × Int := outX base (stepA (stE xs base k) (xs.getD k 0)) (xs.getD k 0)
def lvL (xs : List Int) (base : Int) (k : Nat) : List Int := (List.range k).map fun i => (exA xs base i).1
def clL (xs : List Int) (base : Int) (k : Nat) : List Int := (List.range k).map fun i => (exA xs base i).2
theorem lvL_step (xs : List Int) (base : Int) (k : Nat) : lvL xs base (k + 1) = lvL xs base k ++ [(exA xs base k).1] := by unfold lvL; rw [List.range_succ, List.map_append]; rfl
theorem clL_step (xs : List Int) (base : Int) (k : Nat) : clL xs base (k + 1) = clL xs base k ++ [(exA xs base k).2] := by unfold clL; rw [List.range_succ, List.map_append]; rfl
theorem lvL_len (xs : List Int) (base : Int) (k : Nat) : (lvL xs base k).length = k := by simp [lvL]
theorem clL_len (xs : List Int) (base : Int) (k : Nat) : (clL xs base k).length = k := by simp [clL]
theorem lvL_get {xs : List Int} {base : Int} {k i : Nat} (h : i < k) : (lvL xs base k)[i]? = some (exA xs base i).1 := by simp [lvL, h]
theorem base_in (level : Int) : 0 ≤ baseL level ∧ baseL level ≤ 1 := by unfold baseL; omega
theorem new_bot {base : Int} (h : 0 ≤ base ∧ base ≤ 1) : (newS base).bot = ⟨base, 13, false⟩ := by
  have : min (max base 0) 125 = base := by omega
  unfold newS
  rw [this]
theorem near_a {s : Stk} (h : Rises s) (c : Int) : (stepA s c).bot = s.bot ∧ Rises (stepA s c) := by
  unfold stepA
  split
  · have := near_endI h; exact ⟨this.1, this.2.1⟩
  · exact ⟨rfl, h⟩
theorem near_b {s : Stk} (h : Rises s) (xs : List Int) (i : Nat) (c : Int) : (stepB xs i c s).bot = s.bot ∧ Rises (stepB xs i c s) := by
  unfold stepB
  repeat' split
  all_goals first
    | exact ⟨(near_emb h).1, (near_emb h).2.1⟩
    | exact ⟨(near_endE h).1, (near_endE h).2.1⟩
    | exact ⟨(near_iso h).1, (near_iso h).2.1⟩
    | exact ⟨rfl, h⟩
theorem st_rises {xs : List Int} {base : Int} : ∀ k, (stE xs base k).bot = (newS base).bot ∧ Rises (stE xs base k)
  | 0 => ⟨rfl, rises_new base⟩
  | k + 1 => by
    have h := st_rises (xs := xs) (base := base) k
    have h1 := near_a h.2 (xs.getD k 0)
    have h2 := near_b h1.2 xs k (xs.getD k 0)
    exact ⟨h2.1.trans (h1.1.trans h.1), h2.2⟩
/-- Levels are from the paragraph's to the limit. -/
theorem ex_in {xs : List Int} {base : Int} (hb : 0 ≤ base ∧ base ≤ 1) (k : Nat) : base ≤ (exA xs base k).1 ∧ (exA xs base k).1 ≤ 125 := by
  have h := st_rises (xs := xs) (base := base) k
  have h1 := near_a h.2 (xs.getD k 0)
  have ht := h1.2.top
  rw [h1.1, h.1, new_bot hb] at ht
  unfold exA outX
  simp only at ht
  split
  · simp only; omega
  · split
    · exact ht
    · exact ht
theorem new_end (base : Int) : endIS (newS base) = newS base := by simp [endIS, newS]
/-- Without what embeds, overrides or isolates nothing changes. -/
theorem st_plain {xs : List Int} {base : Int} (hp : ∀ c ∈ xs, leftC c = false ∧ opB c = false) : ∀ k, k ≤ xs.length → stE xs base k = newS base
  | 0, _ => rfl
  | k + 1, hk => by
    have hc : xs.getD k 0 ∈ xs := by rw [List.getD_eq_getElem?_getD, List.getElem?_eq_getElem (by omega), Option.getD_some]; exact List.getElem_mem _
    have h := hp _ hc
    rw [stE, st_plain hp k (by omega)]
    generalize xs.getD k 0 = c at h
    have ha : stepA (newS base) c = newS base := by
      unfold stepA
      split
      · exact new_end base
      · rfl
    have hl := h.1
    unfold leftC at hl
    simp only [Bool.or_eq_false_iff, Bool.and_eq_false_iff, decide_eq_false_iff_not] at hl
    rw [ha, stepB, if_neg (by omega), if_neg (by omega), if_neg (by omega), if_neg (by omega), if_neg (by omega), if_neg (by rw [h.2]; simp)]
theorem ex_plain {xs : List Int} {base : Int} (hb : 0 ≤ base ∧ base ≤ 1) (hp : ∀ c ∈ xs, leftC c = false ∧ opB c = false) {k : Nat} (hk : k < xs.length) : exA xs base k = (base, xs.getD k 0) := by
  have hc : xs.getD k 0 ∈ xs := by rw [List.getD_eq_getElem?_getD, List.getElem?_eq_getElem (by omega), Option.getD_some]; exact List.getElem_mem _
  have h := hp _ hc
  unfold exA
  rw [st_plain hp k (by omega)]
  generalize xs.getD k 0 = c at h
  have ha : stepA (newS base) c = newS base := by
    unfold stepA
    split
    · exact new_end base
    · rfl
  have ht : (newS base).top = ⟨base, 13, false⟩ := new_bot hb
  rw [ha, outX, ht, h.1]
  split
  · rfl
  · simp only [Bool.false_eq_true, if_false]
    unfold givS
    rw [ht]
    simp
theorem plain_all {xs : List Int} {base : Int} (hb : 0 ≤ base ∧ base ≤ 1) (hp : ∀ c ∈ xs, leftC c = false ∧ opB c = false) : clL xs base xs.length = xs ∧ ∀ n ∈ lvL xs base xs.length, n = base := by
  constructor
  · refine List.ext_getElem? fun i => ?_
    by_cases hi : i < xs.length
    · unfold clL
      rw [List.getElem?_map, List.getElem?_range hi, Option.map_some, ex_plain hb hp hi, List.getD_eq_getElem?_getD, List.getElem?_eq_getElem hi, Option.getD_some]
    · rw [List.getElem?_eq_none (by rw [clL_len]; omega), List.getElem?_eq_none (by omega)]
  · intro n hn
    unfold lvL at hn
    obtain ⟨i, hi, rfl⟩ := List.mem_map.1 hn
    rw [ex_plain hb hp (List.mem_range.1 hi)]
/-- The stack behind k isolates. -/
def deepS (f : Nat → Int) : Nat → Stk
  | 0 => newS 0
  | k + 1 => (isoS (deepS f k) (decide (f k = 20))).2
theorem deep_end (f : Nat → Int) (k : Nat) : endIS (deepS f (k + 1)) = deepS f k := iso_back
section
variable {xs : List Int} {n : Nat} {f : Nat → Int}
theorem deep_in (hf : ∀ i, i < n → xs.getD i 0 = f i ∧ (f i = 19 ∨ f i = 20)) : ∀ k, k ≤ n → stE xs 0 k = deepS f k
  | 0, _ => rfl
  | k + 1, hk => by
    have h := hf k (by omega)
    rw [stE, deep_in hf k (by omega), deepS]
    have hr : rightC xs k = decide (f k = 20) := by unfold rightC; rw [if_neg (by rw [h.1]; omega), h.1]
    rw [h.1, stepA, if_neg (by omega), stepB, if_neg (by omega), if_neg (by omega), if_neg (by omega), if_neg (by omega), if_neg (by omega), if_pos (by rw [opB_iff]; omega), hr]
theorem deep_out (hf : ∀ i, i < n → xs.getD i 0 = f i ∧ (f i = 19 ∨ f i = 20)) (hg : ∀ i, i < n → xs.getD (n + i) 0 = 22) : ∀ k, k ≤ n → stE xs 0 (n + k) = deepS f (n - k)
  | 0, _ => deep_in hf n (Nat.le_refl _)
  | k + 1, hk => by
    have h := hg k (by omega)
    rw [← Nat.add_assoc, stE, deep_out hf hg k (by omega), h, stepA, if_pos rfl, show n - k = (n - (k + 1)) + 1 by omega, deep_end]
    rfl
theorem deep_sym (hf : ∀ i, i < n → xs.getD i 0 = f i ∧ (f i = 19 ∨ f i = 20)) (hg : ∀ i, i < n → xs.getD (n + i) 0 = 22) {i : Nat} (hi : i < n) : (exA xs 0 i).1 = (exA xs 0 (2 * n - 1 - i)).1 := by
  have h := hf i hi
  have h2 := hg (n - 1 - i) (by omega)
  rw [show n + (n - 1 - i) = 2 * n - 1 - i by omega] at h2
  have h3 := deep_out hf hg (n - 1 - i) (by omega)
  rw [show n + (n - 1 - i) = 2 * n - 1 - i by omega, show n - (n - 1 - i) = i + 1 by omega] at h3
  have h4 := deep_in hf i (by omega)
  have e1 : (exA xs 0 i).1 = (deepS f i).top.lv := by
    unfold exA
    rw [h4, h.1, stepA, if_neg (by omega), outX, if_neg (by omega)]
    split <;> rfl
  have e2 : (exA xs 0 (2 * n - 1 - i)).1 = (deepS f i).top.lv := by
    unfold exA
    rw [h3, h2, stepA, if_pos rfl, deep_end, outX, if_neg (by omega)]
    split <;> rfl
  rw [e1, e2]
theorem deep_last (hf : ∀ i, i < n → xs.getD i 0 = f i ∧ (f i = 19 ∨ f i = 20)) (hg : ∀ i, i < n → xs.getD (n + i) 0 = 22) (hl : xs.getD (2 * n) 0 = 0) : (exA xs 0 (2 * n)).1 = 0 := by
  have h3 := deep_out hf hg n (Nat.le_refl _)
  rw [show n + n = 2 * n by omega, Nat.sub_self] at h3
  unfold exA
  rw [h3, hl]
  show (outX 0 (stepA (newS 0) 0) 0).1 = 0
  decide
end
end Go.Proofs.YtdgomaoikeffhaaGreat
/- explicit.Left, walked. -/
namespace Go.Proofs.YtdgomaoikeffhaaGreat
open Go.RowKit

set_option maxRecDepth 100000 in
theorem exLeft_any (x : Int) (w : World) : Calls Tryz.prog 29 #[.int .i64 x] w fun e w' => e = .returned (.bool (leftC x)) ∧ w = w' := by
  have fin : ∀ (b : Bool), leftC x = b → (Calls Tryz.prog 29 #[.int .i64 x] w fun e w' => e = .returned (.bool b) ∧ w = w') → Calls Tryz.prog 29 #[.int .i64 x] w fun e w' => e = .returned (.bool (leftC x)) ∧ w = w' := fun b h h2 => by rw [h]; exact h2
  by_cases h14 : x = 14
  · subst h14; refine fin true (by decide) ?_; go_enter Tryz.func29, Tryz.ntmps29; go_wp2; go_ret; exact ⟨rfl, rfl⟩
  by_cases h15 : x = 15
  · subst h15; refine fin true (by decide) ?_; go_enter Tryz.func29, Tryz.ntmps29; go_wp2; go_ret; exact ⟨rfl, rfl⟩
  by_cases h16 : x = 16
  · subst h16; refine fin true (by decide) ?_; go_enter Tryz.func29, Tryz.ntmps29; go_wp2; go_ret; exact ⟨rfl, rfl⟩
  by_cases h17 : x = 17
  · subst h17; refine fin true (by decide) ?_; go_enter Tryz.func29, Tryz.ntmps29; go_wp2; go_ret; exact ⟨rfl, rfl⟩
  by_cases h18 : x = 18
  · subst h18; refine fin true (by decide) ?_; go_enter Tryz.func29, Tryz.ntmps29; go_wp2; go_ret; exact ⟨rfl, rfl⟩
  by_cases h9 : x = 9
  · subst h9; refine fin true (by decide) ?_; go_enter Tryz.func29, Tryz.ntmps29; go_wp2; go_ret; exact ⟨rfl, rfl⟩
  have g14 : (x == 14) = false := by simp [h14]
  have g15 : (x == 15) = false := by simp [h15]
  have g16 : (x == 16) = false := by simp [h16]
  have g17 : (x == 17) = false := by simp [h17]
  have g18 : (x == 18) = false := by simp [h18]
  have g9 : (x == 9) = false := by simp [h9]
  refine fin false ?_ ?_
  · unfold leftC
    simp only [Bool.or_eq_false_iff, Bool.and_eq_false_iff, decide_eq_false_iff_not]
    omega
  · clear h14 h15 h16 h17 h18 h9
    go_enter Tryz.func29, Tryz.ntmps29
    go_wp2
    go_ret
    exact ⟨rfl, rfl⟩
end Go.Proofs.YtdgomaoikeffhaaGreat
/- resolve's within and atEnd, walked. -/
namespace Go.Proofs.YtdgomaoikeffhaaGreat
open Go.RowKit

theorem endK_left (c : Int) (h1 : c ≠ 12) (h2 : c ≠ 19) (h3 : c ≠ 20) (h4 : c ≠ 21) (h5 : c ≠ 22) (h6 : c ≠ 11) (h7 : c ≠ 10) : endK c = if leftC c = true then 1 else 0 := by
  have : blkB c = leftC c := by
    rw [Bool.eq_iff_iff]
    simp [blkB, leftC]
    omega
  rw [endK, if_neg (by omega), this]
set_option maxRecDepth 100000 in
theorem rvEnd_any (c : Int) (w : World) : Calls Tryz.prog 16 #[.int .i64 c] w fun e w' => e = .returned (.int .i64 (endK c)) ∧ w = w' := by
  by_cases h : c = 11 ∨ c = 10 ∨ c = 12 ∨ c = 19 ∨ c = 20 ∨ c = 21 ∨ c = 22
  · have one : ∀ v, endK c = v → (Calls Tryz.prog 16 #[.int .i64 c] w fun e w' => e = .returned (.int .i64 v) ∧ w = w') → Calls Tryz.prog 16 #[.int .i64 c] w fun e w' => e = .returned (.int .i64 (endK c)) ∧ w = w' := fun v h h2 => by rw [h]; exact h2
    rcases h with rfl | rfl | h
    · refine one 2 rfl ?_
      go_enter Tryz.func16, Tryz.ntmps16
      go_wp2
      go_ret
      exact ⟨rfl, rfl⟩
    · refine one 2 rfl ?_
      go_enter Tryz.func16, Tryz.ntmps16
      go_wp2
      go_ret
      exact ⟨rfl, rfl⟩
    · rcases h with rfl | rfl | rfl | rfl | rfl
      all_goals
        refine one 1 rfl ?_
        go_enter Tryz.func16, Tryz.ntmps16
        go_wp2
        go_ret
        exact ⟨rfl, rfl⟩
  · have h6 : ¬ c = 11 := fun e => h (by omega)
    have h7 : ¬ c = 10 := fun e => h (by omega)
    have h1 : ¬ c = 12 := fun e => h (by omega)
    have h2 : ¬ c = 19 := fun e => h (by omega)
    have h3 : ¬ c = 20 := fun e => h (by omega)
    have h4 : ¬ c = 21 := fun e => h (by omega)
    have h5 : ¬ c = 22 := fun e => h (by omega)
    have HL := Lib.hid (exLeft_any c w)
    rw [endK_left c h1 h2 h3 h4 h5 h6 h7]
    have g6 : (c == 11) = false := by simp [h6]
    have g7 : (c == 10) = false := by simp [h7]
    have g1 : (c == 12) = false := by simp [h1]
    have g2 : (c == 19) = false := by simp [h2]
    have g3 : (c == 20) = false := by simp [h3]
    have g4 : (c == 21) = false := by simp [h4]
    have g5 : (c == 22) = false := by simp [h5]
    clear h h1 h2 h3 h4 h5 h6 h7
    cases hv : leftC c with
    | true =>
      rw [hv] at HL
      clear hv
      go_enter Tryz.func16, Tryz.ntmps16
      go_wp2_with (first
        | (go_at_call 29; refine HL.out.mono ?_; rintro e w1 ⟨rfl, rfl⟩)
        | fail)
      go_ret
      exact ⟨rfl, rfl⟩
    | false =>
      rw [hv] at HL
      clear hv
      go_enter Tryz.func16, Tryz.ntmps16
      go_wp2_with (first
        | (go_at_call 29; refine HL.out.mono ?_; rintro e w1 ⟨rfl, rfl⟩)
        | fail)
      go_ret
      exact ⟨rfl, rfl⟩
/-- A span lies within n places. -/
def withB (x y : Int) (n : Nat) : Bool := decide (0 ≤ x) && decide (x < y) && decide (y ≤ (n : Int))
set_option maxRecDepth 100000 in
theorem rvWithin_any (x y : Int) (n : Nat) (w : World) (hn : n ≤ 1000000) :
    Calls Tryz.prog 14 #[.agg #[.int .i64 x, .int .i64 y], .int .i64 (n : Int)] w fun e w' => e = .returned (.bool (withB x y n)) ∧ Below w.heap.size w w' := by
  have hb := below_new w (.cells #[.int .i64 x, .int .i64 y] 33)
  have one : ∀ v, withB x y n = v → (Calls Tryz.prog 14 #[.agg #[.int .i64 x, .int .i64 y], .int .i64 (n : Int)] w fun e w' => e = .returned (.bool v) ∧ Below w.heap.size w w') → Calls Tryz.prog 14 #[.agg #[.int .i64 x, .int .i64 y], .int .i64 (n : Int)] w fun e w' => e = .returned (.bool (withB x y n)) ∧ Below w.heap.size w w' := fun v h h2 => by rw [h]; exact h2
  by_cases h0 : 0 ≤ x
  · by_cases h1 : x < y
    · by_cases h2 : y ≤ (n : Int)
      · have d0 : decide (0 ≤ x) = true := decide_eq_true h0
        have d1 : decide (x < y) = true := decide_eq_true h1
        have d2 : decide (y ≤ (n : Int)) = true := decide_eq_true h2
        refine one true (by unfold withB; rw [d0, d1, d2]; rfl) ?_
        go_enter Tryz.func14, Tryz.ntmps14
        go_wp2
        go_ret
        exact ⟨rfl, hb⟩
      · have d0 : decide (0 ≤ x) = true := decide_eq_true h0
        have d1 : decide (x < y) = true := decide_eq_true h1
        have d2 : decide (y ≤ (n : Int)) = false := decide_eq_false h2
        refine one false (by unfold withB; rw [d0, d1, d2]; rfl) ?_
        go_enter Tryz.func14, Tryz.ntmps14
        go_wp2
        go_ret
        exact ⟨rfl, hb⟩
    · have d0 : decide (0 ≤ x) = true := decide_eq_true h0
      have d1 : decide (x < y) = false := decide_eq_false h1
      refine one false (by unfold withB; rw [d0, d1]; rfl) ?_
      go_enter Tryz.func14, Tryz.ntmps14
      go_wp2
      go_ret
      exact ⟨rfl, hb⟩
  · have d0 : decide (0 ≤ x) = false := decide_eq_false h0
    refine one false (by unfold withB; rw [d0]; rfl) ?_
    go_enter Tryz.func14, Tryz.ntmps14
    go_wp2
    go_ret
    exact ⟨rfl, hb⟩
end Go.Proofs.YtdgomaoikeffhaaGreat
/- slices.Clone at []int: a row of the call's own that reads as the argument does. -/
namespace Go.Proofs.YtdgomaoikeffhaaGreat
open Go.RowKit

theorem cloneInt_slice : SliceOf Tryz.prog 22 3 1 8 := .mk_ (z := .int .i64 0) Tryz.underlying22 (by kernel_rfl) rfl
theorem cloneInt_any (A : Option Addr) (n c : Nat) (xs : List Value) (w : World) (hr : Rd w 1 A n xs) (h1 : ∀ u ∈ xs, u.oneCell' = true) (hm : n ≤ 16777216) :
    Calls Tryz.prog 6 #[.slice A n c] w fun e w' => ∃ v, e = .returned v ∧ w'.ownsRow w.heap.size 3 1 v n xs ∧ Below w.heap.size w w' := by
  rcases A with _ | ad
  · have h0 : n = 0 := by
      rcases Nat.eq_zero_or_pos n with h | h
      · exact h
      · obtain ⟨_, e, _⟩ := hr.2 h
        cases e
    subst h0
    have hx : xs = [] := List.eq_nil_of_length_eq_zero (by simpa using hr.1)
    subst hx
    have hq := fun w => Lib.run_eql_slice_nil (P := Tryz.prog) w 22 3 none 0 c 0 0 Tryz.underlying22
    go_enter Tryz.func6, Tryz.ntmps6
    go_wp2
    go_ret
    exact ⟨_, rfl, ⟨rfl, .inl ⟨rfl, rfl⟩⟩, Below.refl _ _⟩
  · have hq := fun w => Lib.run_eql_slice_nil (P := Tryz.prog) w 22 3 (some ad) n c 0 0 Tryz.underlying22
    have hown : (w.alloc (.cells #[] 3)).ownsRow w.heap.size 3 1 (.slice (some ⟨w.heap.size, 0, none⟩) 0 0) 0 [] := World.ownsRow_made w #[] 0 (Nat.le_refl _) (Nat.zero_le _) rfl
    go_enter Tryz.func6, Tryz.ntmps6
    go_wp2_with (at_builtin; refine wpList_app rfl _ _ _ rfl cloneInt_slice (by decide) _ 0 [] rfl hown ad n c xs rfl (by have := hr.1; omega) (hr.alloc _).news h1 (by omega) (by unfold maxLen; omega) (by simp) ?_; intro v1 w1 hown1 hg1 hat1)
    go_ret
    exact ⟨v1, rfl, by simpa using hown1, below_app ((Below.refl _ _).alloc (Nat.le_refl _) _) hg1 hown (by simp)⟩
end Go.Proofs.YtdgomaoikeffhaaGreat
/- The places from one up to another. -/
namespace Go.Proofs.YtdgomaoikeffhaaGreat
open Go.RowKit

/-- The places from one up to another. -/
def partF (l : List Int) (lo hi : Nat) : List Int := (l.drop lo).take (hi - lo)
theorem partF_cons {l : List Int} {lo hi : Nat} {x : Int} (h : l[lo]? = some x) (hl : lo < hi) : partF l lo hi = x :: partF l (lo + 1) hi := by
  have hlt := (List.getElem?_eq_some_iff.1 h).1
  unfold partF
  rw [List.drop_eq_getElem_cons hlt, show hi - lo = (hi - (lo + 1)) + 1 by omega, List.take_succ_cons]
  rw [(List.getElem?_eq_some_iff.1 h).2]
theorem partF_nil {l : List Int} {lo hi : Nat} (h : hi ≤ lo) : partF l lo hi = [] := by unfold partF; rw [show hi - lo = 0 by omega, List.take_zero]
end Go.Proofs.YtdgomaoikeffhaaGreat
/- A line of a part, as data. -/
namespace Go.Proofs.YtdgomaoikeffhaaGreat
open Go.RowKit

/-- The levels of a part as a line; nothing where there is no such part. -/
def lineA (cs ls : List Int) (s : Sp) (base : Int) : List Int := if cs.length = ls.length ∧ 0 ≤ s.1 ∧ s.1 < s.2 ∧ s.2 ≤ ls.length then lineF base (partF cs s.1.toNat s.2.toNat) (partF ls s.1.toNat s.2.toNat) else []
theorem lineA_no {cs ls : List Int} {s : Sp} {base : Int} (h : ¬ (cs.length = ls.length ∧ 0 ≤ s.1 ∧ s.1 < s.2 ∧ s.2 ≤ ls.length)) : lineA cs ls s base = [] := if_neg h
theorem partF_len (l : List Int) (lo hi : Nat) (h : hi ≤ l.length) : (partF l lo hi).length = hi - lo := by simp [partF]; omega
/-- A line as it grows. -/
theorem line_snoc (base : Int) {hi : Nat} : ∀ {m : Nat} {cs ls : List Int} {lo : Nat}, hi ≤ cs.length → hi ≤ ls.length → lo + m < hi → ∀ x, ls[lo + m]? = some x → (lineF base (partF cs lo hi) (partF ls lo hi)).take (m + 1) = (lineF base (partF cs lo hi) (partF ls lo hi)).take m ++ [if endsF (partF cs (lo + m) hi) = true then base else x] := by
  intro m cs ls lo h1 h2 h3 x hx
  obtain ⟨c, hc⟩ : ∃ c, cs[lo + m]? = some c := ⟨_, List.getElem?_eq_getElem (by omega)⟩
  have e1 : (partF cs lo hi)[m]? = some c := by unfold partF; rw [List.getElem?_take, if_pos (by omega), List.getElem?_drop, hc]
  have e2 : (partF ls lo hi)[m]? = some x := by unfold partF; rw [List.getElem?_take, if_pos (by omega), List.getElem?_drop, hx]
  have e3 : (partF cs lo hi).drop m = partF cs (lo + m) hi := by unfold partF; rw [List.drop_take, List.drop_drop, show hi - lo - m = hi - (lo + m) by omega]
  have := lineF_get base e1 e2
  rw [e3] at this
  rw [List.take_add_one, this]
  rfl
end Go.Proofs.YtdgomaoikeffhaaGreat
/- Blocks of memory by their cells: what lies in one, what a store leaves of others. -/
namespace Go.Proofs.YtdgomaoikeffhaaGreat
open Go.RowKit

def intsZ (l : List Int) : List Value := l.map (Value.int .i64)
theorem intsZ_set (l : List Int) (i : Nat) (x : Int) : intsZ (l.set i x) = (intsZ l).set i (.int .i64 x) := by simp [intsZ, List.map_set]
theorem hp_lt {w : World} {g : Nat} {o : Obj} (h : w.heap[g]? = some o) : g < w.heap.size := by
  by_cases c : g < w.heap.size
  · exact c
  · rw [Array.getElem?_eq_none (by omega)] at h; exact absurd h (by simp)
theorem hp_cell {w : World} {g : Nat} {cs : Array Value} {t : TypeId} (h : w.heap[g]? = some (.cells cs t (0, 0))) {j : Nat} {v : Value} (hj : cs[j]? = some v) : w.cell? ⟨g, j, none⟩ = some v := by
  unfold World.cell?
  rw [show w.heap[(⟨g, j, none⟩ : Addr).block]? = _ from h]
  simpa using hj
theorem hp_froz {w : World} {g : Nat} {cs : Array Value} {t : TypeId} (h : w.heap[g]? = some (.cells cs t (0, 0))) (j : Nat) : w.frozen? ⟨g, j, none⟩ = false := by
  unfold World.frozen?
  rw [show w.heap[(⟨g, j, none⟩ : Addr).block]? = _ from h]
  rfl
theorem hp_far {w : World} {g k : Nat} (h : k ≠ g) (j : Nat) (u : Value) : (w.setCell ⟨g, j, none⟩ u).heap[k]? = w.heap[k]? := Below.heap_setCell w ⟨g, j, none⟩ u k h
theorem hp_row {w : World} {g : Nat} {l : List Int} {t : TypeId} (h : w.heap[g]? = some (.cells (intsZ l).toArray t (0, 0))) (i : Nat) (x : Int) : (w.setCell ⟨g, i, none⟩ (.int .i64 x)).heap[g]? = some (.cells (intsZ (l.set i x)).toArray t (0, 0)) := by
  rw [heap_setCell_same w g i _ t _ h]
  congr 2
  rw [intsZ_set, List.setIfInBounds_toArray]
theorem Rd.belowS {w w' : World} {size n s : Nat} {A : Option Addr} {xs : List Value} (h : Rd w size A n xs) (hA : 0 < n → ∀ ad, A = some ad → ad.block < s) (hb : Below s w w') : Rd w' size A n xs :=
  ⟨h.1, fun hn => by
    obtain ⟨ad, e, hlt, hc⟩ := h.2 hn
    exact ⟨ad, e, Nat.lt_of_lt_of_le hlt hb.size, fun j u hu => (hb.cell (by rw [blockAdd]; exact hA hn ad e)).trans (hc j u hu)⟩⟩
end Go.Proofs.YtdgomaoikeffhaaGreat
/- slices.Equal at []int: whether the two slices read alike; the world is as it was, but for draws. -/
namespace Go.Proofs.YtdgomaoikeffhaaGreat
open Go.RowKit

theorem take_eq_succ {xs ys : List Int} {k : Nat} (h : xs.take k = ys.take k) {x : Int} (h1 : xs[k]? = some x) (h2 : ys[k]? = some x) : xs.take (k + 1) = ys.take (k + 1) := by
  rw [List.take_add_one, List.take_add_one, h, h1, h2]

set_option maxRecDepth 100000 in
set_option maxHeartbeats 1000000 in
theorem equalInt_same (n : Nat) (A B : Option Addr) (c d : Nat) (xs ys : List Int) (w : World) (hxn : xs.length = n) (hyn : ys.length = n)
    (hx : Rd w 1 A n (xs.map (Value.int .i64))) (hy : Rd w 1 B n (ys.map (Value.int .i64))) (hn : n ≤ maxLen) :
    Calls Tryz.prog 8 #[.slice A n c, .slice B n d] w fun e w' => e = .returned (.bool (decide (xs = ys))) ∧ ∃ q, w' = w.drewN q := by
  unfold maxLen at hn
  have HX := Lib.hid hxn
  have HY := Lib.hid hyn
  clear hxn hyn
  go_enter Tryz.func8, Tryz.ntmps8
  go_wp2
  go_loopw [13] (fun i wr => ∃ k q : Nat, k ≤ n ∧ i = .int .i64 k ∧ wr = w.drewN q ∧ xs.take k = ys.take k) (fun i _ => n - (intOf i).toNat)
  case atStart => exact ⟨0, 0, Nat.zero_le _, rfl, rfl, rfl⟩
  case round =>
    obtain ⟨k, q, hk, rfl, rfl, ht⟩ := hrel
    have HT := Lib.hid ht
    clear ht
    by_cases hlt : k < n
    · obtain ⟨x, hxk⟩ : ∃ x, xs[k]? = some x := ⟨_, List.getElem?_eq_getElem (by rw [HX.out]; exact hlt)⟩
      obtain ⟨y, hyk⟩ : ∃ y, ys[k]? = some y := ⟨_, List.getElem?_eq_getElem (by rw [HY.out]; exact hlt)⟩
      obtain ⟨a, rfl, _, ha⟩ := hx.at_ hlt
      obtain ⟨b, rfl, _, hb⟩ := hy.at_ hlt
      have ca : w.cell? (a.add k) = some (.int .i64 x) := ha _ (by rw [List.getElem?_map, hxk]; rfl)
      have cb : w.cell? (b.add k) = some (.int .i64 y) := hb _ (by rw [List.getElem?_map, hyk]; rfl)
      have HXK := Lib.hid hxk
      have HYK := Lib.hid hyk
      clear hxk hyk ha hb
      by_cases he : x = y
      · subst he
        go_wp2
        go_quiet (fail)
        go_wp2
        go_roundw
        case rel => exact ⟨k + 1, _, by omega, by go_num, rfl, take_eq_succ HT.out HXK.out HYK.out⟩
        case measure => simp [intOf]; omega
      · have hne : (x == y) = false := by simpa using he
        have hne' : (x != y) = true := by simpa using he
        have hf : decide (xs = ys) = false := decide_eq_false (fun e => he (by have h1 := HXK.out; rw [e, HYK.out] at h1; injection h1 with h1; exact h1.symm))
        clear he
        go_wp2
        go_quiet (fail)
        go_wp2
        go_ret
        exact ⟨retB (by simp [hf]), _, World.drewN_drewN _ _ _⟩
    · have hkn : k = n := by omega
      have htr : decide (xs = ys) = true := decide_eq_true (by
        have h := HT.out
        rwa [List.take_of_length_le (by rw [HX.out]; omega), List.take_of_length_le (by rw [HY.out]; omega)] at h)
      clear hkn
      go_wp2
      go_ret
      exact ⟨retB (by simp [htr]), _, rfl⟩

theorem equalInt_any (A B : Option Addr) (n m c d : Nat) (xs ys : List Int) (w : World) (hx : Rd w 1 A n (xs.map (Value.int .i64))) (hy : Rd w 1 B m (ys.map (Value.int .i64))) (hn : n ≤ maxLen) (hm : m ≤ maxLen) :
    Calls Tryz.prog 8 #[.slice A n c, .slice B m d] w fun e w' => e = .returned (.bool (decide (xs = ys))) ∧ ∃ q, w' = w.drewN q := by
  have hxl : xs.length = n := by simpa using hx.len1
  have hyl : ys.length = m := by simpa using hy.len1
  by_cases h : n = m
  · subst h
    exact equalInt_same n A B c d xs ys w hxl hyl hx hy hn
  · have hne : decide (xs = ys) = false := decide_eq_false (fun e => h (by rw [← hxl, ← hyl, e]))
    have h1 : ((n : Int) == m) = false := by simp; omega
    have h2 : ((n : Int) != m) = true := by simp; omega
    clear hxl hyl
    go_enter Tryz.func8, Tryz.ntmps8
    go_wp2
    go_ret
    exact ⟨retB (by simp [hne]), 0, rfl⟩
theorem equalInt_b (A B : Option Addr) (n m c d : Nat) (xs ys : List Int) (w : World) (hx : Rd w 1 A n (xs.map (Value.int .i64))) (hy : Rd w 1 B m (ys.map (Value.int .i64))) (hn : n ≤ maxLen) (hm : m ≤ maxLen) :
    Calls Tryz.prog 8 #[.slice A n c, .slice B m d] w fun e w' => e = .returned (.bool (decide (xs = ys))) ∧ Below w.heap.size w w' :=
  (equalInt_any A B n m c d xs ys w hx hy hn hm).mono fun _ _ ⟨he, q, hq⟩ => ⟨he, hq ▸ drewBelow q⟩
end Go.Proofs.YtdgomaoikeffhaaGreat
/- The project's rise. -/
namespace Go.Proofs.YtdgomaoikeffhaaGreat
open Go.RowKit
set_option maxRecDepth 100000 in
set_option maxHeartbeats 1000000 in
theorem prRise_any (A : Option Addr) (n c : Nat) (l : List Rg) (w : World) (hr : Rd w 3 A n (cellsG l)) (hn : n ≤ maxLen) :
    Calls Tryz.prog 31 #[.slice A n c] w fun e w' => e = .returned (.bool (riseB (-1) l)) ∧ Below w.heap.size w w' := by
  have HL := Lib.hid hr.lenG
  unfold maxLen at hn
  go_enter Tryz.func31, Tryz.ntmps31
  go_wp2
  go_loopw [3, 8] (fun z i wr => ∃ (k : Nat) (x : Int), k ≤ n ∧ i = .int .i64 k ∧ z = .int .i64 x ∧ riseB (-1) l = riseB x (l.drop k) ∧ Below w.heap.size w wr) (fun _ i _ => n - (intOf i).toNat)
  case atStart => exact ⟨0, -1, Nat.zero_le _, rfl, rfl, rfl, Below.refl _ _⟩
  case round =>
    obtain ⟨k, x, hk, rfl, rfl, hp, hb⟩ := hrel
    have HP := Lib.hid hp
    clear hp
    by_cases hlt : k < n
    · obtain ⟨s, hsk⟩ : ∃ s, l[k]? = some s := ⟨_, List.getElem?_eq_getElem (by rw [HL.out]; exact hlt)⟩
      obtain ⟨ad, rfl, hab, c1, c2, c3⟩ := (hr.below hb).rg hsk
      have HD := Lib.hid (dropCons hsk)
      clear hsk
      obtain ⟨lo, hi, v⟩ := s
      simp only at c1 c2 c3
      have hba := hb.alloc hb.size (.cells #[.int .i64 lo, .int .i64 hi, .int .i64 v] 77)
      have hc : lo ≤ x ∨ (x < lo ∧ hi < lo) ∨ (x < lo ∧ lo ≤ hi ∧ 1114111 < hi) ∨ (x < lo ∧ lo ≤ hi ∧ hi ≤ 1114111) := by omega
      rcases hc with h | ⟨h, h2⟩ | ⟨h, h2, h3⟩ | ⟨h, h2, h3⟩
      · have HF := Lib.hid (show riseB (-1) l = false by rw [HP.out, HD.out]; exact riseB_no (.inl h))
        go_wp2
        go_ret
        exact ⟨retB (by simp [HF.out]), hba⟩
      · have HF := Lib.hid (show riseB (-1) l = false by rw [HP.out, HD.out]; exact riseB_no (.inr (.inl h2)))
        go_wp2
        go_ret
        exact ⟨retB (by simp [HF.out]), hba⟩
      · have HF := Lib.hid (show riseB (-1) l = false by rw [HP.out, HD.out]; exact riseB_no (.inr (.inr h3)))
        go_wp2
        go_ret
        exact ⟨retB (by simp [HF.out]), hba⟩
      · have HF := Lib.hid (show riseB (-1) l = riseB hi (l.drop (k + 1)) by rw [HP.out, HD.out]; exact riseB_yes (by simp only; omega))
        go_wp2
        go_roundw
        case rel => exact ⟨k + 1, hi, by omega, by go_num, rfl, HF.out, hba⟩
        case measure => simp [intOf]; omega
    · have HF := Lib.hid (show riseB (-1) l = true by rw [HP.out, List.drop_eq_nil_of_le (by rw [HL.out]; omega)]; rfl)
      go_wp2
      go_ret
      exact ⟨retB (by simp [HF.out]), hb⟩
end Go.Proofs.YtdgomaoikeffhaaGreat
/- An array of the call's own: a block of whole numbers. -/
namespace Go.Proofs.YtdgomaoikeffhaaGreat
open Go.RowKit

/-- Block 'b' holds the whole numbers 'xs', none of them frozen. -/
def IntBlk (w : World) (b : Nat) (xs : List Int) : Prop := ∃ t, w.heap[b]? = some (.cells (xs.map (Value.int .i64)).toArray t (0, 0))
theorem IntBlk.lt {w : World} {b : Nat} {xs : List Int} (h : IntBlk w b xs) : b < w.heap.size := by
  obtain ⟨t, h⟩ := h
  exact (Array.getElem?_eq_some_iff.1 h).1
theorem IntBlk.cell {w : World} {b : Nat} {xs : List Int} (h : IntBlk w b xs) {j : Nat} {x : Int} (hj : xs[j]? = some x) : w.cell? ⟨b, j, none⟩ = some (.int .i64 x) := by
  obtain ⟨t, h⟩ := h
  simp [World.cell?, h, hj]
theorem IntBlk.thaw {w : World} {b : Nat} {xs : List Int} (h : IntBlk w b xs) (j : Nat) : w.frozen? ⟨b, j, none⟩ = false := by
  obtain ⟨t, h⟩ := h
  simp [World.frozen?, h]
theorem IntBlk.store {w : World} {b : Nat} {xs : List Int} (h : IntBlk w b xs) (j : Nat) (x : Int) : IntBlk (w.setCell ⟨b, j, none⟩ (.int .i64 x)) b (xs.set j x) := by
  obtain ⟨t, h⟩ := h
  refine ⟨t, ?_⟩
  simp [World.setCell, Array.getElem?_modify, h, List.map_set]
theorem IntBlk.far {w : World} {b b' : Nat} {xs : List Int} (h : IntBlk w b xs) (hne : b ≠ b') (j : Nat) (u : Value) : IntBlk (w.setCell ⟨b', j, none⟩ u) b xs := by
  obtain ⟨t, h⟩ := h
  exact ⟨t, (Below.heap_setCell w ⟨b', j, none⟩ u b hne).trans h⟩
theorem IntBlk.grown {w w' : World} {b : Nat} {xs : List Int} {row : Option Nat} (h : IntBlk w b xs) (hg : w.grownBy w' row) (hne : row ≠ some b) : IntBlk w' b xs := by
  obtain ⟨t, h⟩ := h
  exact ⟨t, blk_grown h hg hne⟩
theorem IntBlk.below {w w' : World} {b : Nat} {xs : List Int} (h : IntBlk w b xs) (hb : Below w.heap.size w w') : IntBlk w' b xs := by
  have hl := h.lt
  obtain ⟨t, h⟩ := h
  exact ⟨t, (hb.block b hl).trans h⟩
theorem IntBlk.drewN {w : World} {b : Nat} {xs : List Int} (h : IntBlk w b xs) (n : Nat) : IntBlk (w.drewN n) b xs := h
/-- A store into a block that the call made leaves what was there before it. -/
theorem below_set {w wr : World} {b : Nat} (h : Below w.heap.size w wr) (hb : w.heap.size ≤ b) (j : Nat) (u : Value) : Below w.heap.size w (wr.setCell ⟨b, j, none⟩ u) :=
  ⟨h.os, h.tape, h.output, by simpa [World.setCell] using h.size, fun i hi => (Below.heap_setCell wr ⟨b, j, none⟩ u i (by simp only; omega)).trans (h.block i hi)⟩
end Go.Proofs.YtdgomaoikeffhaaGreat
/- Filling a block of codes from a range. -/
namespace Go.Proofs.YtdgomaoikeffhaaGreat
open Go.RowKit

/-- The block from the code 'lo' on, 'b', once the codes of 'r' below 'x' have its value. -/
def fillTo (lo : Int) (r : Rg) (x : Int) (b : List Int) : List Int := b.mapIdx fun j y => if r.1 ≤ lo + j ∧ lo + j ≤ r.2.1 ∧ lo + j < x then r.2.2 else y
def fillTB (lo : Int) (r : Rg) (b : List Int) : List Int := b.mapIdx fun j y => if r.1 ≤ lo + j ∧ lo + j ≤ r.2.1 then r.2.2 else y
theorem fillTo_len (lo : Int) (r : Rg) (x : Int) (b : List Int) : (fillTo lo r x b).length = b.length := by simp [fillTo]
theorem fillTB_len (lo : Int) (r : Rg) (b : List Int) : (fillTB lo r b).length = b.length := by simp [fillTB]
theorem fillTo_start (lo : Int) (r : Rg) (b : List Int) (x : Int) (h : x ≤ lo ∨ x ≤ r.1) : fillTo lo r x b = b := by
  apply List.ext_getElem?
  intro j
  simp only [fillTo, List.getElem?_mapIdx]
  cases hb : b[j]? with
  | none => rfl
  | some y =>
    simp only [Option.map_some]
    rw [if_neg (by omega)]
theorem fillTo_step (lo : Int) (r : Rg) (b : List Int) (x : Int) (h0 : lo ≤ x) (h1 : r.1 ≤ x) (h2 : x ≤ r.2.1) : (fillTo lo r x b).set (x - lo).toNat r.2.2 = fillTo lo r (x + 1) b := by
  apply List.ext_getElem?
  intro j
  simp only [List.getElem?_set, fillTo, List.getElem?_mapIdx, List.length_mapIdx]
  by_cases hj : (x - lo).toNat = j
  · subst hj
    rw [if_pos rfl]
    by_cases hl : (x - lo).toNat < b.length
    · rw [if_pos hl, List.getElem?_eq_getElem hl]
      simp only [Option.map_some]
      rw [if_pos (by omega)]
    · rw [if_neg hl, List.getElem?_eq_none (by omega)]
      rfl
  · rw [if_neg hj]
    cases hb : b[j]? with
    | none => rfl
    | some y =>
      simp only [Option.map_some]
      by_cases hc : r.1 ≤ lo + j ∧ lo + j ≤ r.2.1 ∧ lo + j < x
      · rw [if_pos hc, if_pos (by omega)]
      · rw [if_neg hc, if_neg (by omega)]
theorem fillTo_end (lo : Int) (r : Rg) (b : List Int) (x : Int) (h : lo + b.length ≤ x ∨ r.2.1 < x) : fillTo lo r x b = fillTB lo r b := by
  apply List.ext_getElem?
  intro j
  simp only [fillTo, fillTB, List.getElem?_mapIdx]
  cases hb : b[j]? with
  | none => rfl
  | some y =>
    have hj := (List.getElem?_eq_some_iff.1 hb).1
    simp only [Option.map_some]
    by_cases hc : r.1 ≤ lo + j ∧ lo + j ≤ r.2.1
    · rw [if_pos hc, if_pos (by omega)]
    · rw [if_neg hc, if_neg (by omega)]
/-- The block from 'lo' on, and what of the ranges goes on behind it. -/
def cutB (lo : Int) : List Rg → List Int → List Int × List Rg
  | [], b => (b, [])
  | r :: l, b => if r.1 ≤ lo + 127 then (if lo + 127 < r.2.1 then (fillTB lo r b, r :: l) else cutB lo l (fillTB lo r b)) else (b, r :: l)
theorem cutB_far {lo : Int} {r : Rg} {l : List Rg} {b : List Int} (h : lo + 127 < r.1) : cutB lo (r :: l) b = (b, r :: l) := if_neg (by omega)
theorem cutB_over {lo : Int} {r : Rg} {l : List Rg} {b : List Int} (h : r.1 ≤ lo + 127) (h2 : lo + 127 < r.2.1) : cutB lo (r :: l) b = (fillTB lo r b, r :: l) := (if_pos h).trans (if_pos h2)
theorem cutB_on {lo : Int} {r : Rg} {l : List Rg} {b : List Int} (h : r.1 ≤ lo + 127) (h2 : r.2.1 ≤ lo + 127) : cutB lo (r :: l) b = cutB lo l (fillTB lo r b) := (if_pos h).trans (if_neg (by omega))
theorem addZero (a : Addr) : a.add 0 = a := by
  unfold Addr.add
  split
  · rfl
  · rename_i h; cases a; simp_all
/-- The cells of the first range, as the walk spells them. -/
theorem Rd.rg0 {w : World} {A : Option Addr} {n : Nat} {s : Rg} {l : List Rg} (hr : Rd w 3 A n (cellsG (s :: l))) : ∃ ad, A = some ad ∧ ad.block < w.heap.size ∧ w.cell? ad = some (.int .i64 s.1) ∧
    w.cell? ⟨ad.block, ad.off + 1, none⟩ = some (.int .i64 s.2.1) ∧ w.cell? ⟨ad.block, ad.off + 2, none⟩ = some (.int .i64 s.2.2) := by
  obtain ⟨ad, hA, hb, h0, h1, h2⟩ := hr.rg (k := 0) (s := s) rfl
  rw [Nat.zero_mul, addZero] at h0 h1 h2
  exact ⟨ad, hA, hb, h0, h1, h2⟩
theorem addPos (a : Addr) {n : Nat} (h : n ≠ 0) : a.add n = ⟨a.block, a.off + n, none⟩ := by
  unfold Addr.add
  rw [if_neg h]
/-- What is left of a slice of ranges behind its first. -/
theorem Rd.tail {w : World} {ad : Addr} {n : Nat} {s : Rg} {l : List Rg} (hr : Rd w 3 (some ad) n (cellsG (s :: l))) : Rd w 3 (some ⟨ad.block, ad.off + 3, none⟩) (n - 1) (cellsG l) := by
  have hl := hr.lenG
  have h := hr.cut (k := 1) (cap := n + 1) (by rw [← hl]; simp) (by omega)
  rw [if_neg (by rw [← hl]; simp), Option.map_some, addPos ad (by omega)] at h
  exact h
end Go.Proofs.YtdgomaoikeffhaaGreat
/- Blocks of a table as data: what cutting gives, what is kept while the table is laid. -/
namespace Go.Proofs.YtdgomaoikeffhaaGreat
open Go.RowKit

theorem getG_below {l : List Rg} {y c : Int} (h : ∀ s ∈ l, c < s.1) : getG l y c = y := by
  induction l with
  | nil => rfl
  | cons s l ih =>
    have := h s (by simp)
    rw [getG, if_neg (by omega)]
    exact ih fun t ht => h t (by simp [ht])
theorem getG_behind {l : List Rg} {y c : Int} {s : Rg} (h : s.2.1 < c) : getG (s :: l) y c = getG l y c := by rw [getG, if_neg (by omega)]
/-- Ranges that rise. -/
def Srt (l : List Rg) : Prop := l.Pairwise (fun s t => s.2.1 < t.1) ∧ ∀ s ∈ l, s.1 ≤ s.2.1
theorem Srt.tail {s : Rg} {l : List Rg} (h : Srt (s :: l)) : Srt l := ⟨(List.pairwise_cons.1 h.1).2, fun t ht => h.2 t (by simp [ht])⟩
theorem srt_of_rise : ∀ {l : List Rg} {x : Int}, riseB x l = true → Srt l ∧ ∀ s ∈ l, x < s.1 ∧ s.2.1 ≤ 1114111
  | [], _, _ => ⟨⟨List.Pairwise.nil, by simp⟩, by simp⟩
  | s :: l, x, h => by
    by_cases hc : s.1 ≤ x ∨ s.2.1 < s.1 ∨ 1114111 < s.2.1
    · rw [riseB_no hc] at h; cases h
    · rw [riseB_yes hc] at h
      obtain ⟨⟨h1, h2⟩, h3⟩ := srt_of_rise h
      refine ⟨⟨List.pairwise_cons.2 ⟨fun t ht => (h3 t ht).1, h1⟩, ?_⟩, ?_⟩
      · intro t ht
        rcases List.mem_cons.1 ht with rfl | ht
        · omega
        · exact h2 t ht
      · intro t ht
        rcases List.mem_cons.1 ht with rfl | ht
        · omega
        · have := h3 t ht; omega
theorem cutB_one (lo : Int) : ∀ (l : List Rg) (b : List Int), Srt l → b.length = 128 → (cutB lo l b).1 = b.mapIdx (fun j y => getG l y (lo + j))
  | [], b, _, _ => by
    apply List.ext_getElem?
    intro j
    simp [cutB, getG, List.getElem?_mapIdx]
  | s :: l, b, h, hb => by
    have hlt : ∀ t ∈ l, s.2.1 < t.1 := (List.pairwise_cons.1 h.1).1
    have hs := h.2 s (by simp)
    by_cases h1 : s.1 ≤ lo + 127
    · by_cases h2 : lo + 127 < s.2.1
      · rw [cutB_over h1 h2]
        apply List.ext_getElem?
        intro j
        simp only [fillTB, List.getElem?_mapIdx]
        cases hj : b[j]? with
        | none => rfl
        | some y =>
          have hjl := (List.getElem?_eq_some_iff.1 hj).1
          simp only [Option.map_some, getG]
          by_cases hc : s.1 ≤ lo + j ∧ lo + j ≤ s.2.1
          · rw [if_pos hc, if_pos hc]
          · rw [if_neg hc, if_neg hc, getG_below (fun t ht => by have := hlt t ht; omega)]
      · rw [cutB_on h1 (by omega), cutB_one lo l _ h.tail (by rw [fillTB_len, hb])]
        apply List.ext_getElem?
        intro j
        simp only [fillTB, List.getElem?_mapIdx]
        cases hj : b[j]? with
        | none => rfl
        | some y =>
          simp only [Option.map_some, getG]
          by_cases hc : s.1 ≤ lo + j ∧ lo + j ≤ s.2.1
          · rw [if_pos hc, if_pos hc, getG_below (fun t ht => by have := hlt t ht; omega)]
          · rw [if_neg hc, if_neg hc]
    · rw [cutB_far (by omega)]
      apply List.ext_getElem?
      intro j
      simp only [List.getElem?_mapIdx]
      cases hj : b[j]? with
      | none => rfl
      | some y =>
        have hjl := (List.getElem?_eq_some_iff.1 hj).1
        simp only [Option.map_some]
        rw [getG_below (fun t ht => by
          rcases List.mem_cons.1 ht with rfl | ht
          · omega
          · have := hlt t ht; omega)]
theorem cutB_two (lo : Int) : ∀ (l : List Rg) (b : List Int), Srt l → Srt (cutB lo l b).2 ∧ (∀ s ∈ (cutB lo l b).2, lo + 127 < s.2.1) ∧ ∀ y c, lo + 128 ≤ c → getG l y c = getG (cutB lo l b).2 y c
  | [], b, _ => ⟨⟨List.Pairwise.nil, by simp [cutB]⟩, by simp [cutB], fun _ _ _ => rfl⟩
  | s :: l, b, h => by
    have hlt : ∀ t ∈ l, s.2.1 < t.1 := (List.pairwise_cons.1 h.1).1
    have hs := h.2 s (by simp)
    by_cases h1 : s.1 ≤ lo + 127
    · by_cases h2 : lo + 127 < s.2.1
      · rw [cutB_over h1 h2]
        refine ⟨h, fun t ht => ?_, fun _ _ _ => rfl⟩
        rcases List.mem_cons.1 ht with rfl | ht
        · exact h2
        · have := hlt t ht; have := h.2 t (by simp [ht]); omega
      · rw [cutB_on h1 (by omega)]
        obtain ⟨a1, a2, a3⟩ := cutB_two lo l (fillTB lo s b) h.tail
        exact ⟨a1, a2, fun y c hc => by rw [getG_behind (by omega)]; exact a3 y c hc⟩
    · rw [cutB_far (by omega)]
      refine ⟨h, fun t ht => ?_, fun _ _ _ => rfl⟩
      rcases List.mem_cons.1 ht with rfl | ht
      · omega
      · have := hlt t ht; have := h.2 t (by simp [ht]); omega

/-- The values of the codes of block j. -/
def blkAt (l : List Rg) (z : Int) (j : Nat) : List Int := (List.range 128).map fun (t : Nat) => getG l z (128 * (j : Int) + (t : Int))
theorem blkAt_len (l : List Rg) (z : Int) (j : Nat) : (blkAt l z j).length = 128 := by simp [blkAt]
theorem blkAt_at (l : List Rg) (z : Int) (j t : Nat) (ht : t < 128) : (blkAt l z j)[t]? = some (getG l z (128 * (j : Int) + (t : Int))) := by simp [blkAt, ht]
/-- What is left of the ranges when k blocks are cut. -/
def LeftOf (l0 : List Rg) (z : Int) (k : Nat) (l : List Rg) : Prop := Srt l ∧ ∀ c : Int, 128 * (k : Int) ≤ c → getG l0 z c = getG l z c
theorem left_cut {l0 l : List Rg} {z : Int} {k : Nat} (h : LeftOf l0 z k l) : (cutB (128 * (k : Int)) l (List.replicate 128 z)).1 = blkAt l0 z k ∧ LeftOf l0 z (k + 1) (cutB (128 * (k : Int)) l (List.replicate 128 z)).2 := by
  obtain ⟨h1, h2⟩ := h
  refine ⟨?_, ?_⟩
  · rw [cutB_one _ _ _ h1 (by simp)]
    apply List.ext_getElem?
    intro j
    simp only [List.getElem?_mapIdx, List.getElem?_replicate]
    by_cases hj : j < 128
    · rw [if_pos hj, blkAt_at _ _ _ _ hj]
      simp only [Option.map_some]
      rw [h2 _ (by omega)]
    · rw [if_neg hj, List.getElem?_eq_none (by rw [blkAt_len]; omega)]
      rfl
  · obtain ⟨a1, _, a3⟩ := cutB_two (128 * (k : Int)) l (List.replicate 128 z) h1
    exact ⟨a1, fun c hc => by rw [h2 c (by omega)]; exact a3 z c (by omega)⟩

/-- What is kept while the table is laid: k blocks are told, by their places 'wh' among the unlike ones 'bl'. -/
structure StInv (l0 : List Rg) (z : Int) (k : Nat) (bl : List (List Int)) (wh : List Nat) : Prop where
  len : wh.length = k
  at_ : ∀ j, j < k → ∃ q, wh[j]? = some q ∧ bl[q]? = some (blkAt l0 z j)
  nodup : bl.Nodup
  real : ∀ b ∈ bl, ∃ j, j < k ∧ b = blkAt l0 z j
  few : bl.length ≤ k
theorem StInv.start (l0 : List Rg) (z : Int) : StInv l0 z 0 [] [] := ⟨rfl, fun j h => absurd h (by omega), List.nodup_nil, by simp, Nat.le_refl _⟩
theorem StInv.old {l0 : List Rg} {z : Int} {k q : Nat} {bl : List (List Int)} {wh : List Nat} (h : StInv l0 z k bl wh) (hq : bl[q]? = some (blkAt l0 z k)) : StInv l0 z (k + 1) bl (wh ++ [q]) := by
  refine ⟨by simp [h.len], fun j hj => ?_, h.nodup, fun b hb => ?_, by have := h.few; omega⟩
  · by_cases hjk : j < k
    · obtain ⟨q', h1, h2⟩ := h.at_ j hjk
      exact ⟨q', by rw [List.getElem?_append_left (by rw [h.len]; exact hjk)]; exact h1, h2⟩
    · obtain rfl : j = k := by omega
      exact ⟨q, by rw [List.getElem?_append_right (by rw [h.len]; exact Nat.le_refl _), h.len, Nat.sub_self]; rfl, hq⟩
  · obtain ⟨j, h1, h2⟩ := h.real b hb
    exact ⟨j, by omega, h2⟩
theorem StInv.new_ {l0 : List Rg} {z : Int} {k : Nat} {bl : List (List Int)} {wh : List Nat} (h : StInv l0 z k bl wh) (hn : blkAt l0 z k ∉ bl) : StInv l0 z (k + 1) (bl ++ [blkAt l0 z k]) (wh ++ [bl.length]) := by
  refine ⟨by simp [h.len], fun j hj => ?_, ?_, fun b hb => ?_, by have := h.few; simp; omega⟩
  · by_cases hjk : j < k
    · obtain ⟨q', h1, h2⟩ := h.at_ j hjk
      exact ⟨q', by rw [List.getElem?_append_left (by rw [h.len]; exact hjk)]; exact h1, by rw [List.getElem?_append_left ((List.getElem?_eq_some_iff.1 h2).1)]; exact h2⟩
    · obtain rfl : j = k := by omega
      exact ⟨bl.length, by rw [List.getElem?_append_right (by rw [h.len]; exact Nat.le_refl _), h.len, Nat.sub_self]; rfl, by simp⟩
  · rw [List.nodup_append]
    exact ⟨h.nodup, by simp, fun a ha b hb => by simp at hb; subst hb; exact fun e => hn (e ▸ ha)⟩
  · rcases List.mem_append.1 hb with hb | hb
    · obtain ⟨j, h1, h2⟩ := h.real b hb
      exact ⟨j, by omega, h2⟩
    · simp at hb
      exact ⟨k, by omega, hb⟩
end Go.Proofs.YtdgomaoikeffhaaGreat
/- What a code is, by its class: a mark, strong, a control. -/
namespace Go.Proofs.YtdgomaoikeffhaaGreat
open Go.RowKit
def ofF (c : Int) (ks : List Int) : Bool := decide (classF c ∈ ks)
def ctlL : List Int := [9, 14, 15, 16, 17, 18, 19, 20, 21, 22]
def markF (c : Int) : Bool := ofF c [8]
def strongF (c : Int) : Bool := ofF c [0, 1, 2]
def ctlF (c : Int) : Bool := decide (c = 8206) || decide (c = 8207) || decide (c = 1564) || ofF c ctlL
end Go.Proofs.YtdgomaoikeffhaaGreat
/- The slice type of spans. -/
namespace Go.Proofs.YtdgomaoikeffhaaGreat
open Go.RowKit
theorem spanSlice : SliceOf Tryz.prog 40 33 2 16 := .mk_ (z := .agg #[.int .i64 0, .int .i64 0]) Tryz.underlying40 (by kernel_rfl) rfl
end Go.Proofs.YtdgomaoikeffhaaGreat
/- Cut of a span, as plain mathematics; small words. -/
namespace Go.Proofs.YtdgomaoikeffhaaGreat
open Go.RowKit
theorem own_weak {w : World} {base base' : Nat} {e : TypeId} {size n : Nat} {v : Value} {xs : List Value} (h : w.ownsRow base e size v n xs) (hb : base' ≤ base) : w.ownsRow base' e size v n xs := by
  obtain ⟨h1, h2⟩ := h
  refine ⟨h1, ?_⟩
  rcases h2 with h2 | ⟨g, cap, cur, a, b, c⟩
  · exact .inl h2
  · exact .inr ⟨g, cap, cur, a, by omega, c⟩
theorem cellsS_snoc (l : List Sp) (s : Sp) : cellsS (l ++ [s]) = cellsS l ++ [.int .i64 s.1, .int .i64 s.2] := by simp [cellsS, encS]

/-- A span from lo to hi in parts, cut at what 'at' says; none where that does not rise within. -/
def cutFrom (lo hi : Int) : List Int → Option (List Sp)
  | [] => some [(lo, hi)]
  | a :: r => if a ≤ lo ∨ hi ≤ a then none else (cutFrom a hi r).map ((lo, a) :: ·)
/-- What Cut hands back. -/
def CutGives (w : World) (s : Sp) (at_ : List Int) (e : Ending) (w' : World) : Prop :=
  (rightB s = false ∧ e = .returned (.tuple #[.slice none 0 0, .int .i64 1]) ∧ Below w.heap.size w w') ∨
  (rightB s = true ∧ cutFrom s.1 s.2 at_ = none ∧ e = .returned (.tuple #[.slice none 0 0, .int .i64 10]) ∧ Below w.heap.size w w') ∨
  (rightB s = true ∧ ∃ l v, cutFrom s.1 s.2 at_ = some l ∧ e = .returned (.tuple #[v, .int .i64 0]) ∧ w'.ownsRow w.heap.size 33 2 v l.length (cellsS l) ∧ Below w.heap.size w w')
theorem cutFrom_len {lo hi : Int} {r : List Int} {l : List Sp} (h : cutFrom lo hi r = some l) : l.length = r.length + 1 := by
  induction r generalizing lo l with
  | nil => simp [cutFrom] at h; subst h; rfl
  | cons a r ih =>
    unfold cutFrom at h
    split at h
    · cases h
    · obtain ⟨l', h', rfl⟩ := Option.map_eq_some_iff.1 h
      simp [ih h']
end Go.Proofs.YtdgomaoikeffhaaGreat
/- What brackets become, neutral classes and levels as mathematics. No function of the program. -/
namespace Go.Proofs.YtdgomaoikeffhaaGreat
open Go.RowKit

/-- A class's side; a level's. -/
def sideF (c : Int) : Int := if c = 0 then 0 else if c = 1 ∨ c = 3 ∨ c = 6 then 1 else -1
def ofL (n : Int) : Int := if n % 2 = 0 then 0 else 1
theorem ofL_in (n : Int) : ofL n = 0 ∨ ofL n = 1 := by unfold ofL; split <;> simp
theorem side_in (c : Int) : sideF c = -1 ∨ sideF c = 0 ∨ sideF c = 1 := by
  unfold sideF
  by_cases h : c = 0
  · simp [h]
  · rw [if_neg h]
    split <;> simp
/-- Which sides there are between two places. -/
def insF (l : List Int) (o c level : Int) : Bool × Bool :=
  ((List.range l.length).any fun i => decide (o < (i : Int) ∧ (i : Int) < c ∧ sideF (l.getD i 0) = ofL level),
   (List.range l.length).any fun i => decide (o < (i : Int) ∧ (i : Int) < c ∧ 0 ≤ sideF (l.getD i 0) ∧ sideF (l.getD i 0) ≠ ofL level))
/-- The last side ahead of place k. -/
def ahdF (l : List Int) : Nat → Int
  | 0 => -1
  | k + 1 => if 0 ≤ sideF (l.getD k 0) then sideF (l.getD k 0) else ahdF l k
def becF (l : List Int) (o c : Nat) (level sos : Int) : Int :=
  if (insF l o c level).1 = true then ofL level else if (insF l o c level).2 = false then -1 else
    if 0 ≤ ahdF l o then ahdF l o else if 0 ≤ sideF sos then sideF sos else ofL level
/-- Marks directly behind become it, too. -/
def runS (bf : List Int) (s : Int) : Nat → Nat → List Int → List Int
  | 0, _, o => o
  | f + 1, k, o => if bf[k]? = some 8 then runS bf s f (k + 1) (o.set k s) else o
def n0S (bf : List Int) (level sos : Int) (out : List Int) (p : Nat × Nat) : List Int :=
  if becF out p.1 p.2 level sos < 0 then out else
    runS bf (becF out p.1 p.2 level sos) bf.length (p.2 + 1) (runS bf (becF out p.1 p.2 level sos) bf.length (p.1 + 1) ((out.set p.1 (becF out p.1 p.2 level sos)).set p.2 (becF out p.1 p.2 level sos)))
def n0F (bf : List Int) (level sos : Int) (l : List Int) (ps : List (Nat × Nat)) : List Int := ps.foldl (n0S bf level sos) l
theorem runS_len (bf : List Int) (s : Int) : ∀ (f k : Nat) (o : List Int), (runS bf s f k o).length = o.length
  | 0, _, _ => rfl
  | f + 1, k, o => by
    rw [runS]
    split
    · rw [runS_len bf s f, List.length_set]
    · rfl
theorem runS_keep {bf : List Int} {s : Int} {j : Nat} (h : bf[j]? ≠ some 8) : ∀ (f k : Nat) (o : List Int), (runS bf s f k o)[j]? = o[j]?
  | 0, _, _ => rfl
  | f + 1, k, o => by
    rw [runS]
    split
    · rename_i hk
      rw [runS_keep h f, List.getElem?_set_ne (fun e : k = j => h (by rw [← e]; exact hk))]
    · rfl
theorem n0S_len (bf : List Int) (level sos : Int) (out : List Int) (p : Nat × Nat) : (n0S bf level sos out p).length = out.length := by
  unfold n0S
  split
  · rfl
  · rw [runS_len, runS_len, List.length_set, List.length_set]
theorem n0F_len (bf : List Int) (level sos : Int) : ∀ (ps : List (Nat × Nat)) (l : List Int), (n0F bf level sos l ps).length = l.length
  | [], _ => rfl
  | p :: ps, l => (n0F_len bf level sos ps _).trans (n0S_len bf level sos l p)
/-- What is no bracket and no mark stays. -/
theorem n0F_keep {bf : List Int} {level sos : Int} {j : Nat} (h : bf[j]? ≠ some 8) : ∀ (ps : List (Nat × Nat)) (l : List Int), (∀ p ∈ ps, p.1 ≠ j ∧ p.2 ≠ j) → (n0F bf level sos l ps)[j]? = l[j]?
  | [], _, _ => rfl
  | p :: ps, l, hp => by
    have h1 : (n0S bf level sos l p)[j]? = l[j]? := by
      have := hp p (by simp)
      unfold n0S
      split
      · rfl
      · rw [runS_keep h, runS_keep h, List.getElem?_set_ne this.2, List.getElem?_set_ne this.1]
    exact (n0F_keep h ps _ fun q hq => hp q (by simp [hq])).trans h1

/-- Neutral classes. -/
def neuB (c : Int) : Bool := (decide (10 ≤ c) && decide (c ≤ 13)) || (decide (19 ≤ c) && decide (c ≤ 22))
def nxtS (e : Int) : List Int → Int
  | [] => sideF e
  | c :: l => if neuB c = true then nxtS e l else sideF c
/-- Behind side a. -/
def nu1 : Int → Int → List Int → List Int
  | _, _, [] => []
  | a, e, c :: l => if neuB c = true then (if 0 ≤ a ∧ a = nxtS e l then a else c) :: nu1 a e l else c :: nu1 (sideF c) e l
def nu2 (level : Int) (l : List Int) : List Int := l.map fun c => if neuB c = true then ofL level else c
def impF (c level : Int) : Int :=
  if level % 2 = 0 then (if c = 1 then level + 1 else if c = 3 ∨ c = 6 then level + 2 else level) else (if c = 0 ∨ c = 3 ∨ c = 6 then level + 1 else level)
theorem nu1_len : ∀ (a e : Int) (l : List Int), (nu1 a e l).length = l.length
  | _, _, [] => rfl
  | a, e, c :: l => by
    rw [nu1]
    split <;> simp [nu1_len _ e l]
theorem nu2_len (level : Int) (l : List Int) : (nu2 level l).length = l.length := by simp [nu2]
theorem nu1_keep {j : Nat} {c : Int} (hc : neuB c = false) : ∀ {a e : Int} {l : List Int}, l[j]? = some c → (nu1 a e l)[j]? = some c := by
  induction j with
  | zero =>
    intro a e l h
    cases l with
    | nil => cases h
    | cons x l =>
      obtain rfl := Option.some.inj h
      rw [nu1, if_neg (by rw [hc]; simp)]
      rfl
  | succ j ih =>
    intro a e l h
    cases l with
    | nil => cases h
    | cons x l =>
      rw [List.getElem?_cons_succ] at h
      rw [nu1]
      split
      · rw [List.getElem?_cons_succ]; exact ih h
      · rw [List.getElem?_cons_succ]; exact ih h
theorem nu2_keep {level : Int} {j : Nat} {c : Int} {l : List Int} (hc : neuB c = false) (h : l[j]? = some c) : (nu2 level l)[j]? = some c := by
  unfold nu2
  rw [List.getElem?_map, h, Option.map_some, if_neg (by rw [hc]; simp)]
/-- Levels rise by two at most, and not above the greatest one. -/
theorem imp_in {c level : Int} (h0 : 0 ≤ level) (h1 : level ≤ 125) : level ≤ impF c level ∧ impF c level ≤ 126 := by
  unfold impF
  repeat' split
  all_goals omega
theorem imp_left {level : Int} (h : level = 0 ∨ level = 1) : impF 0 level = 2 * level := by
  rcases h with rfl | rfl <;> decide
theorem imp_right {level : Int} (h : level = 0 ∨ level = 1) : impF 1 level = 1 := by
  rcases h with rfl | rfl <;> decide
end Go.Proofs.YtdgomaoikeffhaaGreat
/- Neutral rows, one by one: what is done up to a place; what a row becomes. No function of the program. -/
namespace Go.Proofs.YtdgomaoikeffhaaGreat
open Go.RowKit

/-- A stretch of a row set to one number. -/
def setsR (ys : List Int) (lo : Nat) (x : Int) : Nat → List Int
  | 0 => ys
  | k + 1 => (setsR ys lo x k).set (lo + k) x
theorem setsR_len (ys : List Int) (lo : Nat) (x : Int) : ∀ k, (setsR ys lo x k).length = ys.length
  | 0 => rfl
  | k + 1 => by rw [setsR, List.length_set, setsR_len ys lo x k]
theorem setsR_in {ys : List Int} {lo : Nat} {x : Int} {j : Nat} : ∀ {k : Nat}, lo ≤ j → j < lo + k → j < ys.length → (setsR ys lo x k)[j]? = some x
  | 0, h1, h2, _ => by omega
  | k + 1, h1, h2, h3 => by
    rw [setsR]
    by_cases e : lo + k = j
    · subst e
      rw [List.getElem?_set_self (by rw [setsR_len]; exact h3)]
    · rw [List.getElem?_set_ne e, setsR_in h1 (by omega) h3]
theorem setsR_out {ys : List Int} {lo : Nat} {x : Int} {j : Nat} : ∀ {k : Nat}, ¬ (lo ≤ j ∧ j < lo + k) → (setsR ys lo x k)[j]? = ys[j]?
  | 0, _ => rfl
  | k + 1, h => by rw [setsR, List.getElem?_set_ne (by omega), setsR_out (by omega)]
/-- Up to lo as it will be, from there on as it was. -/
def mixR (R l : List Int) (lo : Nat) : List Int := R.take lo ++ l.drop lo
theorem mixR_zero (R l : List Int) : mixR R l 0 = l := rfl
theorem mixR_all {R l : List Int} (h : R.length = l.length) {n : Nat} (hn : l.length ≤ n) : mixR R l n = R := by
  unfold mixR
  rw [List.take_of_length_le (by omega), List.drop_eq_nil_of_le hn, List.append_nil]
theorem mixR_len {R l : List Int} (h : R.length = l.length) (lo : Nat) : (mixR R l lo).length = l.length := by
  unfold mixR
  rw [List.length_append, List.length_take, List.length_drop]
  omega
theorem mixR_lt {R l : List Int} (h : R.length = l.length) {lo j : Nat} (hj : j < lo) : (mixR R l lo)[j]? = R[j]? := by
  unfold mixR
  by_cases hl : j < R.length
  · rw [List.getElem?_append_left (by rw [List.length_take]; omega), List.getElem?_take_of_lt hj]
  · rw [List.getElem?_append_right (by rw [List.length_take]; omega), List.getElem?_drop, List.length_take, List.getElem?_eq_none (by omega), List.getElem?_eq_none (by omega)]
theorem mixR_ge {R l : List Int} (h : R.length = l.length) {lo j : Nat} (hj : lo ≤ j) : (mixR R l lo)[j]? = l[j]? := by
  unfold mixR
  by_cases hl : lo ≤ l.length
  · rw [List.getElem?_append_right (by rw [List.length_take]; omega), List.getElem?_drop, List.length_take, show lo + (j - min lo R.length) = j by omega]
  · rw [List.drop_eq_nil_of_le (by omega), List.append_nil, List.take_of_length_le (by omega), List.getElem?_eq_none (by omega), List.getElem?_eq_none (by omega)]
theorem mixR_same {R l : List Int} (h : R.length = l.length) {lo hi : Nat} (h1 : lo ≤ hi) (hs : ∀ j, lo ≤ j → j < hi → R[j]? = l[j]?) : mixR R l hi = mixR R l lo := by
  apply List.ext_getElem?
  intro j
  by_cases a : j < lo
  · rw [mixR_lt h a, mixR_lt h (by omega)]
  · by_cases b : j < hi
    · rw [mixR_lt h b, mixR_ge h (by omega), hs j (by omega) b]
    · rw [mixR_ge h (by omega), mixR_ge h (by omega)]
theorem mixR_fill {R l : List Int} (h : R.length = l.length) {lo hi : Nat} {x : Int} (h1 : lo ≤ hi) (h2 : hi ≤ l.length) (hs : ∀ j, lo ≤ j → j < hi → R[j]? = some x) : mixR R l hi = setsR (mixR R l lo) lo x (hi - lo) := by
  apply List.ext_getElem?
  intro j
  by_cases a : lo ≤ j ∧ j < hi
  · rw [mixR_lt h a.2, hs j a.1 a.2, setsR_in a.1 (by omega) (by rw [mixR_len h]; omega)]
  · rw [setsR_out (by omega)]
    by_cases b : j < lo
    · rw [mixR_lt h (by omega), mixR_lt h b]
    · rw [mixR_ge h (by omega), mixR_ge h (by omega)]
/-- A longest row of neutral classes. -/
structure RowN (l : List Int) (lo hi : Nat) : Prop where
  lt : lo < hi
  le : hi ≤ l.length
  neu : ∀ j c, lo ≤ j → j < hi → l[j]? = some c → neuB c = true
  ahead : lo = 0 ∨ ∃ c, l[lo - 1]? = some c ∧ neuB c = false
  behind : hi = l.length ∨ ∃ c, l[hi]? = some c ∧ neuB c = false
/-- The side ahead of a place. -/
def ahN (a : Int) (l : List Int) (lo : Nat) : Int := if lo = 0 then a else sideF (l.getD (lo - 1) 0)
theorem nu1_from {e : Int} : ∀ {l : List Int} {a : Int} {lo : Nat}, (lo = 0 ∨ ∃ c, l[lo - 1]? = some c ∧ neuB c = false) → (nu1 a e l).drop lo = nu1 (ahN a l lo) e (l.drop lo)
  | l, a, 0, _ => by simp [ahN]
  | [], a, lo + 1, _ => by simp [nu1]
  | c :: l, a, lo + 1, h => by
    rcases h with h | ⟨d, h1, h2⟩
    · omega
    · have key : nu1 a e (c :: l) = (if neuB c = true then (if 0 ≤ a ∧ a = nxtS e l then a else c) else c) :: nu1 (if neuB c = true then a else sideF c) e l := by
        rw [nu1]
        split <;> rfl
      rw [key, List.drop_succ_cons, List.drop_succ_cons]
      cases lo with
      | zero =>
        obtain rfl := Option.some.inj h1
        rw [if_neg (by rw [h2]; decide)]
        simp [ahN]
      | succ lo =>
        rw [nu1_from (lo := lo + 1) (.inr ⟨d, by simpa using h1, h2⟩)]
        simp [ahN]
theorem nxt_row {e : Int} : ∀ {s r : List Int}, (∀ c ∈ s, neuB c = true) → nxtS e (s ++ r) = nxtS e r
  | [], _, _ => rfl
  | c :: s, r, h => by
    rw [List.cons_append, nxtS, if_pos (h c (by simp))]
    exact nxt_row fun d hd => h d (by simp [hd])
theorem nxt_end {e : Int} {r : List Int} (h : r = [] ∨ ∃ c, r[0]? = some c ∧ neuB c = false) : nxtS e r = if r = [] then sideF e else sideF (r.getD 0 0) := by
  rcases h with rfl | ⟨c, h1, h2⟩
  · rfl
  · cases r with
    | nil => simp at h1
    | cons x r =>
      obtain rfl := Option.some.inj h1
      rw [nxtS, if_neg (by rw [h2]; decide), if_neg (by simp)]
      rfl
theorem nu1_in {b e : Int} : ∀ {s r : List Int} {j : Nat} {c : Int}, (∀ c ∈ s, neuB c = true) → s[j]? = some c → (nu1 b e (s ++ r))[j]? = some (if 0 ≤ b ∧ b = nxtS e r then b else c)
  | [], _, _, _, _, h => by simp at h
  | x :: s, r, 0, c, hn, h => by
    obtain rfl := Option.some.inj h
    rw [List.cons_append, nu1, if_pos (hn x (by simp)), nxt_row (fun d hd => hn d (by simp [hd]))]
    rfl
  | x :: s, r, j + 1, c, hn, h => by
    rw [List.cons_append, nu1, if_pos (hn x (by simp)), List.getElem?_cons_succ]
    exact nu1_in (fun d hd => hn d (by simp [hd])) (by simpa using h)
/-- The side behind a place. -/
def bhN (e : Int) (l : List Int) (hi : Nat) : Int := if hi = l.length then sideF e else sideF (l.getD hi 0)
theorem nu1_row {a e : Int} {l : List Int} {lo hi j : Nat} {c : Int} (h : RowN l lo hi) (h1 : lo ≤ j) (h2 : j < hi) (hc : l[j]? = some c) : (nu1 a e l)[j]? = some (if 0 ≤ ahN a l lo ∧ ahN a l lo = bhN e l hi then ahN a l lo else c) := by
  have e1 : (nu1 a e l)[j]? = ((nu1 a e l).drop lo)[j - lo]? := by rw [List.getElem?_drop, show lo + (j - lo) = j by omega]
  rw [e1, nu1_from h.ahead]
  have hlt := h.lt
  have hle := h.le
  have e2 : l.drop lo = (l.take hi).drop lo ++ l.drop hi := by
    apply List.ext_getElem?
    intro i
    by_cases hi' : i < hi - lo
    · rw [List.getElem?_append_left (by rw [List.length_drop, List.length_take]; omega), List.getElem?_drop, List.getElem?_drop, List.getElem?_take_of_lt (by omega)]
    · rw [List.getElem?_append_right (by rw [List.length_drop, List.length_take]; omega), List.getElem?_drop, List.getElem?_drop, List.length_drop, List.length_take, show hi + (i - (min hi l.length - lo)) = lo + i by omega]
  have e3 : nxtS e (l.drop hi) = bhN e l hi := by
    rw [nxt_end]
    · unfold bhN
      by_cases hh : hi = l.length
      · rw [if_pos hh, if_pos (List.drop_eq_nil_of_le (by omega))]
      · rw [if_neg hh, if_neg (by intro h0; have := congrArg List.length h0; simp at this; omega), List.getD_eq_getElem?_getD, List.getElem?_drop, Nat.add_zero, List.getD_eq_getElem?_getD]
    · rcases h.behind with hh | ⟨d, d1, d2⟩
      · exact .inl (List.drop_eq_nil_of_le (by omega))
      · exact .inr ⟨d, by rw [List.getElem?_drop, Nat.add_zero]; exact d1, d2⟩
  rw [e2, nu1_in (c := c) ?_ ?_, e3]
  · intro d hd
    obtain ⟨i, hi'⟩ := List.getElem?_of_mem hd
    have hil := (List.getElem?_eq_some_iff.1 hi').1
    rw [List.length_drop, List.length_take] at hil
    rw [List.getElem?_drop, List.getElem?_take_of_lt (by omega)] at hi'
    exact h.neu (lo + i) d (by omega) (by omega) hi'
  · rw [List.getElem?_drop, List.getElem?_take_of_lt (by omega), show lo + (j - lo) = j by omega]
    exact hc
end Go.Proofs.YtdgomaoikeffhaaGreat
/- The last bit of an integer. -/
namespace Go.Proofs.YtdgomaoikeffhaaGreat
open Go.RowKit

theorem and1_i64 (M : Int) : bits .and .i64 M 1 = M % 2 := by
  show IntKind.i64.wrap ((BitVec.ofInt 64 M &&& BitVec.ofInt 64 1).toNat : Int) = _
  rw [BitVec.toNat_and, show (BitVec.ofInt 64 1).toNat = 1 from rfl, Nat.and_one_is_mod, BitVec.toNat_ofInt, IntKind.wrap_i64]
  omega
end Go.Proofs.YtdgomaoikeffhaaGreat
