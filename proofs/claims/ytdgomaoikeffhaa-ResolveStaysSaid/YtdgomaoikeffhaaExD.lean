/- The levels of classes as mathematics: the stack ahead of each place, the level and the class; bounds, what is plain, what is deep. No function of the program. -/
import Derived.Test.YtdgomaoikeffhaaPaD
import Derived.Test.YtdgomaoikeffhaaStkD
namespace Go.Proofs.Ytdgomaoikeffhaa
open Go.RowKit

/-- Whether a class is left out. -/
def leftC (c : Int) : Bool := (decide (14 ≤ c) && decide (c ≤ 18)) || decide (c = 9)
/-- Whether what begins at a place goes from the right. -/
def rightC (xs : List Int) (i : Nat) : Bool := if xs.getD i 0 = 21 then decide (firstF xs ((i : Int) + 1, (matF xs).getD i 0) = 1) else decide (xs.getD i 0 = 20)
def givS (s : Stk) (c : Int) : Int := if s.top.ov = 13 then c else s.top.ov
def stepA (s : Stk) (c : Int) : Stk := if c = 22 then endIS s else s
def stepB (xs : List Int) (i : Nat) (c : Int) (s : Stk) : Stk :=
  if c = 16 then (embS s true 13).2 else if c = 14 then (embS s false 13).2 else if c = 17 then (embS s true 1).2 else if c = 15 then (embS s false 0).2 else if c = 18 then endES s else if opB c = true then (isoS s (rightC xs i)).2 else s
def outX (base : Int) (s : Stk) (c : Int) : Int × Int := if c = 10 then (base, c) else if leftC c = true then (s.top.lv, 9) else (s.top.lv, givS s c)
def baseL (level : Int) : Int := min (max level 0) 1
/-- The stack ahead of place k. -/
def stE (xs : List Int) (base : Int) : Nat → Stk
  | 0 => newS base
  | k + 1 => stepB xs k (xs.getD k 0) (stepA (stE xs base k) (xs.getD k 0))
def exA (xs : List Int) (base : Int) (k : Nat) : Int × Int := outX base (stepA (stE xs base k) (xs.getD k 0)) (xs.getD k 0)
def lvL (xs : List Int) (base : Int) (k : Nat) : List Int := (List.range k).map fun i => (exA xs base i).1
def clL (xs : List Int) (base : Int) (k : Nat) : List Int := (List.range k).map fun i => (exA xs base i).2
theorem lvL_step (xs : List Int) (base : Int) (k : Nat) : lvL xs base (k + 1) = lvL xs base k ++ [(exA xs base k).1] := by unfold lvL; rw [List.range_succ, List.map_append]; rfl
theorem clL_step (xs : List Int) (base : Int) (k : Nat) : clL xs base (k + 1) = clL xs base k ++ [(exA xs base k).2] := by unfold clL; rw [List.range_succ, List.map_append]; rfl
theorem lvL_len (xs : List Int) (base : Int) (k : Nat) : (lvL xs base k).length = k := by simp [lvL]
theorem clL_len (xs : List Int) (base : Int) (k : Nat) : (clL xs base k).length = k := by simp [clL]
theorem lvL_get {xs : List Int} {base : Int} {k i : Nat} (h : i < k) : (lvL xs base k)[i]? = some (exA xs base i).1 := by simp [lvL, h]
theorem base_in (level : Int) : 0 ≤ baseL level ∧ baseL level ≤ 1 := by unfold baseL; omega
theorem new_bot {base : Int} (h : 0 ≤ base ∧ base ≤ 1) : (newS base).bot = ⟨base, 13, false⟩ := by
  have : min (max base 0) 125 = base := by omega
  unfold newS
  rw [this]
theorem near_a {s : Stk} (h : Rises s) (c : Int) : (stepA s c).bot = s.bot ∧ Rises (stepA s c) := by
  unfold stepA
  split
  · have := near_endI h; exact ⟨this.1, this.2.1⟩
  · exact ⟨rfl, h⟩
theorem near_b {s : Stk} (h : Rises s) (xs : List Int) (i : Nat) (c : Int) : (stepB xs i c s).bot = s.bot ∧ Rises (stepB xs i c s) := by
  unfold stepB
  repeat' split
  all_goals first
    | exact ⟨(near_emb h).1, (near_emb h).2.1⟩
    | exact ⟨(near_endE h).1, (near_endE h).2.1⟩
    | exact ⟨(near_iso h).1, (near_iso h).2.1⟩
    | exact ⟨rfl, h⟩
theorem st_rises {xs : List Int} {base : Int} : ∀ k, (stE xs base k).bot = (newS base).bot ∧ Rises (stE xs base k)
  | 0 => ⟨rfl, rises_new base⟩
  | k + 1 => by
    have h := st_rises (xs := xs) (base := base) k
    have h1 := near_a h.2 (xs.getD k 0)
    have h2 := near_b h1.2 xs k (xs.getD k 0)
    exact ⟨h2.1.trans (h1.1.trans h.1), h2.2⟩
/-- Levels are from the paragraph's to the limit. -/
theorem ex_in {xs : List Int} {base : Int} (hb : 0 ≤ base ∧ base ≤ 1) (k : Nat) : base ≤ (exA xs base k).1 ∧ (exA xs base k).1 ≤ 125 := by
  have h := st_rises (xs := xs) (base := base) k
  have h1 := near_a h.2 (xs.getD k 0)
  have ht := h1.2.top
  rw [h1.1, h.1, new_bot hb] at ht
  unfold exA outX
  simp only at ht
  split
  · simp only; omega
  · split
    · exact ht
    · exact ht
theorem new_end (base : Int) : endIS (newS base) = newS base := by simp [endIS, newS]
/-- Without what embeds, overrides or isolates nothing changes. -/
theorem st_plain {xs : List Int} {base : Int} (hp : ∀ c ∈ xs, leftC c = false ∧ opB c = false) : ∀ k, k ≤ xs.length → stE xs base k = newS base
  | 0, _ => rfl
  | k + 1, hk => by
    have hc : xs.getD k 0 ∈ xs := by rw [List.getD_eq_getElem?_getD, List.getElem?_eq_getElem (by omega), Option.getD_some]; exact List.getElem_mem _
    have h := hp _ hc
    rw [stE, st_plain hp k (by omega)]
    generalize xs.getD k 0 = c at h
    have ha : stepA (newS base) c = newS base := by
      unfold stepA
      split
      · exact new_end base
      · rfl
    have hl := h.1
    unfold leftC at hl
    simp only [Bool.or_eq_false_iff, Bool.and_eq_false_iff, decide_eq_false_iff_not] at hl
    rw [ha, stepB, if_neg (by omega), if_neg (by omega), if_neg (by omega), if_neg (by omega), if_neg (by omega), if_neg (by rw [h.2]; simp)]
theorem ex_plain {xs : List Int} {base : Int} (hb : 0 ≤ base ∧ base ≤ 1) (hp : ∀ c ∈ xs, leftC c = false ∧ opB c = false) {k : Nat} (hk : k < xs.length) : exA xs base k = (base, xs.getD k 0) := by
  have hc : xs.getD k 0 ∈ xs := by rw [List.getD_eq_getElem?_getD, List.getElem?_eq_getElem (by omega), Option.getD_some]; exact List.getElem_mem _
  have h := hp _ hc
  unfold exA
  rw [st_plain hp k (by omega)]
  generalize xs.getD k 0 = c at h
  have ha : stepA (newS base) c = newS base := by
    unfold stepA
    split
    · exact new_end base
    · rfl
  have ht : (newS base).top = ⟨base, 13, false⟩ := new_bot hb
  rw [ha, outX, ht, h.1]
  split
  · rfl
  · simp only [Bool.false_eq_true, if_false]
    unfold givS
    rw [ht]
    simp
theorem plain_all {xs : List Int} {base : Int} (hb : 0 ≤ base ∧ base ≤ 1) (hp : ∀ c ∈ xs, leftC c = false ∧ opB c = false) : clL xs base xs.length = xs ∧ ∀ n ∈ lvL xs base xs.length, n = base := by
  constructor
  · refine List.ext_getElem? fun i => ?_
    by_cases hi : i < xs.length
    · unfold clL
      rw [List.getElem?_map, List.getElem?_range hi, Option.map_some, ex_plain hb hp hi, List.getD_eq_getElem?_getD, List.getElem?_eq_getElem hi, Option.getD_some]
    · rw [List.getElem?_eq_none (by rw [clL_len]; omega), List.getElem?_eq_none (by omega)]
  · intro n hn
    unfold lvL at hn
    obtain ⟨i, hi, rfl⟩ := List.mem_map.1 hn
    rw [ex_plain hb hp (List.mem_range.1 hi)]
/-- The stack behind k isolates. -/
def deepS (f : Nat → Int) : Nat → Stk
  | 0 => newS 0
  | k + 1 => (isoS (deepS f k) (decide (f k = 20))).2
theorem deep_end (f : Nat → Int) (k : Nat) : endIS (deepS f (k + 1)) = deepS f k := iso_back
section
variable {xs : List Int} {n : Nat} {f : Nat → Int}
theorem deep_in (hf : ∀ i, i < n → xs.getD i 0 = f i ∧ (f i = 19 ∨ f i = 20)) : ∀ k, k ≤ n → stE xs 0 k = deepS f k
  | 0, _ => rfl
  | k + 1, hk => by
    have h := hf k (by omega)
    rw [stE, deep_in hf k (by omega), deepS]
    have hr : rightC xs k = decide (f k = 20) := by unfold rightC; rw [if_neg (by rw [h.1]; omega), h.1]
    rw [h.1, stepA, if_neg (by omega), stepB, if_neg (by omega), if_neg (by omega), if_neg (by omega), if_neg (by omega), if_neg (by omega), if_pos (by rw [opB_iff]; omega), hr]
theorem deep_out (hf : ∀ i, i < n → xs.getD i 0 = f i ∧ (f i = 19 ∨ f i = 20)) (hg : ∀ i, i < n → xs.getD (n + i) 0 = 22) : ∀ k, k ≤ n → stE xs 0 (n + k) = deepS f (n - k)
  | 0, _ => deep_in hf n (Nat.le_refl _)
  | k + 1, hk => by
    have h := hg k (by omega)
    rw [← Nat.add_assoc, stE, deep_out hf hg k (by omega), h, stepA, if_pos rfl, show n - k = (n - (k + 1)) + 1 by omega, deep_end]
    rfl
theorem deep_sym (hf : ∀ i, i < n → xs.getD i 0 = f i ∧ (f i = 19 ∨ f i = 20)) (hg : ∀ i, i < n → xs.getD (n + i) 0 = 22) {i : Nat} (hi : i < n) : (exA xs 0 i).1 = (exA xs 0 (2 * n - 1 - i)).1 := by
  have h := hf i hi
  have h2 := hg (n - 1 - i) (by omega)
  rw [show n + (n - 1 - i) = 2 * n - 1 - i by omega] at h2
  have h3 := deep_out hf hg (n - 1 - i) (by omega)
  rw [show n + (n - 1 - i) = 2 * n - 1 - i by omega, show n - (n - 1 - i) = i + 1 by omega] at h3
  have h4 := deep_in hf i (by omega)
  have e1 : (exA xs 0 i).1 = (deepS f i).top.lv := by
    unfold exA
    rw [h4, h.1, stepA, if_neg (by omega), outX, if_neg (by omega)]
    split <;> rfl
  have e2 : (exA xs 0 (2 * n - 1 - i)).1 = (deepS f i).top.lv := by
    unfold exA
    rw [h3, h2, stepA, if_pos rfl, deep_end, outX, if_neg (by omega)]
    split <;> rfl
  rw [e1, e2]
theorem deep_last (hf : ∀ i, i < n → xs.getD i 0 = f i ∧ (f i = 19 ∨ f i = 20)) (hg : ∀ i, i < n → xs.getD (n + i) 0 = 22) (hl : xs.getD (2 * n) 0 = 0) : (exA xs 0 (2 * n)).1 = 0 := by
  have h3 := deep_out hf hg n (Nat.le_refl _)
  rw [show n + n = 2 * n by omega, Nat.sub_self] at h3
  unfold exA
  rw [h3, hl]
  show (outX 0 (stepA (newS 0) 0) 0).1 = 0
  decide
end
end Go.Proofs.Ytdgomaoikeffhaa
