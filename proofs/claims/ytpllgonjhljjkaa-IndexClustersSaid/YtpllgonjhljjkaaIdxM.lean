/- Codes among units, as plain mathematics: the strokes of a ruler, which sizes may be, where a unit lies. No function of the program. -/
import Derived.Test.YtpllgonjhljjkaaSpD
namespace Go.Proofs.Ytpllgonjhljjkaa

/-- The strokes: where each code begins, and where the last one ends. -/
def strk (x : Int) : List Int → List Int
  | [] => [x]
  | s :: l => x :: strk (x + s) l
theorem strk_len (x : Int) (l : List Int) : (strk x l).length = l.length + 1 := by
  induction l generalizing x with
  | nil => rfl
  | cons s l ih => simp [strk, ih]
theorem strk_at (x : Int) (l : List Int) (k : Nat) (h : k ≤ l.length) : (strk x l)[k]? = some (x + (l.take k).sum) := by
  induction l generalizing x k with
  | nil =>
    have : k = 0 := by simpa using h
    subst this
    simp [strk]
  | cons s l ih =>
    cases k with
    | zero => simp [strk]
    | succ k =>
      have := ih (x + s) k (by simpa using h)
      simp only [strk, List.getElem?_cons_succ, this, List.take_succ_cons, List.sum_cons]
      congr 1
      omega
theorem strk_snoc (x : Int) (l : List Int) (s : Int) : strk x (l ++ [s]) = strk x l ++ [x + l.sum + s] := by
  induction l generalizing x with
  | nil => simp [strk]
  | cons t l ih =>
    simp only [List.cons_append, strk, ih, List.sum_cons]
    congr 3
    omega
def Ones (l : List Int) : Prop := ∀ s ∈ l, 1 ≤ s
theorem sum_nonneg {l : List Int} (h : Ones l) : (l.length : Int) ≤ l.sum := by
  induction l with
  | nil => simp
  | cons s l ih =>
    have h1 := h s (by simp)
    have h2 := ih (fun t ht => h t (by simp [ht]))
    simp only [List.length_cons, List.sum_cons]
    omega
theorem ones_take {l : List Int} (h : Ones l) (k : Nat) : Ones (l.take k) := fun s hs => h s (List.mem_of_mem_take hs)
theorem ones_drop {l : List Int} (h : Ones l) (k : Nat) : Ones (l.drop k) := fun s hs => h s (List.mem_of_mem_drop hs)
theorem take_drop_sum (l : List Int) (k : Nat) : (l.take k).sum + (l.drop k).sum = l.sum := by
  rw [← List.sum_append, List.take_append_drop]
theorem take_sum_le {l : List Int} (h : Ones l) (k : Nat) : 0 ≤ (l.take k).sum ∧ (l.take k).sum ≤ l.sum := by
  have h1 := sum_nonneg (ones_take h k)
  have h2 := sum_nonneg (ones_drop h k)
  have := take_drop_sum l k
  omega
theorem take_sum_succ {l : List Int} {k : Nat} {s : Int} (h : l[k]? = some s) : (l.take (k + 1)).sum = (l.take k).sum + s := by
  rw [List.take_add_one, h]
  simp
theorem take_sum_mono {l : List Int} (h : Ones l) {i j : Nat} (hij : i ≤ j) (hj : j ≤ l.length) : (l.take i).sum + (j - i : Nat) ≤ (l.take j).sum := by
  induction j with
  | zero =>
    have : i = 0 := by omega
    subst this; simp
  | succ j ih =>
    by_cases hi : i = j + 1
    · subst hi; simp
    · have := ih (by omega) (by omega)
      obtain ⟨s, hs⟩ : ∃ s, l[j]? = some s := ⟨_, List.getElem?_eq_getElem (by omega)⟩
      have h1 := h s (List.mem_of_getElem? hs)
      rw [take_sum_succ hs]
      omega

/-- Whether sizes are more than there may be. -/
def longB (room : Int) : List Int → Bool
  | [] => false
  | s :: l => if room < s then true else longB (room - s) l
theorem longB_false {l : List Int} (h : Ones l) (room : Int) : longB room l = false → 0 ≤ room → l.sum ≤ room := by
  induction l generalizing room with
  | nil => simp
  | cons s l ih =>
    intro hl hr
    unfold longB at hl
    split at hl
    · cases hl
    · have := ih (fun t ht => h t (by simp [ht])) (room - s) hl (by omega)
      simp only [List.sum_cons]
      omega
theorem longB_true {l : List Int} (h : Ones l) (room : Int) : longB room l = true → room < l.sum := by
  induction l generalizing room with
  | nil => intro hl; cases hl
  | cons s l ih =>
    intro hl
    have hn := sum_nonneg (l := l) (fun t ht => h t (by simp [ht]))
    unfold longB at hl
    simp only [List.sum_cons]
    split at hl
    · omega
    · have := ih (fun t ht => h t (by simp [ht])) (room - s) hl
      omega
/-- What New tells of sizes: 0 where they may be. -/
def errX (l : List Int) : Int := if (l.any fun s => decide (s < 1)) = true then 1 else if longB 16777216 l = true then 6 else 0
def Good (l : List Int) : Prop := Ones l ∧ l.sum ≤ 16777216
theorem errX_ok {l : List Int} (h : errX l = 0) : Good l := by
  unfold errX at h
  split at h
  · omega
  · split at h
    · omega
    · rename_i h1 h2
      have ho : Ones l := fun s hs => by
        by_cases hlt : s < 1
        · exact absurd (List.any_eq_true.2 ⟨s, hs, by simpa using hlt⟩) h1
        · omega
      exact ⟨ho, longB_false ho _ (by simpa using h2) (by omega)⟩
theorem good_len {l : List Int} (h : Good l) : l.length ≤ 16777216 := by
  have := sum_nonneg h.1
  have := h.2
  omega
theorem errX_bad {l : List Int} {s : Int} (h : s ∈ l) (hs : s < 1) : errX l = 1 := if_pos (List.any_eq_true.2 ⟨s, h, by simpa using hs⟩)
theorem errX_ones {l : List Int} (h : Ones l) : errX l = if longB 16777216 l = true then 6 else 0 :=
  if_neg (fun ha => by
    obtain ⟨s, hs, hlt⟩ := List.any_eq_true.1 ha
    have := h s hs
    simp at hlt
    omega)
theorem ones_snoc {l : List Int} {k : Nat} {s : Int} (h : Ones (l.take k)) (hk : l[k]? = some s) (hs : 1 ≤ s) : Ones (l.take (k + 1)) := by
  intro t ht
  rw [List.take_add_one, hk] at ht
  simp at ht
  rcases ht with ht | rfl
  · exact h t ht
  · exact hs
/-- The sizes from k on, against the room that is left. -/
theorem longB_step {l : List Int} {k : Nat} {s : Int} (hk : l[k]? = some s) (room : Int) : longB room (l.drop k) = if room < s then true else longB (room - s) (l.drop (k + 1)) := by
  have hlt := (List.getElem?_eq_some_iff.1 hk).1
  have he := (List.getElem?_eq_some_iff.1 hk).2
  rw [List.drop_eq_getElem_cons hlt, he]
  rfl

/-- How many units lie ahead of code k. -/
def pre (l : List Int) (k : Nat) : Int := (l.take k).sum
theorem pre_zero (l : List Int) : pre l 0 = 0 := by simp [pre]
theorem pre_len (l : List Int) : pre l l.length = l.sum := by simp [pre]
theorem pre_succ {l : List Int} {k : Nat} {s : Int} (h : l[k]? = some s) : pre l (k + 1) = pre l k + s := take_sum_succ h
theorem pre_mono {l : List Int} (h : Ones l) {i j : Nat} (hij : i ≤ j) (hj : j ≤ l.length) : pre l i + (j - i : Nat) ≤ pre l j := take_sum_mono h hij hj
theorem pre_bd {l : List Int} (h : Good l) (k : Nat) : 0 ≤ pre l k ∧ pre l k ≤ 16777216 := by
  have := take_sum_le h.1 k
  have := h.2
  unfold pre
  omega
theorem strk_eq (l : List Int) : strk 0 l = (List.range (l.length + 1)).map (pre l) := by
  apply List.ext_getElem?
  intro k
  by_cases hk : k ≤ l.length
  · rw [strk_at 0 l k hk, List.getElem?_map, List.getElem?_range (by omega)]
    simp [pre]
  · rw [List.getElem?_eq_none (by rw [strk_len]; omega), List.getElem?_eq_none (by simp; omega)]
theorem strk_sorted {l : List Int} (h : Ones l) : (strk 0 l).Pairwise (· ≤ ·) := by
  rw [strk_eq, List.pairwise_map]
  refine List.Pairwise.imp_of_mem ?_ (List.pairwise_lt_range)
  intro i j hi hj hij
  simp at hi hj
  have := pre_mono h (i := i) (j := j) (by omega) (by omega)
  omega
/-- Where a place lies: in code i, or behind all. -/
def InCode (l : List Int) (u : Int) (i : Nat) : Prop := i ≤ l.length ∧ pre l i ≤ u ∧ (i < l.length → u < pre l (i + 1)) ∧ (i = l.length → u = pre l i)
theorem inCode_ex {l : List Int} {u : Int} (h0 : 0 ≤ u) (h1 : u ≤ l.sum) : ∃ i, InCode l u i := by
  have key : ∀ j, j ≤ l.length → u < pre l j → ∃ i, i < j ∧ pre l i ≤ u ∧ u < pre l (i + 1) := by
    intro j
    induction j with
    | zero => intro _ h; rw [pre_zero] at h; omega
    | succ j ih =>
      intro hj h
      by_cases hu : u < pre l j
      · obtain ⟨i, hi, r⟩ := ih (by omega) hu
        exact ⟨i, by omega, r⟩
      · exact ⟨j, by omega, by omega, h⟩
  by_cases hu : u < pre l l.length
  · obtain ⟨i, hi, h2, h3⟩ := key _ (Nat.le_refl _) hu
    exact ⟨i, by omega, h2, fun _ => h3, fun e => by omega⟩
  · have := pre_len l
    exact ⟨l.length, Nat.le_refl _, by omega, fun h => by omega, fun _ => by omega⟩
theorem countP_at {S : List Int} {p : Int → Bool} {c : Nat} (hc : c ≤ S.length) (h1 : ∀ x ∈ S.take c, p x = true) (h2 : ∀ x ∈ S.drop c, p x = false) : S.countP p = c := by
  rw [← List.take_append_drop c S, List.countP_append, List.countP_eq_length.2 h1, List.countP_eq_zero.2 (fun x hx => by rw [h2 x hx]; decide)]
  simp
  omega
theorem strk_get {l : List Int} {j : Nat} {x : Int} (h : (strk 0 l)[j]? = some x) : j ≤ l.length ∧ x = pre l j := by
  have hj := (List.getElem?_eq_some_iff.1 h).1
  rw [strk_len] at hj
  have hle : j ≤ l.length := by omega
  rw [strk_at 0 l j hle] at h
  injection h with h
  exact ⟨hle, by unfold pre; omega⟩
theorem strk_take {l : List Int} {c : Nat} {x : Int} (h : x ∈ (strk 0 l).take c) : ∃ j, j < c ∧ j ≤ l.length ∧ x = pre l j := by
  obtain ⟨j, hj⟩ := List.mem_iff_getElem?.1 h
  rw [List.getElem?_take] at hj
  split at hj
  · rename_i hlt
    exact ⟨j, hlt, strk_get hj⟩
  · cases hj
theorem strk_drop {l : List Int} {c : Nat} {x : Int} (h : x ∈ (strk 0 l).drop c) : ∃ j, c ≤ j ∧ j ≤ l.length ∧ x = pre l j := by
  obtain ⟨j, hj⟩ := List.mem_iff_getElem?.1 h
  rw [List.getElem?_drop] at hj
  exact ⟨c + j, by omega, strk_get hj⟩
theorem strk_count {l : List Int} (h : Ones l) {u : Int} {i : Nat} (hi : InCode l u i) : (strk 0 l).countP (· < u) = (if u = pre l i then i else i + 1) ∧ (strk 0 l).contains u = decide (u = pre l i) := by
  obtain ⟨h1, h2, h3, h4⟩ := hi
  have lo : ∀ j, j ≤ i → pre l j + (i - j : Nat) ≤ pre l i := fun j hj => pre_mono h hj h1
  have hi' : ∀ j, i < j → j ≤ l.length → u < pre l j := fun j hj hl => by
    have := h3 (by omega)
    have := pre_mono h (i := i + 1) (j := j) (by omega) hl
    omega
  constructor
  · by_cases he : u = pre l i
    · rw [if_pos he]
      refine countP_at (by rw [strk_len]; omega) ?_ ?_
      · intro x hx
        obtain ⟨j, hj, _, rfl⟩ := strk_take hx
        have := lo j (by omega)
        simp; omega
      · intro x hx
        obtain ⟨j, hj, hl, rfl⟩ := strk_drop hx
        by_cases hji : j = i
        · subst hji; simp; omega
        · have := hi' j (by omega) hl
          simp; omega
    · rw [if_neg he]
      have hne : i ≠ l.length := fun e => he (h4 e)
      refine countP_at (by rw [strk_len]; omega) ?_ ?_
      · intro x hx
        obtain ⟨j, hj, _, rfl⟩ := strk_take hx
        have := lo j (by omega)
        simp; omega
      · intro x hx
        obtain ⟨j, hj, hl, rfl⟩ := strk_drop hx
        have := hi' j (by omega) hl
        simp; omega
  · rw [Bool.eq_iff_iff, List.contains_iff_mem, decide_eq_true_iff]
    constructor
    · intro hm
      obtain ⟨j, hj⟩ := List.mem_iff_getElem?.1 hm
      obtain ⟨hl, hx⟩ := strk_get hj
      rcases Nat.lt_trichotomy j i with hlt | heq | hgt
      · have := lo j (by omega)
        omega
      · rw [← heq]; exact hx
      · have := hi' j hgt hl
        omega
    · intro he
      refine List.mem_iff_getElem?.2 ⟨i, ?_⟩
      rw [strk_at 0 l i h1, he]
      simp [pre]
end Go.Proofs.Ytpllgonjhljjkaa
