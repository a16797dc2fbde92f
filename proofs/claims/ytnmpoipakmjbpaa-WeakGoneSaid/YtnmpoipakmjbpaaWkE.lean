/- Weak classes: each step place by place, as the program goes through them. No function of the program. -/
import Derived.Test.YtnmpoipakmjbpaaWkD
namespace Go.Proofs.Ytnmpoipakmjbpaa
open Go.RowKit

/-- What is ahead of place k. -/
def pv1 (p : Int) (ys : List Int) : Nat → Int
  | 0 => p
  | k + 1 => ys.getD k 0
theorem pv1_cons (y : Int) (ys : List Int) (k : Nat) : (y :: ys).getD k 0 = pv1 y ys k := by cases k <;> rfl
def carF (c : Int) : Int := if 19 ≤ c ∧ c ≤ 22 then 13 else c
theorem wk1_at : ∀ {xs : List Int} {p : Int} {k : Nat} {x : Int}, xs[k]? = some x → (wk1 p xs)[k]? = some (if x = 8 then carF (pv1 p (wk1 p xs) k) else x)
  | [], _, k, _, h => by simp at h
  | c :: l, p, 0, x, h => by
    obtain rfl := Option.some.inj h
    rw [wk1]
    rfl
  | c :: l, p, k + 1, x, h => by
    rw [wk1, List.getElem?_cons_succ, wk1_at (p := nk1 p c) (by simpa using h)]
    show _ = some (if x = 8 then carF ((nk1 p c :: wk1 (nk1 p c) l).getD k 0) else x)
    rw [pv1_cons]
/-- What the program has ahead at place k: the class of a mark there. -/
def ah1 (p : Int) (ys : List Int) : Nat → Int
  | 0 => p
  | k + 1 => carF (ys.getD k 0)
theorem ah1_of {p : Int} (hp : carF p = p) (ys : List Int) (k : Nat) : carF (pv1 p ys k) = ah1 p ys k := by
  cases k with
  | zero => exact hp
  | succ k => rfl
def skN (S : List Int) (p c : Int) : Int := if c ∈ S then c else p
def nkN (o a p c : Int) : Int := if c = 3 ∧ p = a then o else c
def wkN (o a : Int) (S : List Int) : Int → List Int → List Int
  | _, [] => []
  | p, c :: l => nkN o a (skN S p c) c :: wkN o a S (skN S p c) l
def stN (S : List Int) (p : Int) (xs : List Int) : Nat → Int
  | 0 => p
  | k + 1 => skN S (stN S p xs k) (xs.getD k 0)
theorem stN_cons (S : List Int) (p c : Int) (l : List Int) : ∀ k, stN S p (c :: l) (k + 1) = stN S (skN S p c) l k
  | 0 => rfl
  | k + 1 => by
    rw [stN, stN_cons S p c l k]
    rfl
theorem wkN_at {o a : Int} {S : List Int} : ∀ {xs : List Int} {p : Int} {k : Nat} {x : Int}, xs[k]? = some x → (wkN o a S p xs)[k]? = some (nkN o a (skN S (stN S p xs k) x) x)
  | [], _, k, _, h => by simp at h
  | c :: l, p, 0, x, h => by
    obtain rfl := Option.some.inj h
    rfl
  | c :: l, p, k + 1, x, h => by
    rw [wkN, List.getElem?_cons_succ, wkN_at (p := skN S p c) (by simpa using h), stN_cons]
theorem wkN_len (o a : Int) (S : List Int) : ∀ (p : Int) (l : List Int), (wkN o a S p l).length = l.length
  | _, [] => rfl
  | p, c :: l => by simp [wkN, wkN_len o a S _ l]
theorem wkN_two : ∀ (p : Int) (l : List Int), wkN 6 2 [0, 1, 2] p l = wk2 p l
  | _, [] => rfl
  | p, c :: l => by
    have h1 : skN [0, 1, 2] p c = sk2 p c := by unfold skN sk2; simp
    have h2 : nkN 6 2 (sk2 p c) c = nk2 p c := by
      unfold nkN nk2 sk2
      by_cases h : c = 3
      · subst h; simp
      · simp [h]
    rw [wkN, wk2, h1, h2, wkN_two _ l]
theorem wkN_seven : ∀ (p : Int) (l : List Int), wkN 0 0 [0, 1] p l = wk7 p l
  | _, [] => rfl
  | p, c :: l => by
    have h1 : skN [0, 1] p c = sk7 p c := by unfold skN sk7; simp
    have h2 : nkN 0 0 (sk7 p c) c = nk7 p c := by
      unfold nkN nk7 sk7
      by_cases h : c = 3
      · subst h; simp
      · simp [h]
    rw [wkN, wk7, h1, h2, wkN_seven _ l]
def exF (o : Int) (S : List Int) (c : Int) : Int := if c ∈ S then o else c
theorem ex_three (l : List Int) : l.map (exF 1 [2]) = wk3 l := by
  unfold wk3
  refine List.map_congr_left fun c _ => ?_
  unfold exF nk3
  simp
theorem ex_six (l : List Int) : l.map (exF 13 [4, 5, 7]) = wk6 l := by
  unfold wk6
  refine List.map_congr_left fun c _ => ?_
  unfold exF nk6
  simp
theorem wk4g_mid : ∀ {l : List Int} {a : Int} {k : Nat} {x z : Int}, l[k]? = some x → l[k + 1]? = some z → (wk4g a l)[k]? = some (nk4 (pv1 a (wk4g a l) k) x z)
  | [], _, _, _, _, h, _ => by simp at h
  | [c], _, k, _, _, _, h => by simp at h
  | c :: d :: l, a, 0, x, z, h1, h2 => by
    obtain rfl := Option.some.inj h1
    obtain rfl := Option.some.inj h2
    rfl
  | c :: d :: l, a, k + 1, x, z, h1, h2 => by
    rw [wk4g, List.getElem?_cons_succ, wk4g_mid (l := d :: l) (a := nk4 a c d) (by simpa using h1) (by simpa using h2)]
    show _ = some (nk4 ((nk4 a c d :: wk4g (nk4 a c d) (d :: l)).getD k 0) x z)
    rw [pv1_cons]
theorem wk4g_last : ∀ {l : List Int} {a : Int} {k : Nat}, l.length = k + 1 → (wk4g a l)[k]? = l[k]?
  | [], _, _, h => by simp at h
  | [c], _, k, h => by rw [wk4g]
  | c :: d :: l, a, 0, h => by simp at h
  | c :: d :: l, a, k + 1, h => by
    rw [wk4g, List.getElem?_cons_succ, List.getElem?_cons_succ]
    exact wk4g_last (by simpa using h)
theorem wk4_zero (xs : List Int) : (wk4 xs)[0]? = xs[0]? := by cases xs <;> rfl
theorem wk4_mid {xs : List Int} {k : Nat} {x z : Int} (h1 : xs[k + 1]? = some x) (h2 : xs[k + 2]? = some z) : (wk4 xs)[k + 1]? = some (nk4 ((wk4 xs).getD k 0) x z) := by
  cases xs with
  | nil => simp at h1
  | cons c l =>
    rw [wk4, List.getElem?_cons_succ, wk4g_mid (l := l) (a := c) (by simpa using h1) (by simpa using h2), pv1_cons]
theorem wk4_last {xs : List Int} {k : Nat} (h : xs.length = k + 1) : (wk4 xs)[k]? = xs[k]? := by
  cases xs with
  | nil => simp at h
  | cons c l =>
    cases k with
    | zero => rfl
    | succ k => rw [wk4, List.getElem?_cons_succ, List.getElem?_cons_succ]; exact wk4g_last (by simpa using h)
/-- From the left. -/
def fE : Int → List Int → List Int
  | _, [] => []
  | a, c :: l => (if c = 5 ∧ a = 3 then 3 else c) :: fE (if c = 5 ∧ a = 3 then 3 else c) l
/-- From the right. -/
def bE : List Int → List Int
  | [] => []
  | c :: l => (if c = 5 ∧ (bE l)[0]? = some 3 then 3 else c) :: bE l
theorem fE_len : ∀ (a : Int) (l : List Int), (fE a l).length = l.length
  | _, [] => rfl
  | a, c :: l => by simp [fE, fE_len _ l]
theorem bE_len : ∀ (l : List Int), (bE l).length = l.length
  | [] => rfl
  | c :: l => by simp [bE, bE_len l]
theorem fE_at : ∀ {xs : List Int} {a : Int} {k : Nat} {x : Int}, xs[k]? = some x → (fE a xs)[k]? = some (if x = 5 ∧ pv1 a (fE a xs) k = 3 then 3 else x)
  | [], _, k, _, h => by simp at h
  | c :: l, p, 0, x, h => by
    obtain rfl := Option.some.inj h
    rfl
  | c :: l, a, k + 1, x, h => by
    rw [fE, List.getElem?_cons_succ, fE_at (by simpa using h)]
    show _ = some (if x = 5 ∧ (((if c = 5 ∧ a = 3 then 3 else c) :: fE (if c = 5 ∧ a = 3 then 3 else c) l).getD k 0) = 3 then 3 else x)
    rw [pv1_cons]
theorem bE_at : ∀ {xs : List Int} {k : Nat} {x : Int}, xs[k]? = some x → (bE xs)[k]? = some (if x = 5 ∧ (bE xs)[k + 1]? = some 3 then 3 else x)
  | [], k, _, h => by simp at h
  | c :: l, 0, x, h => by
    obtain rfl := Option.some.inj h
    rfl
  | c :: l, k + 1, x, h => by
    rw [bE, List.getElem?_cons_succ, List.getElem?_cons_succ]
    exact bE_at (by simpa using h)
theorem wk5_head (l : List Int) : (wk5 false l)[0]? = some 3 ↔ fwdE l = true := by
  cases l with
  | nil => simp [wk5, fwdE]
  | cons d l =>
    rw [wk5, fwdE]
    unfold nk5
    by_cases h : d = 5
    · subst h
      cases fwdE l <;> simp
    · simp [h]
theorem bE_fE : ∀ (a : Int) (l : List Int), bE (fE a l) = wk5 (decide (a = 3)) l
  | _, [] => rfl
  | a, c :: l => by
    rw [fE, bE, wk5, bE_fE _ l]
    unfold nk5 sk5
    by_cases h5 : c = 5
    · subst h5
      by_cases h3 : a = 3
      · subst h3; simp
      · have e : (if (5 : Int) = 5 ∧ a = 3 then (3 : Int) else 5) = 5 := if_neg (fun h => h3 h.2)
        have d3 : decide (a = 3) = false := decide_eq_false h3
        have d5 : decide ((5 : Int) = 3) = false := by decide
        rw [e, d3, d5]
        simp only [true_and, if_true, Bool.false_or, List.cons.injEq, and_true]
        cases hf : fwdE l with
        | true => rw [if_pos ((wk5_head l).2 hf)]; rfl
        | false => rw [if_neg (fun h => by have := (wk5_head l).1 h; rw [hf] at this; cases this)]; simp
    · simp [h5]
theorem terms_eq (l : List Int) : bE (fE 0 l) = wk5 false l := bE_fE 0 l
/-- A row that was gone through down to place k. -/
theorem wmix_at {xs ys : List Int} {k j n : Nat} (hy : ys.length = n) (hk : k ≤ n) (hj : k ≤ j) : (ys.take k ++ xs.drop k)[j]? = xs[j]? := by
  rw [List.getElem?_append_right (by simp; omega), List.length_take, List.getElem?_drop, show min k ys.length = k by omega]
  congr 1
  omega
theorem wmix_lt {xs ys : List Int} {k j n : Nat} (hy : ys.length = n) (hk : k ≤ n) (hj : j < k) : (ys.take k ++ xs.drop k)[j]? = ys[j]? := by
  rw [List.getElem?_append_left (by simp; omega), List.getElem?_take, if_pos hj]
theorem wmix_set {xs ys : List Int} {k n : Nat} {y : Int} (hx : xs.length = n) (hy : ys.length = n) (hk : k < n) (h2 : ys[k]? = some y) : (ys.take k ++ xs.drop k).set k y = ys.take (k + 1) ++ xs.drop (k + 1) := by
  rw [List.set_append_right _ _ (by simp; omega), List.length_take, show min k ys.length = k by omega, Nat.sub_self, List.drop_eq_getElem_cons (by omega), List.set_cons_zero, List.take_add_one, h2]
  simp
theorem wmix_keep {xs ys : List Int} {k n : Nat} {y : Int} (hx : xs.length = n) (hy : ys.length = n) (hk : k < n) (h1 : xs[k]? = some y) (h2 : ys[k]? = some y) : ys.take k ++ xs.drop k = ys.take (k + 1) ++ xs.drop (k + 1) := by
  have := wmix_set (xs := xs) hx hy hk h2
  rw [← this]
  refine (List.ext_getElem? fun j => ?_)
  rw [List.getElem?_set]
  by_cases e : k = j
  · subst e
    rw [if_pos rfl, if_pos (by simp; omega), wmix_at hy (by omega) (Nat.le_refl _), h1]
  · rw [if_neg e]
theorem wmix_all {xs ys : List Int} {n : Nat} (hx : xs.length = n) (hy : ys.length = n) : ys.take n ++ xs.drop n = ys := by
  rw [List.take_of_length_le (by omega), List.drop_eq_nil_of_le (by omega), List.append_nil]
/-- From the right: at place k. -/
theorem wmix_back {zs ys : List Int} {k n : Nat} {y : Int} (hx : zs.length = n) (hy : ys.length = n) (hk : k < n) (h2 : ys[k]? = some y) : (zs.take (k + 1) ++ ys.drop (k + 1)).set k y = zs.take k ++ ys.drop k := by
  have e : ys.drop k = y :: ys.drop (k + 1) := by
    rw [List.drop_eq_getElem_cons (by omega)]
    congr 1
    rw [List.getElem?_eq_getElem (by omega)] at h2
    exact Option.some.inj h2
  rw [List.set_append_left _ _ (by simp; omega), List.take_add_one, List.getElem?_eq_getElem (by omega), Option.toList_some, List.set_append_right _ _ (by simp; omega), e]
  rw [List.length_take, show min k zs.length = k by omega, Nat.sub_self, List.set_cons_zero, List.append_assoc]
  rfl
theorem wmix_backKeep {zs ys : List Int} {k n : Nat} {y : Int} (hx : zs.length = n) (hy : ys.length = n) (hk : k < n) (h1 : zs[k]? = some y) (h2 : ys[k]? = some y) : zs.take (k + 1) ++ ys.drop (k + 1) = zs.take k ++ ys.drop k := by
  rw [← wmix_back hx hy hk h2]
  refine (List.ext_getElem? fun j => ?_)
  rw [List.getElem?_set]
  by_cases e : k = j
  · subst e
    rw [if_pos rfl, if_pos (by simp; omega), wmix_lt hx (by omega) (by omega), h1]
  · rw [if_neg e]
end Go.Proofs.Ytnmpoipakmjbpaa
