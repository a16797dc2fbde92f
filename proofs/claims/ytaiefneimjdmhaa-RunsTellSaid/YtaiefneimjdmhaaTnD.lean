/- Rows that lie in one another: parts turned level by level, put together from within. No function of the program. -/
import Derived.Test.YtaiefneimjdmhaaRuD
namespace Go.Proofs.Ytaiefneimjdmhaa
open Go.RowKit

section
variable {α : Type}
theorem revR_sep {p : α → Bool} {x : α} (hx : p x = false) (b : List α) : ∀ (a acc : List α), revR p acc (a ++ x :: b) = revR p acc a ++ x :: revR p [] b
  | [], acc => by
    rw [List.nil_append, revR, revR, if_neg (by rw [hx]; decide)]
  | y :: a, acc => by
    rw [List.cons_append, revR, revR]
    split
    · exact revR_sep hx b a (y :: acc)
    · rw [revR_sep hx b a []]
      simp
/-- Turned twice a list is as it was. -/
theorem revR_twice {p : α → Bool} : ∀ (l acc : List α), (∀ x ∈ acc, p x = true) → revR p [] (revR p acc l) = acc.reverse ++ l
  | [], acc, h => by rw [revR, revR_all _ _ h]
  | x :: l, acc, h => by
    rw [revR]
    by_cases hx : p x = true
    · rw [if_pos hx, revR_twice l (x :: acc) (by
        intro y hy
        rcases List.mem_cons.1 hy with rfl | hy
        · exact hx
        · exact h y hy)]
      simp
    · have hx : p x = false := by simpa using hx
      rw [if_neg (by rw [hx]; decide), revR_app _ _ _ h, List.append_nil, revR, if_neg (by rw [hx]; decide), revR_twice l [] (by simp)]
      rfl
/-- Turned at each level from v + d down to v + 1. -/
def wnF (lv : α → Nat) : Nat → Nat → List α → List α
  | 0, _, o => o
  | d + 1, v, o => revR (fun x => decide (v + 1 ≤ lv x)) [] (wnF lv d (v + 1) o)
theorem wn_perm (lv : α → Nat) : ∀ (d v : Nat) (o : List α), (wnF lv d v o).Perm o
  | 0, _, o => .refl o
  | d + 1, v, o => by
    rw [wnF]
    exact (by simpa using revR_perm (fun x => decide (v + 1 ≤ lv x)) (wnF lv d (v + 1) o) [] : (revR _ [] _).Perm _).trans (wn_perm lv d (v + 1) o)
theorem wn_nil (lv : α → Nat) (d v : Nat) : wnF lv d v [] = [] := (wn_perm lv d v []).eq_nil
theorem wn_one (lv : α → Nat) (d v : Nat) (x : α) : wnF lv d v [x] = [x] := List.perm_singleton.1 (wn_perm lv d v [x])
theorem wn_sep {lv : α → Nat} {x : α} (b : List α) : ∀ (d v : Nat) (a : List α), lv x ≤ v → wnF lv d v (a ++ x :: b) = wnF lv d v a ++ x :: wnF lv d v b
  | 0, _, _, _ => rfl
  | d + 1, v, a, h => by
    rw [wnF, wnF, wnF, wn_sep b d (v + 1) a (by omega), revR_sep (p := fun x => decide (v + 1 ≤ lv x)) (x := x) (decide_eq_false (by omega))]
/-- A row as it is seen: from the left where its level is even. -/
def rowF (lv : α → Nat) (v : Nat) (l : List α) : List α := if v % 2 = 1 then (wnF lv (126 - v) v l).reverse else wnF lv (126 - v) v l
theorem row_one (lv : α → Nat) (v : Nat) (x : α) : rowF lv v [x] = [x] := by
  unfold rowF
  rw [wn_one]
  split <;> rfl
theorem wn_up {lv : α → Nat} {v : Nat} (hv : v < 126) {l : List α} (h : ∀ x ∈ l, v + 1 ≤ lv x) : wnF lv (126 - v) v l = (wnF lv (126 - (v + 1)) (v + 1) l).reverse := by
  obtain ⟨d, hd⟩ : ∃ d, 126 - v = d + 1 := ⟨125 - v, by omega⟩
  rw [hd, show 126 - (v + 1) = d by omega, wnF, revR_all, List.append_nil]
  intro x hx
  exact decide_eq_true (h x ((wn_perm lv d (v + 1) l).mem_iff.1 hx))
/-- A row of a greater level is one of less level as well. -/
theorem row_up {lv : α → Nat} {v : Nat} (hv : v < 126) {l : List α} (h : ∀ x ∈ l, v + 1 ≤ lv x) : rowF lv v l = rowF lv (v + 1) l := by
  unfold rowF
  rw [wn_up hv h]
  by_cases ho : v % 2 = 1
  · rw [if_pos ho, if_neg (by omega), List.reverse_reverse]
  · rw [if_neg ho, if_pos (by omega)]
theorem row_down {lv : α → Nat} {l : List α} {v : Nat} : ∀ (k : Nat), v + k ≤ 126 → (∀ x ∈ l, v + k ≤ lv x) → rowF lv v l = rowF lv (v + k) l
  | 0, _, _ => rfl
  | k + 1, hk, h => by
    rw [row_down k (by omega) fun x hx => by have := h x hx; omega]
    rw [row_up (show v + k < 126 by omega) (fun x hx => by have := h x hx; omega)]
    rfl
theorem row_less {lv : α → Nat} {l : List α} {u v : Nat} (hu : u ≤ v) (hv : v ≤ 126) (h : ∀ x ∈ l, v ≤ lv x) : rowF lv u l = rowF lv v l := by
  have := row_down (lv := lv) (l := l) (v := u) (v - u) (by omega) (fun x hx => by have := h x hx; omega)
  rwa [show u + (v - u) = v by omega] at this
theorem row_split {lv : α → Nat} {v : Nat} {a b : List α} (h : wnF lv (126 - v) v (a ++ b) = wnF lv (126 - v) v a ++ wnF lv (126 - v) v b) : rowF lv v (a ++ b) = if v % 2 = 1 then rowF lv v b ++ rowF lv v a else rowF lv v a ++ rowF lv v b := by
  unfold rowF
  rw [h]
  by_cases ho : v % 2 = 1
  · simp [ho]
  · simp [ho]
/-- A row of a greater level behind one whose last place is of its own level. -/
theorem row_join {lv : α → Nat} {u t : Nat} {a b : List α} {x : α} (hx : lv x = u) (hu : u ≤ t) (ht : t ≤ 126) (hb : ∀ y ∈ b, t ≤ lv y) : rowF lv u ((a ++ [x]) ++ b) = if u % 2 = 1 then rowF lv t b ++ rowF lv u (a ++ [x]) else rowF lv u (a ++ [x]) ++ rowF lv t b := by
  rw [row_split, row_less hu ht hb]
  rw [List.append_assoc, List.singleton_append, wn_sep b _ _ a (by omega), wn_sep [] _ _ a (by omega), wn_nil]
  simp
/-- A place of its own level behind a row. -/
theorem row_put {lv : α → Nat} {u : Nat} {a : List α} {x : α} (hx : lv x = u) : rowF lv u (a ++ [x]) = if u % 2 = 1 then x :: rowF lv u a else rowF lv u a ++ [x] := by
  rw [row_split, row_one]
  · split <;> rfl
  · rw [wn_sep [] _ _ a (by omega), wn_one, wn_nil]
end

/-! The rows: the last one first. -/
structure TnR (α : Type) where
  lev : Nat
  seq : List α
def TnR.join {α : Type} (u t : TnR α) : TnR α := ⟨u.lev, if u.lev % 2 = 1 then t.seq ++ u.seq else u.seq ++ t.seq⟩
/-- Rows of a greater level end. -/
def tnPop {α : Type} (v : Nat) : TnR α → List (TnR α) → List (TnR α)
  | t, [] => if v < t.lev then [⟨v, t.seq⟩] else [t]
  | t, u :: R => if v < t.lev then (if v ≤ u.lev then tnPop v (u.join t) R else ⟨v, t.seq⟩ :: u :: R) else t :: u :: R
def tnTop {α : Type} (r : TnR α) : List (TnR α) → List (TnR α)
  | [] => [r]
  | u :: R => if u.lev = r.lev then u.join r :: R else r :: u :: R
def tnPut {α : Type} (r : TnR α) : List (TnR α) → List (TnR α)
  | [] => [r]
  | t :: R => tnTop r (tnPop r.lev t R)
def tnEnd {α : Type} : TnR α → List (TnR α) → TnR α
  | t, [] => t
  | t, u :: R => tnEnd (u.join t) R
def tnAll {α : Type} (lv : α → Nat) : List α → List (TnR α) → List (TnR α)
  | [], R => R
  | x :: l, R => tnAll lv l (tnPut ⟨lv x, [x]⟩ R)
/-- What a row is of. -/
structure TnT {α : Type} (lv : α → Nat) (b : List α) (t : TnR α) : Prop where
  ne : b ≠ []
  top : t.lev ≤ 126
  all : ∀ x ∈ b, t.lev ≤ lv x
  seq : t.seq = rowF lv t.lev b
/-- What rows are of, the last one first: each ends with a place of its own level. -/
inductive TnO {α : Type} (lv : α → Nat) : List α → List (TnR α) → Prop
  | nil : TnO lv [] []
  | cons {l b a : List α} {x : α} {R : List (TnR α)} {t : TnR α} (h : TnO lv l R) (ht : TnT lv b t) (hb : b = a ++ [x]) (hx : lv x = t.lev) (hu : ∀ u ∈ R.head?, u.lev < t.lev) : TnO lv (l ++ b) (t :: R)
section
variable {α : Type} {lv : α → Nat}
theorem TnT.join {a b : List α} {x : α} {u t : TnR α} (hu : TnT lv (a ++ [x]) u) (hx : lv x = u.lev) (ht : TnT lv b t) (h : u.lev ≤ t.lev) : TnT lv ((a ++ [x]) ++ b) (u.join t) where
  ne := by simp
  top := hu.top
  all := by
    intro y hy
    have hj : (u.join t).lev = u.lev := rfl
    rw [hj]
    rcases List.mem_append.1 hy with hy | hy
    · exact hu.all y hy
    · have := ht.all y hy; omega
  seq := by
    have hj : (u.join t).lev = u.lev := rfl
    rw [hj, row_join hx h ht.top ht.all, ← hu.seq, ← ht.seq]
    rfl
theorem TnT.less {b : List α} {t : TnR α} {v : Nat} (ht : TnT lv b t) (h : v ≤ t.lev) : TnT lv b ⟨v, t.seq⟩ where
  ne := ht.ne
  top := Nat.le_trans h ht.top
  all := fun x hx => Nat.le_trans h (ht.all x hx)
  seq := by
    rw [ht.seq]
    exact (row_less h ht.top ht.all).symm
theorem TnT.one {x : α} (h : lv x ≤ 126) : TnT lv [x] ⟨lv x, [x]⟩ where
  ne := by simp
  top := h
  all := by simp
  seq := (row_one lv (lv x) x).symm
theorem TnT.put {b : List α} {x : α} {t : TnR α} (ht : TnT lv b t) (h : t.lev = lv x) : TnT lv (b ++ [x]) (t.join ⟨lv x, [x]⟩) where
  ne := by simp
  top := ht.top
  all := by
    intro y hy
    have hj : (t.join ⟨lv x, [x]⟩).lev = t.lev := rfl
    rw [hj]
    rcases List.mem_append.1 hy with hy | hy
    · exact ht.all y hy
    · simp at hy; rw [hy, h]; exact Nat.le_refl _
  seq := by
    have hj : (t.join ⟨lv x, [x]⟩).lev = t.lev := rfl
    rw [hj, row_put h.symm, ← ht.seq]
    unfold TnR.join
    simp only
    split <;> rfl
theorem tnPop_ok {v : Nat} : ∀ {R : List (TnR α)} {l b : List α} {t : TnR α}, TnO lv l R → TnT lv b t → (∀ u ∈ R.head?, u.lev < t.lev) → v < t.lev → ∃ t2 R2 l2 b2, tnPop v t R = t2 :: R2 ∧ l ++ b = l2 ++ b2 ∧ TnO lv l2 R2 ∧ TnT lv b2 t2 ∧ (∀ u ∈ R2.head?, u.lev < t2.lev) ∧ t2.lev = v
  | [], l, b, t, h, ht, hu, hv => ⟨_, _, l, b, by rw [tnPop, if_pos hv], rfl, h, ht.less (Nat.le_of_lt hv), by simp, rfl⟩
  | u :: R, _, b, t, h, ht, hu, hv => by
    have hut := hu u rfl
    cases h with
    | @cons l bu a x _ _ h2 hb2 hba hx hu2 =>
      subst hba
      by_cases hvu : v ≤ u.lev
      · have hj := hb2.join hx ht (Nat.le_of_lt hut)
        have hju : (u.join t).lev = u.lev := rfl
        by_cases hvl : v < u.lev
        · obtain ⟨t2, R2, l2, b2, e1, e2, e3⟩ := tnPop_ok (v := v) h2 hj (by rw [hju]; exact hu2) (by rw [hju]; exact hvl)
          exact ⟨t2, R2, l2, b2, by rw [tnPop, if_pos hv, if_pos hvu, e1], by rw [← e2]; simp, e3⟩
        · refine ⟨u.join t, R, l, a ++ [x] ++ b, ?_, by simp, h2, hj, by rw [hju]; exact hu2, by rw [hju]; omega⟩
          rw [tnPop, if_pos hv, if_pos hvu]
          cases R with
          | nil => rw [tnPop, if_neg (by rw [hju]; exact hvl)]
          | cons r R => rw [tnPop, if_neg (by rw [hju]; exact hvl)]
      · exact ⟨_, _, _, _, by rw [tnPop, if_pos hv, if_neg hvu], rfl, .cons h2 hb2 rfl hx hu2, ht.less (Nat.le_of_lt hv), by intro w hw; simp at hw; subst hw; simp only; omega, rfl⟩
theorem tnPut_ok {x : α} {l : List α} {R : List (TnR α)} (h : TnO lv l R) (hx : lv x ≤ 126) : TnO lv (l ++ [x]) (tnPut ⟨lv x, [x]⟩ R) := by
  have hr : ∀ {l : List α} {R : List (TnR α)}, TnO lv l R → (∀ u ∈ R.head?, u.lev < lv x) → TnO lv (l ++ [x]) (⟨lv x, [x]⟩ :: R) := fun h hu => .cons (a := []) h (.one hx) rfl rfl hu
  cases h with
  | nil => exact hr .nil (by simp)
  | @cons l b a y R t h2 ht hb hy hu =>
    rw [tnPut]
    by_cases hv : lv x < t.lev
    · obtain ⟨t2, R2, l2, b2, e1, e2, e3, e4, e5, e6⟩ := tnPop_ok (v := lv x) h2 ht hu hv
      rw [e1, tnTop, if_pos e6, e2, List.append_assoc]
      have hj : (t2.join ⟨lv x, [x]⟩).lev = t2.lev := rfl
      exact .cons e3 (e4.put e6) rfl (by rw [hj, e6]) (by rw [hj]; exact e5)
    · have e1 : tnPop (lv x) t R = t :: R := by
        cases R with
        | nil => rw [tnPop, if_neg hv]
        | cons u R => rw [tnPop, if_neg hv]
      rw [e1, tnTop]
      by_cases he : t.lev = lv x
      · rw [if_pos he, List.append_assoc]
        have hj : (t.join ⟨lv x, [x]⟩).lev = t.lev := rfl
        exact .cons h2 (ht.put he) rfl (by rw [hj, he]) (by rw [hj]; exact hu)
      · rw [if_neg he]
        exact hr (.cons h2 ht hb hy hu) (by intro w hw; simp at hw; subst hw; omega)
theorem tnAll_ok : ∀ {k l : List α} {R : List (TnR α)}, TnO lv l R → (∀ x ∈ k, lv x ≤ 126) → TnO lv (l ++ k) (tnAll lv k R)
  | [], l, R, h, _ => by simpa [tnAll] using h
  | x :: k, l, R, h, hk => by
    have := tnAll_ok (k := k) (tnPut_ok h (hk x (by simp))) fun y hy => hk y (by simp [hy])
    rw [tnAll]
    simpa using this
theorem tnEnd_ok : ∀ {R : List (TnR α)} {l b : List α} {t : TnR α}, TnO lv l R → TnT lv b t → (∀ u ∈ R.head?, u.lev < t.lev) → TnT lv (l ++ b) (tnEnd t R)
  | [], _, b, t, h, ht, _ => by cases h; exact ht
  | u :: R, _, b, t, h, ht, hu => by
    have hut := hu u rfl
    cases h with
    | @cons l bu a x _ _ h2 hb2 hba hx hu2 =>
      subst hba
      rw [tnEnd, List.append_assoc]
      exact tnEnd_ok h2 (hb2.join hx ht (Nat.le_of_lt hut)) hu2
/-- All rows together are the places turned at each level. -/
theorem tn_all {k : List α} (hk : ∀ x ∈ k, lv x ≤ 126) : (k = [] ∧ tnAll lv k [] = []) ∨ ∃ t R, tnAll lv k [] = t :: R ∧ (tnEnd t R).seq = wnF lv 126 0 k := by
  have h := tnAll_ok (k := k) (l := []) (.nil (lv := lv)) hk
  rw [List.nil_append] at h
  cases hR : tnAll lv k [] with
  | nil =>
    rw [hR] at h
    cases h
    exact .inl ⟨rfl, rfl⟩
  | cons t R =>
    rw [hR] at h
    cases h with
    | @cons l b a x _ _ h2 ht hb hx hu =>
      have he := tnEnd_ok h2 ht hu
      refine .inr ⟨t, R, rfl, ?_⟩
      rw [he.seq, ← row_less (Nat.zero_le _) he.top he.all, rowF, if_neg (by decide), Nat.sub_zero]
end
/-! From 126 on down to the least odd level. -/
section
variable {α : Type} (lv : α → Nat)
def pasF (low : Nat) : Nat → List α → List α
  | 0, o => o
  | v + 1, o => if low ≤ v + 1 then pasF low v (revR (fun x => decide (v + 1 ≤ lv x)) [] o) else o
theorem pas_wn (v : Nat) : ∀ (d : Nat) (o : List α), pasF lv 1 v (wnF lv d v o) = pasF lv 1 (v + d) o
  | 0, o => rfl
  | d + 1, o => by
    have := pas_wn (v + 1) d o
    rw [pasF, if_pos (by omega)] at this
    rw [wnF, this]
    congr 1
    omega
theorem wn_pas (o : List α) : wnF lv 126 0 o = pasF lv 1 126 o := by
  obtain ⟨n, hn⟩ : ∃ n : Nat, n = 126 := ⟨126, rfl⟩
  rw [← hn]
  have := pas_wn lv 0 n o
  rwa [pasF, Nat.zero_add] at this
theorem pas_perm (low : Nat) : ∀ (v : Nat) (o : List α), (pasF lv low v o).Perm o
  | 0, o => .refl o
  | v + 1, o => by
    rw [pasF]
    split
    · exact (pas_perm low v _).trans (by simpa using revR_perm (fun x => decide (v + 1 ≤ lv x)) o [])
    · exact .refl o
theorem revR_congr2 {p q : α → Bool} : ∀ {l acc : List α}, (∀ x ∈ l, p x = q x) → revR p acc l = revR q acc l
  | [], _, _ => rfl
  | x :: l, acc, h => by
    rw [revR, revR, h x (by simp), revR_congr2 (acc := x :: acc) fun y hy => h y (by simp [hy]), revR_congr2 (acc := []) fun y hy => h y (by simp [hy])]
theorem pas_even : ∀ (j : Nat) (o : List α), (∀ x ∈ o, lv x < 2 * j → lv x % 2 = 0) → pasF lv 1 (2 * j) o = o
  | 0, o, _ => rfl
  | j + 1, o, h => by
    rw [show 2 * (j + 1) = (2 * j + 1) + 1 by omega, pasF, if_pos (by omega), pasF, if_pos (by omega)]
    have e : revR (fun x => decide (2 * j + 1 + 1 ≤ lv x)) [] o = revR (fun x => decide (2 * j + 1 ≤ lv x)) [] o := revR_congr2 fun x hx => by
      have := h x hx
      by_cases h1 : 2 * j + 1 + 1 ≤ lv x
      · rw [decide_eq_true h1, decide_eq_true (by omega)]
      · rw [decide_eq_false h1, decide_eq_false (by omega)]
    rw [e, revR_twice _ _ (by simp), List.reverse_nil, List.nil_append]
    exact pas_even j o fun x hx hl => h x hx (by omega)
/-- Below the least odd level turning all comes to nothing. -/
theorem pas_low {low : Nat} (hl : low % 2 = 1) : ∀ (v : Nat) (o : List α), low ≤ v → (∀ x ∈ o, lv x % 2 = 1 → low ≤ lv x) → pasF lv 1 v o = pasF lv low v o
  | 0, _, h, _ => by omega
  | v + 1, o, h, ho => by
    rw [pasF, if_pos (by omega), pasF, if_pos h]
    have ho2 : ∀ x ∈ revR (fun x => decide (v + 1 ≤ lv x)) [] o, lv x % 2 = 1 → low ≤ lv x := fun x hx => ho x (by simpa using (revR_perm (fun x => decide (v + 1 ≤ lv x)) o []).mem_iff.1 hx)
    by_cases hv : low ≤ v
    · exact pas_low hl v _ hv ho2
    · obtain ⟨j, hj⟩ : ∃ j, v = 2 * j := ⟨v / 2, by omega⟩
      rw [hj, pas_even]
      · cases j with
        | zero => rfl
        | succ j =>
          rw [show 2 * (j + 1) = (2 * j + 1) + 1 by omega, pasF, if_neg (by omega)]
      · intro x hx hlx
        rw [hj] at ho2
        have := ho2 x hx
        omega
end
end Go.Proofs.Ytaiefneimjdmhaa
