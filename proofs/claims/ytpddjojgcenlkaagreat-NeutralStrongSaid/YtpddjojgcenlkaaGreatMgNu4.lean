/- Texts of one claim, one behind the other. -/
import Derived.Maps.OwnSet
import Derived.Maps.Views
import Derived.Laws.ResultCell
import Derived.Test.YtpddjojgcenlkaaGreatMgNu1
import Derived.Test.YtpddjojgcenlkaaGreatMgNu2
/- Weak classes as mathematics: the seven steps from left to right, what is gone behind them, that a strong one parts, and stays. No function of the program. -/
namespace Go.Proofs.YtpddjojgcenlkaaGreat
open Go.RowKit

def nk1 (p c : Int) : Int := if c = 8 then (if 19 ≤ p ∧ p ≤ 22 then 13 else p) else c
def wk1 : Int → List Int → List Int
  | _, [] => []
  | p, c :: l => nk1 p c :: wk1 (nk1 p c) l
/-- The last strong one ahead (AL among them). -/
def sk2 (p c : Int) : Int := if c = 0 ∨ c = 1 ∨ c = 2 then c else p
def nk2 (p c : Int) : Int := if c = 3 ∧ p = 2 then 6 else c
def wk2 : Int → List Int → List Int
  | _, [] => []
  | p, c :: l => nk2 p c :: wk2 (sk2 p c) l
def nk3 (c : Int) : Int := if c = 2 then 1 else c
def wk3 (l : List Int) : List Int := l.map nk3
def nk4 (a c b : Int) : Int := if c = 4 ∧ a = 3 ∧ b = 3 then 3 else if c = 7 ∧ a = b ∧ (a = 3 ∨ a = 6) then a else c
/-- Behind place a. -/
def wk4g : Int → List Int → List Int
  | _, [] => []
  | _, [c] => [c]
  | a, c :: d :: l => nk4 a c d :: wk4g (nk4 a c d) (d :: l)
def wk4 : List Int → List Int
  | [] => []
  | c :: l => c :: wk4g c l
/-- Whether what is behind a row of ET is an EN. -/
def fwdE : List Int → Bool
  | [] => false
  | c :: l => if c = 5 then fwdE l else decide (c = 3)
def sk5 (p : Bool) (c : Int) : Bool := if c = 5 then p else decide (c = 3)
def nk5 (p q : Bool) (c : Int) : Int := if c = 5 ∧ (p || q) = true then 3 else c
def wk5 : Bool → List Int → List Int
  | _, [] => []
  | p, c :: l => nk5 p (fwdE l) c :: wk5 (sk5 p c) l
def nk6 (c : Int) : Int := if c = 4 ∨ c = 5 ∨ c = 7 then 13 else c
def wk6 (l : List Int) : List Int := l.map nk6
def sk7 (p c : Int) : Int := if c = 0 ∨ c = 1 then c else p
def nk7 (p c : Int) : Int := if c = 3 ∧ p = 0 then 0 else c
def wk7 : Int → List Int → List Int
  | _, [] => []
  | p, c :: l => nk7 p c :: wk7 (sk7 p c) l
def wAll (p : Int) (l : List Int) : List Int := wk7 p (wk6 (wk5 false (wk4 (wk3 (wk2 p (wk1 p l))))))

theorem wk1_len : ∀ (p : Int) (l : List Int), (wk1 p l).length = l.length
  | _, [] => rfl
  | p, c :: l => by simp [wk1, wk1_len _ l]
theorem wk2_len : ∀ (p : Int) (l : List Int), (wk2 p l).length = l.length
  | _, [] => rfl
  | p, c :: l => by simp [wk2, wk2_len _ l]
theorem wk3_len (l : List Int) : (wk3 l).length = l.length := by simp [wk3]
theorem wk4g_len : ∀ (a : Int) (l : List Int), (wk4g a l).length = l.length
  | _, [] => rfl
  | _, [c] => rfl
  | a, c :: d :: l => by simp [wk4g, wk4g_len _ (d :: l)]
theorem wk4_len (l : List Int) : (wk4 l).length = l.length := by
  cases l with
  | nil => rfl
  | cons c l => simp [wk4, wk4g_len]
theorem wk5_len : ∀ (p : Bool) (l : List Int), (wk5 p l).length = l.length
  | _, [] => rfl
  | p, c :: l => by simp [wk5, wk5_len _ l]
theorem wk6_len (l : List Int) : (wk6 l).length = l.length := by simp [wk6]
theorem wk7_len : ∀ (p : Int) (l : List Int), (wk7 p l).length = l.length
  | _, [] => rfl
  | p, c :: l => by simp [wk7, wk7_len _ l]
theorem wAll_len (p : Int) (l : List Int) : (wAll p l).length = l.length := by unfold wAll; rw [wk7_len, wk6_len, wk5_len, wk4_len, wk3_len, wk2_len, wk1_len]

theorem mem_wk1 : ∀ {p : Int} {l : List Int} {x : Int}, p ≠ 8 → x ∈ wk1 p l → x ≠ 8
  | _, [], _, _, h => by simp [wk1] at h
  | p, c :: l, x, hp, h => by
    have hn : nk1 p c ≠ 8 := by
      unfold nk1
      split
      · split
        · decide
        · exact hp
      · assumption
    rw [wk1, List.mem_cons] at h
    rcases h with rfl | h
    · exact hn
    · exact mem_wk1 hn h
theorem mem_wk2 : ∀ {p : Int} {l : List Int} {x : Int}, x ∈ wk2 p l → x = 6 ∨ x ∈ l
  | _, [], _, h => by simp [wk2] at h
  | p, c :: l, x, h => by
    rw [wk2, List.mem_cons] at h
    rcases h with rfl | h
    · unfold nk2
      split
      · exact .inl rfl
      · exact .inr (by simp)
    · exact (mem_wk2 h).imp id (by intro k; simp [k])
theorem mem_wk3 {l : List Int} {x : Int} (h : x ∈ wk3 l) : x ≠ 2 ∧ (x = 1 ∨ x ∈ l) := by
  obtain ⟨c, hc, rfl⟩ := List.mem_map.1 h
  unfold nk3
  split
  · exact ⟨by decide, .inl rfl⟩
  · exact ⟨by assumption, .inr hc⟩
theorem nk4_in (a c b : Int) : nk4 a c b = 3 ∨ nk4 a c b = 6 ∨ nk4 a c b = c := by
  unfold nk4
  split
  · exact .inl rfl
  · split
    · rename_i h
      exact h.2.2.imp id .inl
    · exact .inr (.inr rfl)
theorem mem_wk4g : ∀ {a : Int} {l : List Int} {x : Int}, x ∈ wk4g a l → x = 3 ∨ x = 6 ∨ x ∈ l
  | _, [], _, h => by simp [wk4g] at h
  | _, [c], x, h => by simp [wk4g] at h; exact .inr (.inr (by simp [h]))
  | a, c :: d :: l, x, h => by
    rw [wk4g, List.mem_cons] at h
    rcases h with rfl | h
    · exact (nk4_in a c d).imp id (fun h => h.imp id (fun h => by rw [h]; simp))
    · exact (mem_wk4g h).imp id (fun h => h.imp id (fun h => List.mem_cons_of_mem _ h))
theorem mem_wk4 {l : List Int} {x : Int} (h : x ∈ wk4 l) : x = 3 ∨ x = 6 ∨ x ∈ l := by
  cases l with
  | nil => simp [wk4] at h
  | cons c l =>
    rw [wk4, List.mem_cons] at h
    rcases h with rfl | h
    · exact .inr (.inr (by simp))
    · exact (mem_wk4g h).imp id (fun h => h.imp id (fun h => List.mem_cons_of_mem _ h))
theorem mem_wk5 : ∀ {p : Bool} {l : List Int} {x : Int}, x ∈ wk5 p l → x = 3 ∨ x ∈ l
  | _, [], _, h => by simp [wk5] at h
  | p, c :: l, x, h => by
    rw [wk5, List.mem_cons] at h
    rcases h with rfl | h
    · unfold nk5
      split
      · exact .inl rfl
      · exact .inr (by simp)
    · exact (mem_wk5 h).imp id (by intro k; simp [k])
theorem mem_wk6 {l : List Int} {x : Int} (h : x ∈ wk6 l) : (x ≠ 4 ∧ x ≠ 5 ∧ x ≠ 7) ∧ (x = 13 ∨ x ∈ l) := by
  obtain ⟨c, hc, rfl⟩ := List.mem_map.1 h
  unfold nk6
  split
  · exact ⟨by decide, .inl rfl⟩
  · exact ⟨by omega, .inr hc⟩
theorem mem_wk7 : ∀ {p : Int} {l : List Int} {x : Int}, x ∈ wk7 p l → x = 0 ∨ x ∈ l
  | _, [], _, h => by simp [wk7] at h
  | p, c :: l, x, h => by
    rw [wk7, List.mem_cons] at h
    rcases h with rfl | h
    · unfold nk7
      split
      · exact .inl rfl
      · exact .inr (by simp)
    · exact (mem_wk7 h).imp id (by intro k; simp [k])
/-- Behind all steps none of the weak ones is left but digits. -/
theorem all_gone {p : Int} (hp : p ≠ 8) {l : List Int} {x : Int} (h : x ∈ wAll p l) : x ≠ 2 ∧ x ≠ 8 ∧ x ≠ 4 ∧ x ≠ 5 ∧ x ≠ 7 := by
  rcases mem_wk7 h with rfl | h
  · decide
  obtain ⟨⟨h4, h5, h7⟩, h⟩ := mem_wk6 h
  rcases h with rfl | h
  · decide
  rcases mem_wk5 h with rfl | h
  · decide
  rcases mem_wk4 h with rfl | rfl | h
  · decide
  · decide
  obtain ⟨h2, h⟩ := mem_wk3 h
  rcases h with rfl | h
  · decide
  rcases mem_wk2 h with rfl | h
  · decide
  exact ⟨h2, mem_wk1 hp h, h4, h5, h7⟩

section
variable {s : Int} (hs : s = 0 ∨ s = 1)
include hs
theorem wk1_part : ∀ (p : Int) (a b : List Int), wk1 p (a ++ s :: b) = wk1 p a ++ s :: wk1 s b
  | p, [], b => by
    have : nk1 p s = s := by unfold nk1; rw [if_neg (by omega)]
    simp [wk1, this]
  | p, c :: a, b => by simp [wk1, wk1_part _ a b]
theorem wk2_part : ∀ (p : Int) (a b : List Int), wk2 p (a ++ s :: b) = wk2 p a ++ s :: wk2 s b
  | p, [], b => by
    have h1 : nk2 p s = s := by unfold nk2; rw [if_neg (by omega)]
    have h2 : sk2 p s = s := by unfold sk2; rw [if_pos (by omega)]
    simp [wk2, h1, h2]
  | p, c :: a, b => by simp [wk2, wk2_part _ a b]
theorem wk3_part (a b : List Int) : wk3 (a ++ s :: b) = wk3 a ++ s :: wk3 b := by
  have h1 : nk3 s = s := by unfold nk3; rw [if_neg (by omega)]
  simp [wk3, h1]
theorem wk4g_strong (b : List Int) : wk4g s b = wk4 b := by
  match b with
  | [] => rfl
  | [c] => rfl
  | c :: d :: l =>
    have h1 : nk4 s c d = c := by unfold nk4; rw [if_neg (by omega), if_neg (by omega)]
    rw [wk4g, h1]
    rfl
theorem wk4g_at (x : Int) (b : List Int) : wk4g x (s :: b) = s :: wk4 b := by
  match b with
  | [] => rfl
  | d :: l =>
    have h1 : nk4 x s d = s := by unfold nk4; rw [if_neg (by omega), if_neg (by omega)]
    rw [wk4g, h1, wk4g_strong hs]
theorem wk4g_part : ∀ (x : Int) (a b : List Int), wk4g x (a ++ s :: b) = wk4g x a ++ s :: wk4 b
  | x, [], b => by rw [List.nil_append, wk4g_at hs]; rfl
  | x, [c], b => by
    have h1 : nk4 x c s = c := by unfold nk4; rw [if_neg (by omega), if_neg (by omega)]
    show wk4g x (c :: s :: b) = c :: s :: wk4 b
    rw [wk4g, h1, wk4g_at hs]
  | x, c :: d :: a, b => by
    have := wk4g_part (nk4 x c d) (d :: a) b
    show wk4g x (c :: d :: (a ++ s :: b)) = _
    rw [wk4g, wk4g]
    rw [List.cons_append] at this
    rw [this]
    rfl
theorem wk4_part (a b : List Int) : wk4 (a ++ s :: b) = wk4 a ++ s :: wk4 b := by
  cases a with
  | nil => show s :: wk4g s b = s :: wk4 b; rw [wk4g_strong hs]
  | cons c a => show c :: wk4g c (a ++ s :: b) = _; rw [wk4g_part hs]; rfl
theorem fwdE_part : ∀ (a b : List Int), fwdE (a ++ s :: b) = fwdE a
  | [], b => by show fwdE (s :: b) = false; rw [fwdE, if_neg (by omega)]; exact decide_eq_false (by omega)
  | c :: a, b => by
    show fwdE (c :: (a ++ s :: b)) = _
    rw [fwdE, fwdE, fwdE_part a b]
theorem wk5_part : ∀ (p : Bool) (a b : List Int), wk5 p (a ++ s :: b) = wk5 p a ++ s :: wk5 false b
  | p, [], b => by
    have h1 : ∀ q, nk5 p q s = s := fun q => by unfold nk5; rw [if_neg (by omega)]
    have h2 : sk5 p s = false := by unfold sk5; rw [if_neg (by omega)]; exact decide_eq_false (by omega)
    show wk5 p (s :: b) = s :: wk5 false b
    rw [wk5, h1, h2]
  | p, c :: a, b => by
    show wk5 p (c :: (a ++ s :: b)) = _
    rw [wk5, wk5_part _ a b, fwdE_part hs a b]
    rfl
theorem wk6_part (a b : List Int) : wk6 (a ++ s :: b) = wk6 a ++ s :: wk6 b := by
  have h1 : nk6 s = s := by unfold nk6; rw [if_neg (by omega)]
  simp [wk6, h1]
theorem wk7_part : ∀ (p : Int) (a b : List Int), wk7 p (a ++ s :: b) = wk7 p a ++ s :: wk7 s b
  | p, [], b => by
    have h1 : nk7 p s = s := by unfold nk7; rw [if_neg (by omega)]
    have h2 : sk7 p s = s := by unfold sk7; rw [if_pos (by omega)]
    simp [wk7, h1, h2]
  | p, c :: a, b => by simp [wk7, wk7_part _ a b]
/-- A strong one parts what is ahead from what is behind. -/
theorem all_part (p : Int) (a b : List Int) : wAll p (a ++ s :: b) = wAll p a ++ s :: wAll s b := by
  unfold wAll
  rw [wk1_part hs, wk2_part hs, wk3_part hs, wk4_part hs, wk5_part hs, wk6_part hs, wk7_part hs]
end
/-- Strong ones stay; AL becomes R. -/
theorem wk1_keep {j : Nat} {c : Int} (hc : c ≠ 8) : ∀ {p : Int} {l : List Int}, l[j]? = some c → (wk1 p l)[j]? = some c := by
  induction j with
  | zero =>
    intro p l h
    cases l with
    | nil => cases h
    | cons x l =>
      obtain rfl := Option.some.inj h
      rw [wk1, nk1, if_neg hc]
      rfl
  | succ j ih =>
    intro p l h
    cases l with
    | nil => cases h
    | cons x l => rw [wk1, List.getElem?_cons_succ]; exact ih h
theorem wk2_keep {j : Nat} {c : Int} (hc : c ≠ 3) : ∀ {p : Int} {l : List Int}, l[j]? = some c → (wk2 p l)[j]? = some c := by
  induction j with
  | zero =>
    intro p l h
    cases l with
    | nil => cases h
    | cons x l =>
      obtain rfl := Option.some.inj h
      rw [wk2, nk2, if_neg (by omega)]
      rfl
  | succ j ih =>
    intro p l h
    cases l with
    | nil => cases h
    | cons x l => rw [wk2, List.getElem?_cons_succ]; exact ih h
theorem wk3_at {j : Nat} {c : Int} {l : List Int} (h : l[j]? = some c) : (wk3 l)[j]? = some (nk3 c) := by unfold wk3; rw [List.getElem?_map, h]; rfl
theorem wk4g_keep {c : Int} (hc : c ≠ 4 ∧ c ≠ 7) : ∀ {j : Nat} {a : Int} {l : List Int}, l[j]? = some c → (wk4g a l)[j]? = some c
  | j, a, [], h => by cases j <;> cases h
  | j, a, [x], h => by rw [wk4g]; exact h
  | 0, a, x :: y :: l, h => by
    obtain rfl := Option.some.inj h
    rw [wk4g, nk4, if_neg (by omega), if_neg (by omega)]
    rfl
  | j + 1, a, x :: y :: l, h => by
    rw [wk4g, List.getElem?_cons_succ]
    exact wk4g_keep hc (by rwa [List.getElem?_cons_succ] at h)
theorem wk4_keep {j : Nat} {c : Int} {l : List Int} (hc : c ≠ 4 ∧ c ≠ 7) (h : l[j]? = some c) : (wk4 l)[j]? = some c := by
  cases l with
  | nil => cases h
  | cons x l =>
    cases j with
    | zero => exact h
    | succ j => rw [wk4, List.getElem?_cons_succ]; exact wk4g_keep hc (by rwa [List.getElem?_cons_succ] at h)
theorem wk5_keep {j : Nat} {c : Int} (hc : c ≠ 5) : ∀ {p : Bool} {l : List Int}, l[j]? = some c → (wk5 p l)[j]? = some c := by
  induction j with
  | zero =>
    intro p l h
    cases l with
    | nil => cases h
    | cons x l =>
      obtain rfl := Option.some.inj h
      rw [wk5, nk5, if_neg (by simp [hc])]
      rfl
  | succ j ih =>
    intro p l h
    cases l with
    | nil => cases h
    | cons x l => rw [wk5, List.getElem?_cons_succ]; exact ih h
theorem wk6_keep {j : Nat} {c : Int} {l : List Int} (hc : c ≠ 4 ∧ c ≠ 5 ∧ c ≠ 7) (h : l[j]? = some c) : (wk6 l)[j]? = some c := by
  unfold wk6
  rw [List.getElem?_map, h, Option.map_some, nk6, if_neg (by omega)]
theorem wk7_keep {j : Nat} {c : Int} (hc : c ≠ 3) : ∀ {p : Int} {l : List Int}, l[j]? = some c → (wk7 p l)[j]? = some c := by
  induction j with
  | zero =>
    intro p l h
    cases l with
    | nil => cases h
    | cons x l =>
      obtain rfl := Option.some.inj h
      rw [wk7, nk7, if_neg (by omega)]
      rfl
  | succ j ih =>
    intro p l h
    cases l with
    | nil => cases h
    | cons x l => rw [wk7, List.getElem?_cons_succ]; exact ih h
theorem wAll_strong {p : Int} {l : List Int} {j : Nat} {c : Int} (hc : c = 0 ∨ c = 1 ∨ c = 2) (h : l[j]? = some c) : (wAll p l)[j]? = some (if c = 0 then 0 else 1) := by
  have h3 := wk3_at (wk2_keep (p := p) (by omega) (wk1_keep (p := p) (by omega) h))
  have hn : nk3 c = if c = 0 then 0 else 1 := by unfold nk3; rcases hc with rfl | rfl | rfl <;> rfl
  rw [hn] at h3
  have hd : (if c = 0 then (0 : Int) else 1) = 0 ∨ (if c = 0 then (0 : Int) else 1) = 1 := by split <;> simp
  exact wk7_keep (by omega) (wk6_keep (by omega) (wk5_keep (by omega) (wk4_keep (by omega) h3)))
end Go.Proofs.YtpddjojgcenlkaaGreat
/- Weak classes: each step place by place, as the program goes through them. No function of the program. -/
namespace Go.Proofs.YtpddjojgcenlkaaGreat
open Go.RowKit

/-- What is ahead of place k. -/
def pv1 (p : Int) (ys : List Int) : Nat → Int
  | 0 => p
  | k + 1 => ys.getD k 0
theorem pv1_cons (y : Int) (ys : List Int) (k : Nat) : (y :: ys).getD k 0 = pv1 y ys k := by cases k <;> rfl
def carF (c : Int) : Int := if 19 ≤ c ∧ c ≤ 22 then 13 else c
theorem wk1_at : ∀ {xs : List Int} {p : Int} {k : Nat} {x : Int}, xs[k]? = some x → (wk1 p xs)[k]? = some (if x = 8 then carF (pv1 p (wk1 p xs) k) else x)
  | [], _, k, _, h => by simp at h
  | c :: l, p, 0, x, h => by
    obtain rfl := Option.some.inj h
    rw [wk1]
    rfl
  | c :: l, p, k + 1, x, h => by
    rw [wk1, List.getElem?_cons_succ, wk1_at (p := nk1 p c) (by simpa using h)]
    show _ = some (if x = 8 then carF ((nk1 p c :: wk1 (nk1 p c) l).getD k 0) else x)
    rw [pv1_cons]
/-- What the program has ahead at place k: the class of a mark there. -/
def ah1 (p : Int) (ys : List Int) : Nat → Int
  | 0 => p
  | k + 1 => carF (ys.getD k 0)
theorem ah1_of {p : Int} (hp : carF p = p) (ys : List Int) (k : Nat) : carF (pv1 p ys k) = ah1 p ys k := by
  cases k with
  | zero => exact hp
  | succ k => rfl
def skN (S : List Int) (p c : Int) : Int := if c ∈ S then c else p
def nkN (o a p c : Int) : Int := if c = 3 ∧ p = a then o else c
def wkN (o a : Int) (S : List Int) : Int → List Int → List Int
  | _, [] => []
  | p, c :: l => nkN o a (skN S p c) c :: wkN o a S (skN S p c) l
def stN (S : List Int) (p : Int) (xs : List Int) : Nat → Int
  | 0 => p
  | k + 1 => skN S (stN S p xs k) (xs.getD k 0)
theorem stN_cons (S : List Int) (p c : Int) (l : List Int) : ∀ k, stN S p (c :: l) (k + 1) = stN S (skN S p c) l k
  | 0 => rfl
  | k + 1 => by
    rw [stN, stN_cons S p c l k]
    rfl
theorem wkN_at {o a : Int} {S : List Int} : ∀ {xs : List Int} {p : Int} {k : Nat} {x : Int}, xs[k]? = some x → (wkN o a S p xs)[k]? = some (nkN o a (skN S (stN S p xs k) x) x)
  | [], _, k, _, h => by simp at h
  | c :: l, p, 0, x, h => by
    obtain rfl := Option.some.inj h
    rfl
  | c :: l, p, k + 1, x, h => by
    rw [wkN, List.getElem?_cons_succ, wkN_at (p := skN S p c) (by simpa using h), stN_cons]
theorem wkN_len (o a : Int) (S : List Int) : ∀ (p : Int) (l : List Int), (wkN o a S p l).length = l.length
  | _, [] => rfl
  | p, c :: l => by simp [wkN, wkN_len o a S _ l]
theorem wkN_two : ∀ (p : Int) (l : List Int), wkN 6 2 [0, 1, 2] p l = wk2 p l
  | _, [] => rfl
  | p, c :: l => by
    have h1 : skN [0, 1, 2] p c = sk2 p c := by unfold skN sk2; simp
    have h2 : nkN 6 2 (sk2 p c) c = nk2 p c := by
      unfold nkN nk2 sk2
      by_cases h : c = 3
      · subst h; simp
      · simp [h]
    rw [wkN, wk2, h1, h2, wkN_two _ l]
theorem wkN_seven : ∀ (p : Int) (l : List Int), wkN 0 0 [0, 1] p l = wk7 p l
  | _, [] => rfl
  | p, c :: l => by
    have h1 : skN [0, 1] p c = sk7 p c := by unfold skN sk7; simp
    have h2 : nkN 0 0 (sk7 p c) c = nk7 p c := by
      unfold nkN nk7 sk7
      by_cases h : c = 3
      · subst h; simp
      · simp [h]
    rw [wkN, wk7, h1, h2, wkN_seven _ l]
def exF (o : Int) (S : List Int) (c : Int) : Int := if c ∈ S then o else c
theorem ex_three (l : List Int) : l.map (exF 1 [2]) = wk3 l := by
  unfold wk3
  refine List.map_congr_left fun c _ => ?_
  unfold exF nk3
  simp
theorem ex_six (l : List Int) : l.map (exF 13 [4, 5, 7]) = wk6 l := by
  unfold wk6
  refine List.map_congr_left fun c _ => ?_
  unfold exF nk6
  simp
theorem wk4g_mid : ∀ {l : List Int} {a : Int} {k : Nat} {x z : Int}, l[k]? = some x → l[k + 1]? = some z → (wk4g a l)[k]? = some (nk4 (pv1 a (wk4g a l) k) x z)
  | [], _, _, _, _, h, _ => by simp at h
  | [c], _, k, _, _, _, h => by simp at h
  | c :: d :: l, a, 0, x, z, h1, h2 => by
    obtain rfl := Option.some.inj h1
    obtain rfl := Option.some.inj h2
    rfl
  | c :: d :: l, a, k + 1, x, z, h1, h2 => by
    rw [wk4g, List.getElem?_cons_succ, wk4g_mid (l := d :: l) (a := nk4 a c d) (by simpa using h1) (by simpa using h2)]
    show _ = some (nk4 ((nk4 a c d :: wk4g (nk4 a c d) (d :: l)).getD k 0) x z)
    rw [pv1_cons]
theorem wk4g_last : ∀ {l : List Int} {a : Int} {k : Nat}, l.length = k + 1 → (wk4g a l)[k]? = l[k]?
  | [], _, _, h => by simp at h
  | [c], _, k, h => by rw [wk4g]
  | c :: d :: l, a, 0, h => by simp at h
  | c :: d :: l, a, k + 1, h => by
    rw [wk4g, List.getElem?_cons_succ, List.getElem?_cons_succ]
    exact wk4g_last (by simpa using h)
theorem wk4_zero (xs : List Int) : (wk4 xs)[0]? = xs[0]? := by cases xs <;> rfl
theorem wk4_mid {xs : List Int} {k : Nat} {x z : Int} (h1 : xs[k + 1]? = some x) (h2 : xs[k + 2]? = some z) : (wk4 xs)[k + 1]? = some (nk4 ((wk4 xs).getD k 0) x z) := by
  cases xs with
  | nil => simp at h1
  | cons c l =>
    rw [wk4, List.getElem?_cons_succ, wk4g_mid (l := l) (a := c) (by simpa using h1) (by simpa using h2), pv1_cons]
theorem wk4_last {xs : List Int} {k : Nat} (h : xs.length = k + 1) : (wk4 xs)[k]? = xs[k]? := by
  cases xs with
  | nil => simp at h
  | cons c l =>
    cases k with
    | zero => rfl
    | succ k => rw [wk4, List.getElem?_cons_succ, List.getElem?_cons_succ]; exact wk4g_last (by simpa using h)
/-- From the left. -/
def fE : Int → List Int → List Int
  | _, [] => []
  | a, c :: l => (if c = 5 ∧ a = 3 then 3 else c) :: fE (if c = 5 ∧ a = 3 then 3 else c) l
/-- From the right. -/
def bE : List Int → List Int
  | [] => []
  | c :: l => (if c = 5 ∧ (bE l)[0]? = some 3 then 3 else c) :: bE l
theorem fE_len : ∀ (a : Int) (l : List Int), (fE a l).length = l.length
  | _, [] => rfl
  | a, c :: l => by simp [fE, fE_len _ l]
theorem bE_len : ∀ (l : List Int), (bE l).length = l.length
  | [] => rfl
  | c :: l => by simp [bE, bE_len l]
theorem fE_at : ∀ {xs : List Int} {a : Int} {k : Nat} {x : Int}, xs[k]? = some x → (fE a xs)[k]? = some (if x = 5 ∧ pv1 a (fE a xs) k = 3 then 3 else x)
  | [], _, k, _, h => by simp at h
  | c :: l, p, 0, x, h => by
    obtain rfl := Option.some.inj h
    rfl
  | c :: l, a, k + 1, x, h => by
    rw [fE, List.getElem?_cons_succ, fE_at (by simpa using h)]
    show _ = some (if x = 5 ∧ (((if c = 5 ∧ a = 3 then 3 else c) :: fE (if c = 5 ∧ a = 3 then 3 else c) l).getD k 0) = 3 then 3 else x)
    rw [pv1_cons]
theorem bE_at : ∀ {xs : List Int} {k : Nat} {x : Int}, xs[k]? = some x → (bE xs)[k]? = some (if x = 5 ∧ (bE xs)[k + 1]? = some 3 then 3 else x)
  | [], k, _, h => by simp at h
  | c :: l, 0, x, h => by
    obtain rfl := Option.some.inj h
    rfl
  | c :: l, k + 1, x, h => by
    rw [bE, List.getElem?_cons_succ, List.getElem?_cons_succ]
    exact bE_at (by simpa using h)
theorem wk5_head (l : List Int) : (wk5 false l)[0]? = some 3 ↔ fwdE l = true := by
  cases l with
  | nil => simp [wk5, fwdE]
  | cons d l =>
    rw [wk5, fwdE]
    unfold nk5
    by_cases h : d = 5
    · subst h
      cases fwdE l <;> simp
    · simp [h]
theorem bE_fE : ∀ (a : Int) (l : List Int), bE (fE a l) = wk5 (decide (a = 3)) l
  | _, [] => rfl
  | a, c :: l => by
    rw [fE, bE, wk5, bE_fE _ l]
    unfold nk5 sk5
    by_cases h5 : c = 5
    · subst h5
      by_cases h3 : a = 3
      · subst h3; simp
      · have e : (if (5 : Int) = 5 ∧ a = 3 then (3 : Int) else 5) = 5 := if_neg (fun h => h3 h.2)
        have d3 : decide (a = 3) = false := decide_eq_false h3
        have d5 : decide ((5 : Int) = 3) = false := by decide
        rw [e, d3, d5]
        simp only [true_and, if_true, Bool.false_or, List.cons.injEq, and_true]
        cases hf : fwdE l with
        | true => rw [if_pos ((wk5_head l).2 hf)]; rfl
        | false => rw [if_neg (fun h => by have := (wk5_head l).1 h; rw [hf] at this; cases this)]; simp
    · simp [h5]
theorem terms_eq (l : List Int) : bE (fE 0 l) = wk5 false l := bE_fE 0 l
/-- A row that was gone through down to place k. -/
theorem wmix_at {xs ys : List Int} {k j n : Nat} (hy : ys.length = n) (hk : k ≤ n) (hj : k ≤ j) : (ys.take k ++ xs.drop k)[j]? = xs[j]? := by
  rw [List.getElem?_append_right (by simp; omega), List.length_take, List.getElem?_drop, show min k ys.length = k by omega]
  congr 1
  omega
theorem wmix_lt {xs ys : List Int} {k j n : Nat} (hy : ys.length = n) (hk : k ≤ n) (hj : j < k) : (ys.take k ++ xs.drop k)[j]? = ys[j]? := by
  rw [List.getElem?_append_left (by simp; omega), List.getElem?_take, if_pos hj]
theorem wmix_set {xs ys : List Int} {k n : Nat} {y : Int} (hx : xs.length = n) (hy : ys.length = n) (hk : k < n) (h2 : ys[k]? = some y) : (ys.take k ++ xs.drop k).set k y = ys.take (k + 1) ++ xs.drop (k + 1) := by
  rw [List.set_append_right _ _ (by simp; omega), List.length_take, show min k ys.length = k by omega, Nat.sub_self, List.drop_eq_getElem_cons (by omega), List.set_cons_zero, List.take_add_one, h2]
  simp
theorem wmix_keep {xs ys : List Int} {k n : Nat} {y : Int} (hx : xs.length = n) (hy : ys.length = n) (hk : k < n) (h1 : xs[k]? = some y) (h2 : ys[k]? = some y) : ys.take k ++ xs.drop k = ys.take (k + 1) ++ xs.drop (k + 1) := by
  have := wmix_set (xs := xs) hx hy hk h2
  rw [← this]
  refine (List.ext_getElem? fun j => ?_)
  rw [List.getElem?_set]
  by_cases e : k = j
  · subst e
    rw [if_pos rfl, if_pos (by simp; omega), wmix_at hy (by omega) (Nat.le_refl _), h1]
  · rw [if_neg e]
theorem wmix_all {xs ys : List Int} {n : Nat} (hx : xs.length = n) (hy : ys.length = n) : ys.take n ++ xs.drop n = ys := by
  rw [List.take_of_length_le (by omega), List.drop_eq_nil_of_le (by omega), List.append_nil]
/-- From the right: at place k. -/
theorem wmix_back {zs ys : List Int} {k n : Nat} {y : Int} (hx : zs.length = n) (hy : ys.length = n) (hk : k < n) (h2 : ys[k]? = some y) : (zs.take (k + 1) ++ ys.drop (k + 1)).set k y = zs.take k ++ ys.drop k := by
  have e : ys.drop k = y :: ys.drop (k + 1) := by
    rw [List.drop_eq_getElem_cons (by omega)]
    congr 1
    rw [List.getElem?_eq_getElem (by omega)] at h2
    exact Option.some.inj h2
  rw [List.set_append_left _ _ (by simp; omega), List.take_add_one, List.getElem?_eq_getElem (by omega), Option.toList_some, List.set_append_right _ _ (by simp; omega), e]
  rw [List.length_take, show min k zs.length = k by omega, Nat.sub_self, List.set_cons_zero, List.append_assoc]
  rfl
theorem wmix_backKeep {zs ys : List Int} {k n : Nat} {y : Int} (hx : zs.length = n) (hy : ys.length = n) (hk : k < n) (h1 : zs[k]? = some y) (h2 : ys[k]? = some y) : zs.take (k + 1) ++ ys.drop (k + 1) = zs.take k ++ ys.drop k := by
  rw [← wmix_back hx hy hk h2]
  refine (List.ext_getElem? fun j => ?_)
  rw [List.getElem?_set]
  by_cases e : k = j
  · subst e
    rw [if_pos rfl, if_pos (by simp; omega), wmix_lt hx (by omega) (by omega), h1]
  · rw [if_neg e]
end Go.Proofs.YtpddjojgcenlkaaGreat
/- slices.Contains at []int; a built slice of integers. -/
namespace Go.Proofs.YtpddjojgcenlkaaGreat
open Go.RowKit
theorem rdNewI (w : World) (xs : List Int) (t : TypeId) : Rd (w.alloc (.cells (xs.map (Value.int .i64)).toArray t)) 1 (some ⟨w.heap.size, 0, none⟩) xs.length (xs.map (Value.int .i64)) := by
  have := Rd.new_ w (xs.map (Value.int .i64)) t
  rwa [List.length_map] at this
set_option maxRecDepth 100000 in
theorem indexI_any (A : Option Addr) (n c : Nat) (xs : List Int) (x : Int) (w : World) (hr : Rd w 1 A n (xs.map (Value.int .i64))) (hn : n ≤ 1000) :
    Calls Tryz.prog 105 #[.slice A n c, .int .i64 x] w fun e w' => (∃ r : Int, e = .returned (.int .i64 r) ∧ (0 ≤ r ↔ x ∈ xs)) ∧ w = w' := by
  have hlen : xs.length = n := by simpa using hr.len1
  have HL := Lib.hid hlen
  clear hlen
  go_enter Tryz.func105, Tryz.ntmps105
  go_wp2
  go_loop [8] (fun i => ∃ k : Nat, k ≤ n ∧ i = .int .i64 k ∧ x ∉ xs.take k) (fun i => n - (intOf i).toNat)
  case atStart => exact ⟨0, Nat.zero_le _, rfl, by simp⟩
  case round =>
    obtain ⟨k, hk, rfl, hno⟩ := hrel
    have HN := Lib.hid hno
    clear hno
    by_cases hlt : k < n
    · obtain ⟨s, hsk⟩ : ∃ s, xs[k]? = some s := ⟨_, List.getElem?_eq_getElem (by rw [HL.out]; exact hlt)⟩
      obtain ⟨ad, rfl, _, hc⟩ := hr.at_ hlt
      have cs : w.cell? (ad.add k) = some (.int .i64 s) := hc _ (by rw [List.getElem?_map, hsk]; rfl)
      have HS := Lib.hid hsk
      clear hsk hc
      by_cases he : x = s
      · have HM := Lib.hid (show x ∈ xs from he ▸ List.mem_of_getElem? HS.out)
        subst he
        go_wp2
        go_ret
        exact ⟨⟨_, rfl, fun _ => HM.out, fun _ => by omega⟩, rfl⟩
      · have HX := Lib.hid (show x ∉ xs.take (k + 1) by
          rw [List.take_add_one, HS.out]
          simp only [Option.toList_some, List.mem_append, List.mem_singleton, not_or]
          exact ⟨HN.out, he⟩)
        have g1 : (x == s) = false := by simp [he]
        clear he
        go_wp2
        go_round
        case rel => exact ⟨k + 1, by omega, by go_num, HX.out⟩
        case measure => simp [intOf]; omega
    · have HF := Lib.hid (show x ∉ xs by have := HN.out; rwa [List.take_of_length_le (by rw [HL.out]; omega)] at this)
      go_wp2
      go_ret
      exact ⟨⟨-1, rfl, fun h => absurd h (by omega), fun h => absurd h HF.out⟩, rfl⟩
theorem containsI_any (A : Option Addr) (n c : Nat) (xs : List Int) (x : Int) (w : World) (hr : Rd w 1 A n (xs.map (Value.int .i64))) (hn : n ≤ 1000) :
    Calls Tryz.prog 92 #[.slice A n c, .int .i64 x] w fun e w' => e = .returned (.bool (decide (x ∈ xs))) ∧ w = w' := by
  have HC := Lib.hid (indexI_any A n c xs x w hr hn)
  clear hr
  go_enter Tryz.func92, Tryz.ntmps92
  go_wp2_with fail
  refine HC.out.mono ?_
  rintro e w1 ⟨⟨r, rfl, hi⟩, rfl⟩
  have HI := Lib.hid hi
  clear hi
  by_cases h : 0 ≤ r
  · have HM := Lib.hid (HI.out.1 h)
    go_wp2
    go_ret
    exact ⟨retB (by simp [HM.out]), rfl⟩
  · have HM := Lib.hid (fun m => h (HI.out.2 m))
    have h' : r < 0 := by omega
    clear h
    go_wp2
    go_ret
    exact ⟨retB (by simp; exact HI.out), rfl⟩
end Go.Proofs.YtpddjojgcenlkaaGreat
/- A row of the call's own, at a place: its cell, and that it can be written. -/
namespace Go.Proofs.YtpddjojgcenlkaaGreat
open Go.RowKit
/-- A row of the call's own, at a place: its cell, and that it can be written. -/
theorem row_at {w : World} {base : Nat} {e : TypeId} {V : Option Addr} {n cv : Nat} {xs : List Int} (h : w.ownsRow base e 1 (.slice V n cv) n (xs.map (Value.int .i64))) (hn : 0 < n) : ∃ g, V = some ⟨g, 0, none⟩ ∧ base ≤ g ∧ (∀ k x, xs[k]? = some x → w.cell? ⟨g, k, none⟩ = some (.int .i64 x)) ∧ (∀ k, k < n → w.frozen? ⟨g, k, none⟩ = false) ∧ ∀ k x, (w.setCell ⟨g, k, none⟩ (.int .i64 x)).ownsRow base e 1 (.slice V n cv) n ((xs.set k x).map (Value.int .i64)) := by
  obtain ⟨g, c, hv, _, hlt, hb, hc⟩ := own_at h hn
  injection hv with e1 _ e2
  subst e1 e2
  refine ⟨g, rfl, hb, fun k x hx => hc k _ (by rw [List.getElem?_map, hx]; rfl), fun k hk => ?_, fun k x => ?_⟩
  · exact (own_slot h (j := k) (by omega)).2
  · have := (h.stored k (.int .i64 x)).1
    rwa [← List.map_set] at this
end Go.Proofs.YtpddjojgcenlkaaGreat
/- weak's steps, walked: marks, numbers, exchange. -/
namespace Go.Proofs.YtpddjojgcenlkaaGreat
open Go.RowKit

/-- What a step leaves: the row changed where it stands, nothing else but new blocks. -/
def WkAns (w0 w' : World) (V : Option Addr) (n cv : Nat) (ys : List Int) (e : Ending) : Prop :=
  e = .returned (.tuple #[]) ∧ w'.ownsRow w0.heap.size 3 1 (.slice V n cv) n (ys.map (Value.int .i64)) ∧ Below w0.heap.size w0 w'
theorem cell_heap {w w' : World} {a : Addr} (h : w'.heap[a.block]? = w.heap[a.block]?) : w'.cell? a = w.cell? a := by unfold World.cell?; rw [h]
set_option maxRecDepth 100000 in
theorem wkCarried_any (c v : Int) (hv : carF c = v) (w : World) : Calls Tryz.prog 73 #[.int .i64 c] w fun e w' => e = .returned (.int .i64 v) ∧ w = w' := by
  unfold carF at hv
  by_cases h1 : c = 19
  · subst h1; rw [if_pos (by omega)] at hv; subst hv
    go_enter Tryz.func73, Tryz.ntmps73
    go_wp2; go_ret; exact ⟨rfl, rfl⟩
  by_cases h2 : c = 20
  · subst h2; rw [if_pos (by omega)] at hv; subst hv
    go_enter Tryz.func73, Tryz.ntmps73
    go_wp2; go_ret; exact ⟨rfl, rfl⟩
  by_cases h3 : c = 21
  · subst h3; rw [if_pos (by omega)] at hv; subst hv
    go_enter Tryz.func73, Tryz.ntmps73
    go_wp2; go_ret; exact ⟨rfl, rfl⟩
  by_cases h4 : c = 22
  · subst h4; rw [if_pos (by omega)] at hv; subst hv
    go_enter Tryz.func73, Tryz.ntmps73
    go_wp2; go_ret; exact ⟨rfl, rfl⟩
  rw [if_neg (by omega)] at hv
  subst hv
  have g1 : (c == 19) = false := by simp [h1]
  have g2 : (c == 20) = false := by simp [h2]
  have g3 : (c == 21) = false := by simp [h3]
  have g4 : (c == 22) = false := by simp [h4]
  clear h1 h2 h3 h4
  go_enter Tryz.func73, Tryz.ntmps73
  go_wp2; go_ret; exact ⟨rfl, rfl⟩
set_option maxRecDepth 100000 in
set_option maxHeartbeats 2000000 in
theorem wkMarks_any (sb : Nat) (sos : Int) (V : Option Addr) (n cv : Nat) (xs : List Int) (w0 w : World) (hs : carF sos = sos) (hbx : w0.heap[sb]? = some (.cells #[.int .i64 sos] 3 (0, 0))) (hb : Below w0.heap.size w0 w) (hown : w.ownsRow w0.heap.size 3 1 (.slice V n cv) n (xs.map (Value.int .i64))) (hn : n ≤ 1000) :
    Calls Tryz.prog 72 #[.slice V n cv, .pointer (some ⟨sb, 0, none⟩)] w fun e w' => WkAns w0 w' V n cv (wk1 sos xs) e := by
  have hlen : xs.length = n := by have := hown.1; simpa using this
  have hyl : (wk1 sos xs).length = n := by rw [wk1_len, hlen]
  have HAT := Lib.hid (fun k x (h : xs[k]? = some x) => (wk1_at (p := sos) h).trans (by rw [ah1_of hs]))
  obtain ⟨ys, hys⟩ : ∃ ys, wk1 sos xs = ys := ⟨_, rfl⟩
  rw [hys] at hyl HAT ⊢
  have HL := Lib.hid hlen
  have HYL := Lib.hid hyl
  have HO := Lib.hid hown
  have HB := Lib.hid hb
  have cb := hp_cell (j := 0) ((hb.block _ (hp_lt hbx)).trans hbx) rfl
  clear hlen hyl hys hown hb hbx hs
  go_enter Tryz.func72, Tryz.ntmps72
  go_wp2_with fail
  clear cb
  go_loopw [9, 3] (fun i a wr => ∃ k : Nat, k ≤ n ∧ i = .int .i64 (k : Int) ∧ a = .int .i64 (ah1 sos ys k) ∧ wr.ownsRow w0.heap.size 3 1 (.slice V n cv) n ((ys.take k ++ xs.drop k).map (Value.int .i64)) ∧ Below w0.heap.size w0 wr) (fun i _ _ => n - (intOf i).toNat)
  case atStart => exact ⟨0, Nat.zero_le _, rfl, rfl, by simpa using HO.out, HB.out⟩
  case round =>
    obtain ⟨k, hk, rfl, rfl, hown, hb⟩ := hrel
    by_cases hlt : k < n
    · obtain ⟨x, hxk⟩ : ∃ x, xs[k]? = some x := ⟨_, List.getElem?_eq_getElem (by rw [HL.out]; exact hlt)⟩
      have hyk := HAT.out k x hxk
      obtain ⟨a, ha⟩ : ∃ a, ah1 sos ys k = a := ⟨_, rfl⟩
      rw [ha] at hyk ⊢
      obtain ⟨g, rfl, hgb, hc, hf, hst⟩ := row_at hown (by omega)
      have cx := hc k x (by rw [wmix_at HYL.out hk (Nat.le_refl _), hxk])
      have fx := hf k hlt
      have HN := Lib.hid (show ∀ y, ys[k]? = some y → ah1 sos ys (k + 1) = carF y from fun y h => by
        show carF (ys.getD k 0) = _
        rw [List.getD_eq_getElem?_getD, h]; rfl)
      have HYK := Lib.hid hyk
      by_cases h8 : x = 8
      · subst h8
        have hy8 : ys[k]? = some a := by rw [HYK.out, if_pos rfl]
        obtain ⟨v, hv⟩ : ∃ v, carF a = v := ⟨_, rfl⟩
        have HV := Lib.hid hv
        have HC := Lib.hid (fun W => wkCarried_any a v hv W)
        have HO2 := Lib.hid (by have := hst k a; rwa [wmix_set HL.out HYL.out hlt hy8] at this)
        have HB2 := Lib.hid (hb.setCell (p := ⟨g, k, none⟩) hgb (.int .i64 a))
        have HY8 := Lib.hid hy8
        obtain ⟨g9, e9, _, hc9, _, _⟩ := row_at HO2.out (by omega)
        simp only [Option.some.injEq, Addr.mk.injEq, and_true] at e9
        subst e9
        have c2 := hc9 k a (by rw [wmix_lt HYL.out (by omega) (by omega), hy8])
        clear hown hb hxk hyk hc hf hst hv hy8 ha hc9
        go_wp2_with fail
        refine (HC.out _).mono ?_
        rintro e w2 ⟨rfl, rfl⟩
        go_wp2_with fail
        go_roundw
        case rel => exact ⟨k + 1, by omega, by go_num, by rw [HN.out _ HY8.out, HV.out], HO2.out, HB2.out⟩
        case measure => simp [intOf]; omega
      · have hy8 : ys[k]? = some x := by rw [HYK.out, if_neg h8]
        obtain ⟨v, hv⟩ : ∃ v, carF x = v := ⟨_, rfl⟩
        have HV := Lib.hid hv
        have HC := Lib.hid (fun W => wkCarried_any x v hv W)
        have HO2 := Lib.hid (by have := hown; rwa [wmix_keep HL.out HYL.out hlt hxk hy8] at this)
        have HB2 := Lib.hid hb
        have HY8 := Lib.hid hy8
        have g8 : (x == 8) = false := by simp [h8]
        clear hown hb hxk hyk hc hf hst hv hy8 ha h8
        go_wp2_with fail
        refine (HC.out _).mono ?_
        rintro e w2 ⟨rfl, rfl⟩
        go_wp2_with fail
        go_roundw
        case rel => exact ⟨k + 1, by omega, by go_num, by rw [HN.out _ HY8.out, HV.out], HO2.out, HB2.out⟩
        case measure => simp [intOf]; omega
    · have HE := Lib.hid (by have := hown; rwa [show k = n by omega, wmix_all HL.out HYL.out] at this)
      have HB2 := Lib.hid hb
      clear hown hb
      go_wp2_with fail
      exact bodyPost_end (v := .tuple #[]) (by simp [results, go_sem]) rfl ⟨rfl, HE.out, HB2.out⟩
/-- The boxes of a step on numbers. -/
structure NBox (w0 : World) (sb tb ab ob : Nat) (o a sos : Int) (S : List Int) : Prop where
  hs : w0.heap[sb]? = some (.cells #[.int .i64 sos] 3 (0, 0))
  ht : ∃ C m c, w0.heap[tb]? = some (.cells #[.slice C m c] 22 (0, 0)) ∧ Rd w0 1 C m (S.map (Value.int .i64)) ∧ m ≤ 1000
  ha : w0.heap[ab]? = some (.cells #[.int .i64 a] 3 (0, 0))
  ho : w0.heap[ob]? = some (.cells #[.int .i64 o] 3 (0, 0))
theorem NBox.below {w0 w : World} {sb tb ab ob : Nat} {o a sos : Int} {S : List Int} (h : NBox w0 sb tb ab ob o a sos S) (hb : Below w0.heap.size w0 w) : NBox w sb tb ab ob o a sos S :=
  ⟨(hb.block _ (hp_lt h.hs)).trans h.hs, by obtain ⟨C, m, c, h1, h2, h3⟩ := h.ht; exact ⟨C, m, c, (hb.block _ (hp_lt h1)).trans h1, h2.below hb, h3⟩, (hb.block _ (hp_lt h.ha)).trans h.ha, (hb.block _ (hp_lt h.ho)).trans h.ho⟩
set_option maxRecDepth 100000 in
set_option maxHeartbeats 2000000 in
theorem wkNumbers_any (sb tb ab ob : Nat) (o a sos : Int) (S : List Int) (V : Option Addr) (n cv : Nat) (xs : List Int) (w0 w : World) (hx : NBox w0 sb tb ab ob o a sos S) (hb : Below w0.heap.size w0 w) (hown : w.ownsRow w0.heap.size 3 1 (.slice V n cv) n (xs.map (Value.int .i64))) (hn : n ≤ 1000) :
    Calls Tryz.prog 91 #[.slice V n cv, .pointer (some ⟨sb, 0, none⟩), .pointer (some ⟨tb, 0, none⟩), .pointer (some ⟨ab, 0, none⟩), .pointer (some ⟨ob, 0, none⟩)] w fun e w' => WkAns w0 w' V n cv (wkN o a S sos xs) e := by
  have hlen : xs.length = n := by have := hown.1; simpa using this
  have hyl : (wkN o a S sos xs).length = n := by rw [wkN_len, hlen]
  have HAT := Lib.hid (fun k x (h : xs[k]? = some x) => wkN_at (o := o) (a := a) (S := S) (p := sos) h)
  obtain ⟨ys, hys⟩ : ∃ ys, wkN o a S sos xs = ys := ⟨_, rfl⟩
  rw [hys] at hyl HAT ⊢
  have HL := Lib.hid hlen
  have HYL := Lib.hid hyl
  have HO := Lib.hid hown
  have HB := Lib.hid hb
  have HX := Lib.hid hx
  have cb := hp_cell (j := 0) (hx.below hb).hs rfl
  clear hlen hyl hys hown hb hx
  go_enter Tryz.func91, Tryz.ntmps91
  go_wp2_with fail
  clear cb
  go_loopw [12, 6] (fun i p wr => ∃ k : Nat, k ≤ n ∧ i = .int .i64 (k : Int) ∧ p = .int .i64 (stN S sos xs k) ∧ wr.ownsRow w0.heap.size 3 1 (.slice V n cv) n ((ys.take k ++ xs.drop k).map (Value.int .i64)) ∧ Below w0.heap.size w0 wr) (fun i _ _ => n - (intOf i).toNat)
  case atStart => exact ⟨0, Nat.zero_le _, rfl, rfl, by simpa using HO.out, HB.out⟩
  case round =>
    obtain ⟨k, hk, rfl, rfl, hown, hb⟩ := hrel
    by_cases hlt : k < n
    · obtain ⟨x, hxk⟩ : ∃ x, xs[k]? = some x := ⟨_, List.getElem?_eq_getElem (by rw [HL.out]; exact hlt)⟩
      have hyk := HAT.out k x hxk
      obtain ⟨p, hp⟩ : ∃ p, stN S sos xs k = p := ⟨_, rfl⟩
      have hnx : stN S sos xs (k + 1) = skN S p x := by rw [stN, hp, List.getD_eq_getElem?_getD, hxk]; rfl
      rw [hp] at hyk ⊢
      obtain ⟨g, rfl, hgb, hc, hf, hst⟩ := row_at hown (by omega)
      have cx := hc k x (by rw [wmix_at HYL.out hk (Nat.le_refl _), hxk])
      have fx := hf k hlt
      have hxb := HX.out.below hb
      obtain ⟨C, m, c, ht, hrC, hm⟩ := hxb.ht
      have ct := hp_cell (j := 0) ht rfl
      have ca := hp_cell (j := 0) hxb.ha rfl
      have co := hp_cell (j := 0) hxb.ho rfl
      have HC := Lib.hid (containsI_any C m c S x wr hrC hm)
      have HNX := Lib.hid hnx
      obtain ⟨p2, hp2⟩ : ∃ p2, skN S p x = p2 := ⟨_, rfl⟩
      rw [hp2] at hyk HNX
      unfold skN at hp2
      unfold nkN at hyk
      have HP2 := Lib.hid hp2
      obtain ⟨b, hbb⟩ : ∃ b, decide (x ∈ S) = b := ⟨_, rfl⟩
      rw [hbb] at HC
      have hp3 : (if b = true then x else p) = p2 := by rw [← hp2, ← hbb]; simp
      clear hp2 hbb ht hrC hnx hp hc hf hm hxb
      by_cases h3 : x = 3 ∧ p2 = a
      · obtain ⟨rfl, rfl⟩ := h3
        rw [if_pos ⟨rfl, rfl⟩] at hyk
        have HO2 := Lib.hid (by have := hst k o; rwa [wmix_set HL.out HYL.out hlt hyk] at this)
        have HB2 := Lib.hid (hb.setCell (p := ⟨g, k, none⟩) hgb (.int .i64 o))
        clear hown hb hxk hyk hst
        cases b
        all_goals
          simp only [Bool.false_eq_true, if_false, if_true] at hp3
          subst hp3
          go_wp2_with fail
          refine HC.out.mono ?_
          rintro e w2 ⟨rfl, rfl⟩
          go_wp2_with fail
          go_roundw
          case rel => exact ⟨k + 1, by omega, by go_num, by rw [HNX.out], HO2.out, HB2.out⟩
          case measure => simp [intOf]; omega
      · rw [if_neg h3] at hyk
        have HO2 := Lib.hid (by have := hown; rwa [wmix_keep HL.out HYL.out hlt hxk hyk] at this)
        have HB2 := Lib.hid hb
        clear hown hb hxk hyk hst
        by_cases hx3 : x = 3
        · have hpa : ¬ p2 = a := fun h => h3 ⟨hx3, h⟩
          have gpa : (p2 == a) = false := by simp [hpa]
          subst hx3
          clear h3 hpa
          cases b
          all_goals
            simp only [Bool.false_eq_true, if_false, if_true] at hp3
            subst hp3
            go_wp2_with fail
            refine HC.out.mono ?_
            rintro e w2 ⟨rfl, rfl⟩
            go_wp2_with fail
            go_roundw
            case rel => exact ⟨k + 1, by omega, by go_num, by rw [HNX.out], HO2.out, HB2.out⟩
            case measure => simp [intOf]; omega
        · have g3 : (x == 3) = false := by simp [hx3]
          clear h3 hx3
          cases b
          all_goals
            simp only [Bool.false_eq_true, if_false, if_true] at hp3
            subst hp3
            go_wp2_with fail
            refine HC.out.mono ?_
            rintro e w2 ⟨rfl, rfl⟩
            go_wp2_with fail
            go_roundw
            case rel => exact ⟨k + 1, by omega, by go_num, by rw [HNX.out], HO2.out, HB2.out⟩
            case measure => simp [intOf]; omega
    · have HE := Lib.hid (by have := hown; rwa [show k = n by omega, wmix_all HL.out HYL.out] at this)
      have HB2 := Lib.hid hb
      clear hown hb
      go_wp2_with fail
      exact bodyPost_end (v := .tuple #[]) (by simp [results, go_sem]) rfl ⟨rfl, HE.out, HB2.out⟩
set_option maxRecDepth 100000 in
set_option maxHeartbeats 2000000 in
theorem wkExchange_any (o : Int) (S : List Int) (C : Option Addr) (m c : Nat) (V : Option Addr) (n cv : Nat) (xs : List Int) (w0 w : World) (hrC : Rd w 1 C m (S.map (Value.int .i64))) (hCV : 0 < m → ∀ ad g, C = some ad → V = some ⟨g, 0, none⟩ → 0 < n → ad.block ≠ g) (hm : m ≤ 1000) (hb : Below w0.heap.size w0 w) (hown : w.ownsRow w0.heap.size 3 1 (.slice V n cv) n (xs.map (Value.int .i64))) (hn : n ≤ 1000) :
    Calls Tryz.prog 75 #[.slice V n cv, .int .i64 o, .slice C m c] w fun e w' => WkAns w0 w' V n cv (xs.map (exF o S)) e := by
  have hlen : xs.length = n := by have := hown.1; simpa using this
  have hyl : (xs.map (exF o S)).length = n := by rw [List.length_map, hlen]
  have HAT := Lib.hid (fun k x (h : xs[k]? = some x) => (show (xs.map (exF o S))[k]? = some (exF o S x) by rw [List.getElem?_map, h]; rfl))
  obtain ⟨ys, hys⟩ : ∃ ys, xs.map (exF o S) = ys := ⟨_, rfl⟩
  rw [hys] at hyl HAT ⊢
  have HL := Lib.hid hlen
  have HYL := Lib.hid hyl
  have HO := Lib.hid hown
  have HB := Lib.hid hb
  have HR := Lib.hid hrC
  have HCV := Lib.hid hCV
  clear hlen hyl hys hown hb hrC hCV
  go_enter Tryz.func75, Tryz.ntmps75
  go_wp2_with fail
  go_loopw [10] (fun i wr => ∃ k : Nat, k ≤ n ∧ i = .int .i64 (k : Int) ∧ Rd wr 1 C m (S.map (Value.int .i64)) ∧ wr.ownsRow w0.heap.size 3 1 (.slice V n cv) n ((ys.take k ++ xs.drop k).map (Value.int .i64)) ∧ Below w0.heap.size w0 wr) (fun i _ => n - (intOf i).toNat)
  case atStart => exact ⟨0, Nat.zero_le _, rfl, HR.out, by simpa using HO.out, HB.out⟩
  case round =>
    obtain ⟨k, hk, rfl, hrC, hown, hb⟩ := hrel
    by_cases hlt : k < n
    · obtain ⟨x, hxk⟩ : ∃ x, xs[k]? = some x := ⟨_, List.getElem?_eq_getElem (by rw [HL.out]; exact hlt)⟩
      have hyk := HAT.out k x hxk
      unfold exF at hyk
      obtain ⟨g, rfl, hgb, hc, hf, hst⟩ := row_at hown (by omega)
      have cx := hc k x (by rw [wmix_at HYL.out hk (Nat.le_refl _), hxk])
      have fx := hf k hlt
      have HC := Lib.hid (containsI_any C m c S x wr hrC hm)
      by_cases hS : x ∈ S
      · rw [if_pos hS] at hyk
        rw [decide_eq_true hS] at HC
        have HO2 := Lib.hid (by have := hst k o; rwa [wmix_set HL.out HYL.out hlt hyk] at this)
        have HB2 := Lib.hid (hb.setCell (p := ⟨g, k, none⟩) hgb (.int .i64 o))
        have HR2 : Hid (Rd (wr.setCell ⟨g, k, none⟩ (.int .i64 o)) 1 C m (S.map (Value.int .i64))) := Lib.hid ⟨hrC.1, fun h0 => by
          obtain ⟨ad, rfl, hl, hcl⟩ := hrC.2 h0
          have hne := HCV.out h0 ad g rfl rfl (by omega)
          refine ⟨ad, rfl, by simpa [World.setCell] using hl, fun j u hu => ?_⟩
          have h1 := hcl j u hu
          have h2 : (wr.setCell ⟨g, k, none⟩ (.int .i64 o)).heap[(ad.add j).block]? = wr.heap[(ad.add j).block]? := hp_far (by rw [blockAdd]; exact hne) _ _
          exact (cell_heap h2).trans h1⟩
        clear hown hb hxk hyk hst hrC hc hf hS
        go_wp2_with fail
        refine HC.out.mono ?_
        rintro e w2 ⟨rfl, rfl⟩
        go_wp2_with fail
        go_roundw
        case rel => exact ⟨k + 1, by omega, by go_num, HR2.out, HO2.out, HB2.out⟩
        case measure => simp [intOf]; omega
      · rw [if_neg hS] at hyk
        rw [decide_eq_false hS] at HC
        have HO2 := Lib.hid (by have := hown; rwa [wmix_keep HL.out HYL.out hlt hxk hyk] at this)
        have HB2 := Lib.hid hb
        have HR2 := Lib.hid hrC
        clear hown hb hxk hyk hst hrC hc hf hS
        go_wp2_with fail
        refine HC.out.mono ?_
        rintro e w2 ⟨rfl, rfl⟩
        go_wp2_with fail
        go_roundw
        case rel => exact ⟨k + 1, by omega, by go_num, HR2.out, HO2.out, HB2.out⟩
        case measure => simp [intOf]; omega
    · have HE := Lib.hid (by have := hown; rwa [show k = n by omega, wmix_all HL.out HYL.out] at this)
      have HB2 := Lib.hid hb
      clear hown hb hrC
      go_wp2_with fail
      exact bodyPost_end (v := .tuple #[]) (by simp [results, go_sem]) rfl ⟨rfl, HE.out, HB2.out⟩
end Go.Proofs.YtpddjojgcenlkaaGreat
/- Which blocks a call may write. -/
namespace Go.Proofs.YtpddjojgcenlkaaGreat
open Go.RowKit

/-- w' is w with new blocks, and with writes to the blocks of S alone. -/
structure Kept (w w' : World) (S : List Nat) : Prop where
  os : w'.os = w.os
  tape : w'.tape = w.tape
  output : w'.output = w.output
  size : w.heap.size ≤ w'.heap.size
  block : ∀ i, i < w.heap.size → i ∉ S → w'.heap[i]? = w.heap[i]?
theorem Kept.refl (w : World) (S : List Nat) : Kept w w S := ⟨rfl, rfl, rfl, Nat.le_refl _, fun _ _ _ => rfl⟩
theorem Kept.trans {a b c : World} {S : List Nat} (h : Kept a b S) (k : Kept b c S) : Kept a c S :=
  ⟨k.os.trans h.os, k.tape.trans h.tape, k.output.trans h.output, Nat.le_trans h.size k.size, fun i hi hs => (k.block i (Nat.lt_of_lt_of_le hi h.size) hs).trans (h.block i hi hs)⟩
theorem Kept.of_grown {a b : World} {g : Nat} {S : List Nat} (h : a.grownBy b (some g)) (hg : g ∈ S) : Kept a b S :=
  ⟨h.os, h.tape, h.output, h.size, fun i hi hs => h.block i hi (fun e => hs (by obtain rfl := Option.some.inj e; exact hg))⟩
theorem Kept.of_below {a b : World} (h : Below a.heap.size a b) (S : List Nat) : Kept a b S := ⟨h.os, h.tape, h.output, h.size, fun i hi _ => h.block i hi⟩
theorem Kept.drew {a b : World} {S : List Nat} (h : Kept a b S) : Kept a b.drew S := ⟨h.os, h.tape, h.output, h.size, h.block⟩
theorem Kept.set {a b : World} {S : List Nat} (h : Kept a b S) {g : Nat} (hg : g ∈ S ∨ a.heap.size ≤ g) (j : Nat) (u : Value) : Kept a (b.setCell ⟨g, j, none⟩ u) S :=
  ⟨h.os, h.tape, h.output, by simpa [World.setCell] using h.size, fun i hi hs => (Below.heap_setCell b ⟨g, j, none⟩ u i (by
    show i ≠ g
    rintro rfl
    rcases hg with hg | hg
    · exact hs hg
    · omega)).trans (h.block i hi hs)⟩
theorem Kept.heap {w w' : World} {S : List Nat} (h : Kept w w' S) {g : Nat} {o : Obj} (hg : w.heap[g]? = some o) (hs : g ∉ S) : w'.heap[g]? = some o := by
  have hlt : g < w.heap.size := by
    rcases Nat.lt_or_ge g w.heap.size with h' | h'
    · exact h'
    · rw [Array.getElem?_eq_none h'] at hg
      cases hg
  exact (h.block g hlt hs).trans hg
theorem Kept.cell {w w' : World} {S : List Nat} (h : Kept w w' S) {g j : Nat} {v : Value} (hc : w.cell? ⟨g, j, none⟩ = some v) (hs : g ∉ S) : w'.cell? ⟨g, j, none⟩ = some v := by
  have hlt : g < w.heap.size := cell_lt hc
  unfold World.cell? at hc ⊢
  rw [show w'.heap[(⟨g, j, none⟩ : Addr).block]? = w.heap[(⟨g, j, none⟩ : Addr).block]? from h.block g hlt hs]
  exact hc
theorem heap_lt {w : World} {g : Nat} {o : Obj} (h : w.heap[g]? = some o) : g < w.heap.size := by
  rcases Nat.lt_or_ge g w.heap.size with h' | h'
  · exact h'
  · rw [Array.getElem?_eq_none h'] at h
    cases h
theorem frozen_of_heap {w : World} {g : Nat} {cs : Array Value} {t : TypeId} (h : w.heap[g]? = some (.cells cs t (0, 0))) (j : Nat) : w.frozen? ⟨g, j, none⟩ = false := by
  unfold World.frozen?
  rw [show w.heap[(⟨g, j, none⟩ : Addr).block]? = _ from h]
  rfl
theorem heap_setCell_far {w : World} {g k : Nat} (h : k ≠ g) (j : Nat) (u : Value) : (w.setCell ⟨g, j, none⟩ u).heap[k]? = w.heap[k]? := Below.heap_setCell w ⟨g, j, none⟩ u k h
end Go.Proofs.YtpddjojgcenlkaaGreat
/- What writes to some blocks alone leaves: rows, what lies below. -/
namespace Go.Proofs.YtpddjojgcenlkaaGreat
open Go.RowKit

theorem own_kept {w w' : World} {base : Nat} {e : TypeId} {size n : Nat} {v : Value} {xs : List Value} {S : List Nat} (h : w.ownsRow base e size v n xs) (hk : Kept w w' S) (hs : ∀ x ∈ S, x < base) : w'.ownsRow base e size v n xs :=
  ⟨h.1, h.2.imp id fun ⟨g, cap, cur, e1, hb, hg, r⟩ => ⟨g, cap, cur, e1, hb, hk.heap hg (fun hm => by have := hs g hm; omega), r⟩⟩
theorem own_keptG {w w' : World} {base : Nat} {e : TypeId} {size n g c : Nat} {xs : List Value} {S : List Nat} (h : w.ownsRow base e size (.slice (some ⟨g, 0, none⟩) n c) n xs) (hk : Kept w w' S) (hs : g ∉ S) : w'.ownsRow base e size (.slice (some ⟨g, 0, none⟩) n c) n xs := by
  refine ⟨h.1, h.2.imp id fun ⟨g', cap, cur, e1, hb, hg, r⟩ => ⟨g', cap, cur, e1, hb, hk.heap hg (fun hm => ?_), r⟩⟩
  simp only [Value.slice.injEq, Option.some.injEq, Addr.mk.injEq, and_true] at e1
  obtain ⟨rfl, _⟩ := e1
  exact hs hm
theorem Kept.lower {a b w : World} {S : List Nat} {B : Nat} (h : Kept a b S) (hb : Below B w a) (hB : B ≤ a.heap.size) (hs : ∀ x ∈ S, B ≤ x) : Below B w b :=
  ⟨h.os.trans hb.os, h.tape.trans hb.tape, h.output.trans hb.output, Nat.le_trans hb.size h.size, fun k hk => (h.block k (Nat.lt_of_lt_of_le hk hB) (fun hm => by have := hs k hm; omega)).trans (hb.block k hk)⟩
theorem Kept.belowE {w b : World} (h : Kept w b []) : Below w.heap.size w b := h.lower (Below.refl _ _) (Nat.le_refl _) (by simp)
theorem Kept.moreS {a b : World} {S T : List Nat} (h : Kept a b S) (hs : ∀ x ∈ S, x ∈ T) : Kept a b T := ⟨h.os, h.tape, h.output, h.size, fun i hi hn => h.block i hi (fun hm => hn (hs i hm))⟩
/-- Writes to new blocks are no writes. -/
theorem Kept.less {a b : World} {S T : List Nat} (h : Kept a b S) (hs : ∀ x ∈ S, x ∈ T ∨ a.heap.size ≤ x) : Kept a b T := ⟨h.os, h.tape, h.output, h.size, fun i hi hn => h.block i hi (fun hm => by
  rcases hs i hm with h' | h'
  · exact hn h'
  · omega)⟩
end Go.Proofs.YtpddjojgcenlkaaGreat
/- A map from places to numbers that the call itself has made, as a function of the place: looked up, stored, deleted (after XFinT, which has spans). -/
namespace Go.Proofs.YtpddjojgcenlkaaGreat
open Go.RowKit

def numD (s : Nat) : DataW Unit := .lit (.int .i64 (s : Int))
def valN (s : Nat) : Value := .int .i64 (s : Int)
/-- How a number in a map reads. -/
def numElem : Value → Option (DataW Unit × List MemPlace)
  | .int .i64 a => if 0 ≤ a then some (numD a.toNat, []) else none
  | _ => none
theorem numElem_mk (s : Nat) : numElem (valN s) = some (numD s, []) := by
  show (if 0 ≤ (s : Int) then some (numD (s : Int).toNat, []) else none) = _
  rw [if_pos (by omega), Int.toNat_natCast]
theorem numElem_inv {v : Value} {z : DataW Unit × List MemPlace} (h : numElem v = some z) : ∃ s : Nat, v = valN s ∧ z = (numD s, []) := by
  unfold numElem at h
  split at h
  · rename_i a
    split at h
    · rename_i ha
      exact ⟨a.toNat, by unfold valN; rw [Int.toNat_of_nonneg ha], (Option.some.inj h).symm⟩
    · simp at h
  · simp at h
theorem numD_inj {s t : Nat} (h : numD s = numD t) : s = t := by
  unfold numD at h
  simp only [DataW.lit.injEq, Lit.int.injEq, true_and] at h
  omega
theorem key_wfN {k : Nat} (h : k ≤ 100000000) : (Lit.int .i64 (k : Int)).wf = true := by
  simp [Lit.wf, IntKind.min, IntKind.max, IntKind.signed, IntKind.bits]; omega
/-- How many places below n have a span. -/
def cntMN (M : Nat → Option Nat) : Nat → Nat
  | 0 => 0
  | n + 1 => cntMN M n + (if (M n).isSome = true then 1 else 0)
theorem cntMN_le (M : Nat → Option Nat) (n : Nat) : cntMN M n ≤ n := by
  induction n with
  | zero => exact Nat.le_refl _
  | succ n ih => unfold cntMN; split <;> omega
def putMN (M : Nat → Option Nat) (k : Nat) (s : Nat) : Nat → Option Nat := fun j => if j = k then some s else M j
def delMN (M : Nat → Option Nat) (k : Nat) : Nat → Option Nat := fun j => if j = k then none else M j
theorem cntMN_far {M N : Nat → Option Nat} {n : Nat} (h : ∀ j, j < n → M j = N j) : cntMN M n = cntMN N n := by
  induction n with
  | zero => rfl
  | succ n ih => unfold cntMN; rw [ih (fun j hj => h j (by omega)), h n (by omega)]
theorem cntMN_put {M : Nat → Option Nat} {n k : Nat} (hk : k < n) (s : Nat) : cntMN (putMN M k s) n = if (M k).isSome = true then cntMN M n else cntMN M n + 1 := by
  induction n with
  | zero => omega
  | succ n ih =>
    by_cases e : k = n
    · subst e
      unfold cntMN
      rw [cntMN_far (M := putMN M k s) (N := M) (fun j hj => if_neg (by omega)), show putMN M k s k = some s from if_pos rfl]
      cases hm : (M k).isSome <;> simp
    · have h1 := ih (by omega)
      unfold cntMN
      rw [h1, show putMN M k s n = M n from if_neg (fun h => e h.symm)]
      cases hm : (M k).isSome <;> simp <;> omega
theorem cntMN_del {M : Nat → Option Nat} {n k : Nat} (hk : k < n) : cntMN (delMN M k) n + (if (M k).isSome = true then 1 else 0) = cntMN M n := by
  induction n with
  | zero => omega
  | succ n ih =>
    by_cases e : k = n
    · subst e
      unfold cntMN
      rw [cntMN_far (M := delMN M k) (N := M) (fun j hj => if_neg (by omega)), show delMN M k k = none from if_pos rfl]
      simp
    · have h1 := ih (by omega)
      unfold cntMN
      rw [show delMN M k n = M n from if_neg (fun h => e h.symm)]
      omega
/-- Block m is a map of places below n that has these spans. -/
def NumAt (w : World) (m n : Nat) (M : Nat → Option Nat) : Prop :=
  (∃ D : DataW Unit, w.ownsMap Tryz.prog 3 numElem m n D ∧ Maps.size D = cntMN M n ∧ ∀ k : Nat, Maps.has D (.int .i64 (k : Int)) = (M k).isSome ∧ D.atKey (.int .i64 (k : Int)) (numD 0) = numD ((M k).getD 0))
section
variable {w w' : World} {m n : Nat} {M : Nat → Option Nat}
theorem NumAt.drew (h : NumAt w m n M) : NumAt w.drew m n M := h
theorem NumAt.lt (h : NumAt w m n M) : m < w.heap.size := by obtain ⟨D, h, _⟩ := h; exact h.lt
theorem NumAt.heap (h : NumAt w m n M) (he : w'.heap[m]? = w.heap[m]?) : NumAt w' m n M := by
  obtain ⟨D, ⟨es, clock, h1, h2, h3, h4⟩, h5⟩ := h
  exact ⟨D, ⟨es, clock, he.trans h1, h2, h3, h4⟩, h5⟩
theorem NumAt.kept {S : List Nat} (h : NumAt w m n M) (hk : Kept w w' S) (hs : m ∉ S) : NumAt w' m n M := h.heap (hk.block m h.lt hs)
theorem fit_noneN : WideElems.Fit Tryz.prog 3 numElem #[] 0 := by
  obtain ⟨es, clock, h1, h2, _⟩ := World.ownsMap_made (default : World) Tryz.prog 3 numElem
  rw [heap_alloc_new] at h1
  injection h1 with h1
  injection h1 with h1 h3
  subst h1 h3
  exact h2
theorem cntMN_none (n : Nat) : cntMN (fun _ => none) n = 0 := by
  induction n with
  | zero => rfl
  | succ n ih => unfold cntMN; rw [ih]; rfl
theorem NumAt.none_ (h : w.heap[m]? = some (.map #[] 0)) (n : Nat) : NumAt w m n (fun _ => none) :=
  ⟨.map [], ⟨#[], 0, h, fit_noneN, Nat.zero_le _, by simp⟩, by rw [cntMN_none]; rfl, fun k => ⟨rfl, rfl⟩⟩
theorem own_fitN {k : TypeId} {R : Value → Option (DataW Unit × List MemPlace)} {b c : Nat} {D : DataW Unit} (h : w.ownsMap Tryz.prog k R b c D) {c' : Nat} (hc : Maps.size D ≤ c') : w.ownsMap Tryz.prog k R b c' D := by
  obtain ⟨es, clock, h1, h2, h3, rfl⟩ := h
  refine ⟨es, clock, h1, h2, ?_, rfl⟩
  have := length_read (P := Tryz.prog) (k := k) (R0 := R) es
  unfold Maps.size at hc
  simp only [this] at hc
  exact hc
theorem int_mapN : Maps.Keyed Tryz.prog 3 := Maps.int_keyed Tryz.underlying3
theorem map_typeN : Tryz.prog.underlying 57 = some (.map 3 3) := Tryz.underlying57
theorem num_zero (w : World) : (zeroValue 3).run Tryz.prog w = .ok (valN 0) w := Tryz.zeroValue3 w
theorem NumAt.look (h : NumAt w m n M) {k : Nat} (hk : k ≤ 100000000) : (Instr.lookup 57 (.map (some m)) (.int .i64 (k : Int)) false).run Tryz.prog w = .ok (valN ((M k).getD 0)) w := by
  obtain ⟨D, h1, _, h2⟩ := h
  obtain ⟨v, ps, hrun, hv⟩ := h1.lookup int_mapN map_typeN (num_zero w) (numElem_mk 0) (Maps.keyOf_int_mk Tryz.underlying3 (key_wfN hk))
  obtain ⟨s, rfl, hz⟩ := numElem_inv hv
  rw [(h2 k).2] at hz
  rw [hrun, numD_inj (congrArg Prod.fst hz)]
theorem NumAt.look_ok (h : NumAt w m n M) {k : Nat} (hk : k ≤ 100000000) : (Instr.lookup 57 (.map (some m)) (.int .i64 (k : Int)) true).run Tryz.prog w = .ok (.tuple #[valN ((M k).getD 0), .bool (M k).isSome]) w := by
  obtain ⟨D, h1, _, h2⟩ := h
  obtain ⟨v, ps, hrun, hv⟩ := h1.look_ok int_mapN map_typeN (num_zero w) (numElem_mk 0) (Maps.keyOf_int_mk Tryz.underlying3 (key_wfN hk))
  obtain ⟨s, rfl, hz⟩ := numElem_inv hv
  rw [(h2 k).2] at hz
  rw [hrun, (h2 k).1, numD_inj (congrArg Prod.fst hz)]
set_option maxRecDepth 100000 in
theorem NumAt.store (h : NumAt w m n M) {k : Nat} (hk : k < n) (hc : n ≤ 100000000) (s : Nat) : ∃ w', (Instr.mapUpdate 57 (.map (some m)) (.int .i64 (k : Int)) (valN s)).run Tryz.prog w = .ok () w' ∧ NumAt w' m n (putMN M k s) ∧ w.mapTurned w' m := by
  obtain ⟨D, h1, hsz, h2⟩ := h
  have hl : WideAt.IsKeyLit (.int .i64 (k : Int)) := trivial
  have htd := h1.tidy int_mapN
  obtain ⟨w', hrun, h3, h4⟩ := h1.store int_mapN map_typeN (by unfold maxLen; omega) (Maps.keyOf_int_mk Tryz.underlying3 (key_wfN (k := k) (by omega))) (numElem_mk s)
  have hsz2 : Maps.size (D.put (.int .i64 (k : Int)) (numD s)) = cntMN (putMN M k s) n := by
    rw [Maps.size_put htd, (h2 k).1, hsz, cntMN_put hk]
  refine ⟨w', hrun, ⟨_, own_fitN h3 (by rw [hsz2]; exact cntMN_le _ _), hsz2, fun j => ?_⟩, h4⟩
  unfold putMN
  by_cases e : j = k
  · subst e
    rw [if_pos rfl]
    exact ⟨Maps.has_put_same h1.isMap hl _, Maps.atKey_put_same h1.isMap hl _ _⟩
  · rw [if_neg e]
    have hne : (Lit.int .i64 (j : Int)) ≠ .int .i64 (k : Int) := fun e9 => e (by have := (Lit.int.inj e9).2; omega)
    exact ⟨(Maps.has_put_other hne _).trans (h2 j).1, (Maps.atKey_put_other hne _ _).trans (h2 j).2⟩
set_option maxRecDepth 100000 in
theorem NumAt.drop (h : NumAt w m n M) {k : Nat} (hk : k < n) (hc : n ≤ 100000000) (ty : TypeId) : ∃ w', (Builtin.delete_ #[57, 3] ty #[.map (some m), .int .i64 (k : Int)]).run Tryz.prog w = .ok (.tuple #[]) w' ∧ NumAt w' m n (delMN M k) ∧ w.mapTurned w' m := by
  obtain ⟨D, h1, hsz, h2⟩ := h
  have htd := h1.tidy int_mapN
  obtain ⟨w', hrun, h3, h4⟩ := h1.drop int_mapN map_typeN (Maps.keyOf_int_mk Tryz.underlying3 (key_wfN (k := k) (by omega))) ty
  have hsz2 : Maps.size (D.del (.int .i64 (k : Int))) = cntMN (delMN M k) n := by
    have e1 := Maps.size_del (k := .int .i64 (k : Int)) htd
    have e2 := cntMN_del (M := M) hk
    rw [(h2 k).1] at e1
    omega
  refine ⟨w', hrun, ⟨_, h3, hsz2, fun j => ?_⟩, h4⟩
  unfold delMN
  by_cases e : j = k
  · subst e
    rw [if_pos rfl]
    exact ⟨Maps.has_del_same, Maps.atKey_del_same _⟩
  · rw [if_neg e]
    have hne : (Lit.int .i64 (j : Int)) ≠ .int .i64 (k : Int) := fun e9 => e (by have := (Lit.int.inj e9).2; omega)
    exact ⟨(Maps.has_del_other hne).trans (h2 j).1, (Maps.atKey_del_other hne _).trans (h2 j).2⟩
theorem kept_turnedN (h : w.mapTurned w' m) : Kept w w' [m] := Kept.of_grown h.grown (List.mem_singleton_self _)
end
end Go.Proofs.YtpddjojgcenlkaaGreat
/- A stack of levels in memory: the block's cells, what a store leaves. No function of the program. -/
namespace Go.Proofs.YtpddjojgcenlkaaGreat
open Go.RowKit

def entV (e : Ent) : Value := .agg #[.int .i64 e.lv, .int .i64 e.ov, .bool e.is]
namespace Stk
theorem all_at {s : Stk} {k : Nat} {e : Ent} (h : s.all[k]? = some e) : k < s.len := by
  have := (List.getElem?_eq_some_iff.1 h).1
  simp [Stk.all] at this
  unfold Stk.len
  omega
theorem all_top (s : Stk) : s.all[s.R.length]? = some s.top := by
  unfold Stk.all Stk.top
  cases h : s.R with
  | nil => simp
  | cons e R => simp
end Stk
/-- The cells of a stack. -/
structure CsOf (cs : Array Value) (s : Stk) : Prop where
  sz : cs.size = 382
  a : cs[0]? = some (.int .i64 (s.a : Int))
  b : cs[1]? = some (.int .i64 (s.b : Int))
  c : cs[2]? = some (.int .i64 (s.c : Int))
  n : cs[381]? = some (.int .i64 ((s.R.length : Int) + 1))
  e : ∀ k e, s.all[k]? = some e → cs[3 + k * 3]? = some (.int .i64 e.lv) ∧ cs[3 + k * 3 + 1]? = some (.int .i64 e.ov) ∧ cs[3 + k * 3 + 2]? = some (.bool e.is)
section
variable {cs : Array Value} {s : Stk}
theorem aset_ne {i j : Nat} {v : Value} (h : i ≠ j) : (cs.setIfInBounds i v)[j]? = cs[j]? := by rw [Array.getElem?_setIfInBounds, if_neg h]
theorem aset_eq {i : Nat} {v : Value} (h : i < cs.size) : (cs.setIfInBounds i v)[i]? = some v := by rw [Array.getElem?_setIfInBounds, if_pos rfl, if_pos h]
theorem CsOf.setA (h : CsOf cs s) (x : Nat) : CsOf (cs.setIfInBounds 0 (.int .i64 (x : Int))) { s with a := x } :=
  ⟨by simp [h.sz], aset_eq (by rw [h.sz]; omega), by rw [aset_ne (by omega)]; exact h.b, by rw [aset_ne (by omega)]; exact h.c, by rw [aset_ne (by omega)]; exact h.n, fun k e he => by
    rw [aset_ne (by omega), aset_ne (by omega), aset_ne (by omega)]; exact h.e k e he⟩
theorem CsOf.setB (h : CsOf cs s) (x : Nat) : CsOf (cs.setIfInBounds 1 (.int .i64 (x : Int))) { s with b := x } :=
  ⟨by simp [h.sz], by rw [aset_ne (by omega)]; exact h.a, aset_eq (by rw [h.sz]; omega), by rw [aset_ne (by omega)]; exact h.c, by rw [aset_ne (by omega)]; exact h.n, fun k e he => by
    rw [aset_ne (by omega), aset_ne (by omega), aset_ne (by omega)]; exact h.e k e he⟩
theorem CsOf.setC (h : CsOf cs s) (x : Nat) : CsOf (cs.setIfInBounds 2 (.int .i64 (x : Int))) { s with c := x } :=
  ⟨by simp [h.sz], by rw [aset_ne (by omega)]; exact h.a, by rw [aset_ne (by omega)]; exact h.b, aset_eq (by rw [h.sz]; omega), by rw [aset_ne (by omega)]; exact h.n, fun k e he => by
    rw [aset_ne (by omega), aset_ne (by omega), aset_ne (by omega)]; exact h.e k e he⟩
theorem CsOf.pop (h : CsOf cs s) (hr : s.len ≤ 126) {x : Ent} {R : List Ent} (hR : s.R = x :: R) : CsOf (cs.setIfInBounds 381 (.int .i64 ((R.length : Int) + 1))) { s with R := R } :=
  ⟨by simp [h.sz], by rw [aset_ne (by omega)]; exact h.a, by rw [aset_ne (by omega)]; exact h.b, by rw [aset_ne (by omega)]; exact h.c, aset_eq (by rw [h.sz]; omega), fun k e he => by
    have hk := Stk.all_at he
    simp only [Stk.len] at hk hr
    rw [hR, List.length_cons] at hr
    rw [aset_ne (by omega), aset_ne (by omega), aset_ne (by omega)]
    refine h.e k e ?_
    unfold Stk.all at he ⊢
    rw [hR, List.reverse_cons, ← List.cons_append, List.getElem?_append_left (by simp; omega)]
    exact he⟩
theorem CsOf.put (h : CsOf cs s) (hr : s.len ≤ 125) (x : Ent) : CsOf ((((cs.setIfInBounds (3 + (s.R.length + 1) * 3) (.int .i64 x.lv)).setIfInBounds (3 + (s.R.length + 1) * 3 + 1) (.int .i64 x.ov)).setIfInBounds (3 + (s.R.length + 1) * 3 + 2) (.bool x.is)).setIfInBounds 381 (.int .i64 ((s.R.length : Int) + 1 + 1))) { s with R := x :: s.R } := by
  unfold Stk.len at hr
  refine ⟨by simp [h.sz], ?_, ?_, ?_, ?_, fun k e he => ?_⟩
  · rw [aset_ne (by omega), aset_ne (by omega), aset_ne (by omega), aset_ne (by omega)]; exact h.a
  · rw [aset_ne (by omega), aset_ne (by omega), aset_ne (by omega), aset_ne (by omega)]; exact h.b
  · rw [aset_ne (by omega), aset_ne (by omega), aset_ne (by omega), aset_ne (by omega)]; exact h.c
  · rw [aset_eq (by simp [h.sz])]; simp
  · have hk := Stk.all_at he
    simp only [Stk.len, List.length_cons] at hk
    have hs := h.sz
    by_cases hlt : k < s.R.length + 1
    · have he' : s.all[k]? = some e := by
        unfold Stk.all at he ⊢
        rw [List.reverse_cons, ← List.cons_append, List.getElem?_append_left (by simp; omega)] at he
        exact he
      have := h.e k e he'
      rw [aset_ne (by omega), aset_ne (by omega), aset_ne (by omega), aset_ne (by omega), aset_ne (by omega), aset_ne (by omega), aset_ne (by omega), aset_ne (by omega), aset_ne (by omega), aset_ne (by omega), aset_ne (by omega), aset_ne (by omega)]
      exact this
    · obtain rfl : k = s.R.length + 1 := by omega
      have hx : e = x := by
        unfold Stk.all at he
        rw [List.reverse_cons, ← List.cons_append, List.getElem?_append_right (by simp)] at he
        simpa using he.symm
      subst hx
      refine ⟨?_, ?_, ?_⟩
      · rw [aset_ne (by omega), aset_ne (by omega), aset_ne (by omega)]; exact aset_eq (by omega)
      · rw [aset_ne (by omega), aset_ne (by omega)]; exact aset_eq (by simp; omega)
      · rw [aset_ne (by omega)]; exact aset_eq (by simp; omega)
end
/-- A stack in block b. -/
structure StkAt (w : World) (b : Nat) (s : Stk) : Prop where
  hp : ∃ cs : Array Value, w.heap[b]? = some (.cells cs 75 (0, 0)) ∧ CsOf cs s
  ris : Rises s
section
variable {w w' : World} {b : Nat} {s : Stk}
theorem StkAt.lt (h : StkAt w b s) : b < w.heap.size := by obtain ⟨cs, h1, _⟩ := h.hp; exact hp_lt h1
theorem StkAt.keep {S : List Nat} (h : StkAt w b s) (hk : Kept w w' S) (hb : b ∉ S) : StkAt w' b s := by
  obtain ⟨cs, h1, h2⟩ := h.hp
  exact ⟨⟨cs, hk.heap h1 hb, h2⟩, h.ris⟩
theorem StkAt.low (h : StkAt w b s) (hb : Below w.heap.size w w') : StkAt w' b s := h.keep (Kept.of_below hb []) (by simp)
theorem StkAt.froz (h : StkAt w b s) (j : Nat) : w.frozen? ⟨b, j, none⟩ = false := by obtain ⟨cs, h1, _⟩ := h.hp; exact hp_froz h1 j
theorem StkAt.ca (h : StkAt w b s) : w.cell? ⟨b, 0, none⟩ = some (.int .i64 (s.a : Int)) := by obtain ⟨cs, h1, h2⟩ := h.hp; exact hp_cell h1 h2.a
theorem StkAt.cb (h : StkAt w b s) : w.cell? ⟨b, 1, none⟩ = some (.int .i64 (s.b : Int)) := by obtain ⟨cs, h1, h2⟩ := h.hp; exact hp_cell h1 h2.b
theorem StkAt.cc (h : StkAt w b s) : w.cell? ⟨b, 2, none⟩ = some (.int .i64 (s.c : Int)) := by obtain ⟨cs, h1, h2⟩ := h.hp; exact hp_cell h1 h2.c
theorem StkAt.cn (h : StkAt w b s) : w.cell? ⟨b, 381, none⟩ = some (.int .i64 ((s.R.length : Int) + 1)) := by obtain ⟨cs, h1, h2⟩ := h.hp; exact hp_cell h1 h2.n
theorem StkAt.ct (h : StkAt w b s) : w.cell? ⟨b, 3 + s.R.length * 3, none⟩ = some (.int .i64 s.top.lv) ∧ w.cell? ⟨b, 3 + s.R.length * 3 + 1, none⟩ = some (.int .i64 s.top.ov) ∧ w.cell? ⟨b, 3 + s.R.length * 3 + 2, none⟩ = some (.bool s.top.is) := by
  obtain ⟨cs, h1, h2⟩ := h.hp
  have := h2.e _ _ s.all_top
  exact ⟨hp_cell h1 this.1, hp_cell h1 this.2.1, hp_cell h1 this.2.2⟩
/-- The cells of the next entry are there. -/
theorem StkAt.room (h : StkAt w b s) {j : Nat} (hj : j < 382) : ∃ u, w.cell? ⟨b, j, none⟩ = some u := by
  obtain ⟨cs, h1, h2⟩ := h.hp
  exact ⟨_, hp_cell h1 (Array.getElem?_eq_getElem (by rw [h2.sz]; exact hj))⟩
theorem StkAt.setA (h : StkAt w b s) (x : Nat) : StkAt (w.setCell ⟨b, 0, none⟩ (.int .i64 (x : Int))) b { s with a := x } := by
  obtain ⟨cs, h1, h2⟩ := h.hp
  exact ⟨⟨_, heap_setCell_same w b 0 _ _ _ h1, h2.setA x⟩, h.ris⟩
theorem StkAt.setB (h : StkAt w b s) (x : Nat) : StkAt (w.setCell ⟨b, 1, none⟩ (.int .i64 (x : Int))) b { s with b := x } := by
  obtain ⟨cs, h1, h2⟩ := h.hp
  exact ⟨⟨_, heap_setCell_same w b 1 _ _ _ h1, h2.setB x⟩, h.ris⟩
theorem StkAt.setC (h : StkAt w b s) (x : Nat) : StkAt (w.setCell ⟨b, 2, none⟩ (.int .i64 (x : Int))) b { s with c := x } := by
  obtain ⟨cs, h1, h2⟩ := h.hp
  exact ⟨⟨_, heap_setCell_same w b 2 _ _ _ h1, h2.setC x⟩, h.ris⟩
theorem StkAt.pop (h : StkAt w b s) {x : Ent} {R : List Ent} (hR : s.R = x :: R) : StkAt (w.setCell ⟨b, 381, none⟩ (.int .i64 ((R.length : Int) + 1))) b { s with R := R } := by
  obtain ⟨cs, h1, h2⟩ := h.hp
  refine ⟨⟨_, heap_setCell_same w b 381 _ _ _ h1, h2.pop h.ris.len hR⟩, ?_⟩
  have := (near_pop h.ris).2.1
  unfold popS at this
  rw [if_neg (by rw [hR]; simp), hR] at this
  exact this
theorem StkAt.put (h : StkAt w b s) {x : Ent} (hx : s.top.lv < x.lv) (hx2 : x.lv ≤ 125)   : StkAt ((((w.setCell ⟨b, 3 + (s.R.length + 1) * 3, none⟩ (.int .i64 x.lv)).setCell ⟨b, 3 + (s.R.length + 1) * 3 + 1, none⟩ (.int .i64 x.ov)).setCell ⟨b, 3 + (s.R.length + 1) * 3 + 2, none⟩ (.bool x.is)).setCell ⟨b, 381, none⟩ (.int .i64 ((s.R.length : Int) + 1 + 1))) b { s with R := x :: s.R } := by
  obtain ⟨cs, h1, h2⟩ := h.hp
  have hr := h.ris.put hx hx2 (a := s.a) (b := s.b) (c := s.c)
  have hl := hr.len
  simp only [Stk.len, List.length_cons] at hl
  have g1 := heap_setCell_same w b (3 + (s.R.length + 1) * 3) _ _ (.int .i64 x.lv) h1
  have g2 := heap_setCell_same _ b (3 + (s.R.length + 1) * 3 + 1) _ _ (.int .i64 x.ov) g1
  have g3 := heap_setCell_same _ b (3 + (s.R.length + 1) * 3 + 2) _ _ (.bool x.is) g2
  have g4 := heap_setCell_same _ b 381 _ _ (.int .i64 ((s.R.length : Int) + 1 + 1)) g3
  exact ⟨⟨_, g4, h2.put (by unfold Stk.len; omega) x⟩, hr⟩
theorem StkAt.drew (h : StkAt w b s) : StkAt w.drew b s := ⟨h.hp, h.ris⟩
theorem StkAt.fits (h : StkAt w b s) : 0 ≤ s.top.lv ∧ s.top.lv ≤ 125 ∧ s.R.length < 126 := by
  have h1 := h.ris.top
  have h2 := h.ris.len
  have h3 := h.ris.2.2
  unfold Stk.len at h2
  omega
end
end Go.Proofs.YtpddjojgcenlkaaGreat
/- stack's made, Top, Len, Next, fit, Over, walked. -/
namespace Go.Proofs.YtpddjojgcenlkaaGreat
open Go.RowKit

set_option maxRecDepth 100000 in
theorem stkMade_any (b : Nat) (s : Stk) (w : World) (h : StkAt w b s) : Calls Tryz.prog 66 #[.pointer (some ⟨b, 0, none⟩)] w fun e w' => e = .returned (.bool true) ∧ w = w' := by
  have cn := h.cn
  have hb := h.fits
  clear h
  go_enter Tryz.func66, Tryz.ntmps66
  go_wp2
  go_ret
  exact ⟨by simp, rfl⟩
set_option maxRecDepth 100000 in
theorem stkFit_any (b : Nat) (s : Stk) (w : World) (h : StkAt w b s) : Calls Tryz.prog 87 #[.pointer (some ⟨b, 0, none⟩)] w fun e w' => e = .returned (.bool (decide (s.a = 0) && decide (s.b = 0))) ∧ w = w' := by
  have ca := h.ca
  have cb := h.cb
  clear h
  by_cases ha : s.a = 0
  · have ha' : (s.a : Int) = 0 := by omega
    rw [ha'] at ca
    go_enter Tryz.func87, Tryz.ntmps87
    go_wp2
    go_ret
    exact ⟨by simp [ha]; rw [Bool.eq_iff_iff]; simp, rfl⟩
  · have ha' : ((s.a : Int) == 0) = false := by simp; omega
    have ha2 : ¬ (s.a : Int) = 0 := by omega
    go_enter Tryz.func87, Tryz.ntmps87
    go_wp2
    go_ret
    exact ⟨by simp [ha], rfl⟩
set_option maxRecDepth 100000 in
theorem stkLen_any (b : Nat) (s : Stk) (w : World) (h : StkAt w b s) : Calls Tryz.prog 90 #[.pointer (some ⟨b, 0, none⟩)] w fun e w' => e = .returned (.int .i64 ((s.R.length : Int) + 1)) ∧ w = w' := by
  have cn := h.cn
  have HM := Lib.hid (stkMade_any b s w h)
  clear h
  go_enter Tryz.func90, Tryz.ntmps90
  go_wp2_with fail
  refine HM.out.mono ?_
  rintro e w1 ⟨rfl, rfl⟩
  go_wp2
  go_ret
  exact ⟨rfl, rfl⟩
set_option maxRecDepth 100000 in
theorem stkTop_any (b : Nat) (s : Stk) (w : World) (h : StkAt w b s) : Calls Tryz.prog 39 #[.pointer (some ⟨b, 0, none⟩)] w fun e w' => e = .returned (entV s.top) ∧ Below w.heap.size w w' := by
  have hbl := below_new w (.cells #[.int .i64 0, .int .i64 0, .bool false] 72)
  have h1 := h.low hbl
  have HB := Lib.hid hbl
  have HM := Lib.hid (stkMade_any b s _ h1)
  have cn := h1.cn
  have ct := h1.ct
  obtain ⟨ct0, ct1, ct2⟩ := ct
  have hf := h.fits
  have hr : (s.R.length : Int) < 126 := by omega
  have hb := h.lt
  obtain ⟨r, hr⟩ : ∃ r, s.R.length = r := ⟨_, rfl⟩
  rw [hr] at *
  clear h h1 hbl
  go_enter Tryz.func39, Tryz.ntmps39
  go_wp2_with fail
  refine HM.out.mono ?_
  rintro e w1 ⟨rfl, rfl⟩
  go_wp2
  go_region
  all_goals go_wp2
  all_goals refine bodyPost_ret (v := .agg #[.int .i64 s.top.lv, .int .i64 s.top.ov, .bool s.top.is]) (results_cell_row rfl _ _ w.heap.size 72 #[.int .i64 s.top.lv, .int .i64 s.top.ov, .bool s.top.is] (0, 0) _ rfl (heap_alloc_new w _) Tryz.underlying72 rfl (by kernel_rfl)) rfl ?_
  all_goals exact ⟨rfl, below_drew (below_new w _) 1⟩
theorem ent_lv (x y : Int) (z : Bool) (w : World) : (Instr.field 72 (.agg #[.int .i64 x, .int .i64 y, .bool z]) 0).run Tryz.prog w = .ok (.int .i64 x) w := by kernel_rfl
theorem ent_ov (x y : Int) (z : Bool) (w : World) : (Instr.field 72 (.agg #[.int .i64 x, .int .i64 y, .bool z]) 1).run Tryz.prog w = .ok (.int .i64 y) w := by kernel_rfl
theorem ent_is (x y : Int) (z : Bool) (w : World) : (Instr.field 72 (.agg #[.int .i64 x, .int .i64 y, .bool z]) 2).run Tryz.prog w = .ok (.bool z) w := by kernel_rfl
/-- The next level, as the program reckons it. -/
theorem bits_next : ∀ n : Fin 131, bits .or .i64 ((n.val : Int) + 1) 1 = nextN (n.val : Int) true ∧ bits .andNot .i64 ((n.val : Int) + 2) 1 = nextN (n.val : Int) false := by decide +kernel
theorem bits_nextN {x : Int} (h0 : 0 ≤ x) (h1 : x ≤ 125) : bits .or .i64 (x + 1) 1 = nextN x true ∧ bits .andNot .i64 (x + 2) 1 = nextN x false := by
  have := bits_next ⟨x.toNat, by omega⟩
  simp only [Int.toNat_of_nonneg h0] at this
  exact this
set_option maxRecDepth 100000 in
theorem stkNext_any (b : Nat) (s : Stk) (r : Bool) (w : World) (h : StkAt w b s) : Calls Tryz.prog 69 #[.pointer (some ⟨b, 0, none⟩), .bool r] w fun e w' => e = .returned (.int .i64 (nextS s r)) ∧ Below w.heap.size w w' := by
  have HT := Lib.hid (stkTop_any b s w h)
  obtain ⟨h0, h1, _⟩ := h.fits
  have HN := Lib.hid (bits_nextN h0 h1)
  have fd := ent_lv s.top.lv s.top.ov s.top.is
  clear h
  unfold nextS
  cases r
  · go_enter Tryz.func69, Tryz.ntmps69
    go_wp2_with fail
    refine HT.out.mono ?_
    rintro e w1 ⟨rfl, hb⟩
    unfold entV
    go_wp2
    rw [HN.out.2]
    go_ret
    exact ⟨rfl, hb⟩
  · go_enter Tryz.func69, Tryz.ntmps69
    go_wp2_with fail
    refine HT.out.mono ?_
    rintro e w1 ⟨rfl, hb⟩
    unfold entV
    go_wp2
    rw [HN.out.1]
    go_ret
    exact ⟨rfl, hb⟩
set_option maxRecDepth 100000 in
theorem stkOver_any (b : Nat) (s : Stk) (w : World) (h : StkAt w b s) : Calls Tryz.prog 89 #[.pointer (some ⟨b, 0, none⟩)] w fun e w' => e = .returned (.tuple #[.int .i64 (s.a : Int), .int .i64 (s.b : Int), .int .i64 (s.c : Int)]) ∧ Below w.heap.size w w' := by
  have HM := Lib.hid (stkMade_any b s w h)
  have ca := h.ca
  have cb := h.cb
  have cc := h.cc
  clear h
  go_enter Tryz.func89, Tryz.ntmps89
  go_wp2_with fail
  refine HM.out.mono ?_
  rintro e w1 ⟨rfl, rfl⟩
  go_wp2
  go_region
  all_goals go_wp2
  all_goals refine bodyPost_ret (v := .tuple #[.int .i64 (s.a : Int), .int .i64 (s.b : Int), .int .i64 (s.c : Int)]) (by simp [results, go_sem]) rfl ?_
  all_goals exact ⟨rfl, below_drew (Below.refl _ _) 1⟩
end Go.Proofs.YtpddjojgcenlkaaGreat
/- append onto a row of the call's own: the old row keeps what it had, wherever the new one lies. -/
namespace Go.Proofs.YtpddjojgcenlkaaGreat
open Go.RowKit

theorem run_appK {P : Program} (w : World) (t ty : TypeId) {base : Nat} {e : TypeId} {size bytes : Nat} (S : SliceOf P t e size bytes) (hsz : 0 < size)
    (v : Value) (n : Nat) (hn0 : 0 < n) (xs : List Value) (hown : w.ownsRow base e size v n xs)
    (ad : Addr) (m c : Nat) (news : List Value) (hr : Rd w size (some ad) m news) (h1 : ∀ u ∈ news, u.oneCell' = true)
    (hbytes : (n + m) * bytes ≤ 140737488355328) (h63 : n + m ≤ maxLen) (hbase : base ≤ w.heap.size) :
    ∃ v' w', (Builtin.append_ #[t, t] ty #[v, .slice (some ad) m c]).run P w = .ok v' w' ∧ w'.ownsRow base e size v' (n + m) (xs ++ news) ∧ w.grownBy w' v.ownBlock ∧ (v'.ownBlock = v.ownBlock ∨ (v'.ownBlock = some w.heap.size ∧ Below w.heap.size w w')) := by
  obtain ⟨ht, i, z, hi, hz, hs1, hb1, hzs⟩ := S
  obtain ⟨v', w', hrun, h2, h3, _, h5⟩ := run_append_own_at (P := P) w base t ty e i z size bytes ht hi hz hs1 hb1 hzs hsz v n xs hown ad m c news hr.1 hr.news h1 h63 hbytes hbase
  refine ⟨v', w', hrun, h2, h3, ?_⟩
  rcases h5 with h5 | h5
  · exact .inl h5
  · rcases hown.2 with ⟨rfl, hn⟩ | ⟨g, cap, cur, rfl, hbg, hg, hnc, hcm, hcs, htake⟩
    · omega
    · by_cases hroom : n + m ≤ cap
      · have hl : news.length = m * i.size := by rw [hs1]; exact hr.1
        have hfit : n * i.size + news.length ≤ cur.size := by rw [hl, hcs, hs1, ← Nat.add_mul]; exact Nat.mul_le_mul_right _ hroom
        have hr2 := run_append_room (P := P) w t ty e i ht hi g n cap cur hg ad m c news hl hr.news h1 hroom hfit
        rw [hr2] at hrun
        injection hrun with e1 e2
        subst e1
        exact .inl rfl
      · have hlo : xs.length = n * i.size := by rw [hs1]; exact hown.1
        have hl : news.length = m * i.size := by rw [hs1]; exact hr.1
        have hsmall : n + m ≤ 9223372036854775807 := by simp only [maxLen] at h63; omega
        have hr2 := run_append_grow (P := P) w t ty e i z ht hi hz ⟨g, 0, none⟩ n cap xs hlo (hown.cells (g := g) rfl) ad m c news hl hr.news (by omega) (by omega) (growslice_fits (by omega) (by rw [hb1]; exact hbytes))
        rw [hr2] at hrun
        injection hrun with e1 e2
        refine .inr ⟨h5, ?_⟩
        rw [← e2]
        exact (Below.refl w.heap.size w).drew.alloc (Nat.le_refl _) _
/-- append onto a row with elements, the source any slice with an address. -/
theorem wpList_appK {P : Program} {w : World} {ops : Array Oper} {rest : List Oper} {o : Oper} {a : Act} {Q : Exit → Act → World → Prop} (hgd : o.guard = none) (s x : Operand) (t : TypeId)
    (ho : o.op = .call { callee := .builtin .append, args := #[s, x], argTypes := #[t, t] })
    {base : Nat} {e : TypeId} {size bytes : Nat} (S : SliceOf P t e size bytes) (hsz : 0 < size)
    (v : Value) (n : Nat) (hn0 : 0 < n) (xs : List Value) (hs : a.eval s = v) (hown : w.ownsRow base e size v n xs)
    (ad : Addr) (m c : Nat) (news : List Value) (hx : a.eval x = .slice (some ad) m c) (hr : Rd w size (some ad) m news) (h1 : ∀ u ∈ news, u.oneCell' = true)
    (hbytes : (n + m) * bytes ≤ 140737488355328) (h63 : n + m ≤ maxLen) (hbase : base ≤ w.heap.size)
    (h : ∀ v' w', w'.ownsRow base e size v' (n + m) (xs ++ news) → w.grownBy w' v.ownBlock → (v'.ownBlock = v.ownBlock ∨ (v'.ownBlock = some w.heap.size ∧ Below w.heap.size w w')) → wpList P ops Q rest (a.put o.dst v') w') :
    wpList P ops Q (o :: rest) a w := by
  obtain ⟨v', w', hrun, h2, h3, h5⟩ := run_appK (P := P) w t o.type S hsz v n hn0 xs hown ad m c news hr h1 hbytes h63 hbase
  refine wpList_plain hgd fun K hK => ?_
  unfold Oper.wp execOp
  simp only [ho, resolve, invoke, builtin, Sem.run_bind, Sem.run_pure, Result.andThen_ok, List.map_toArray, List.map_cons, List.map_nil, hs, hx, hrun]
  exact hK _ _ (h v' w' h2 h3 h5)
end Go.Proofs.YtpddjojgcenlkaaGreat
