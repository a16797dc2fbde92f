/- Weak classes as mathematics: the seven steps from left to right, what is gone behind them, that a strong one parts, and stays. No function of the program. -/
import Derived.Test.YtnmpoipakmjbpaaMem
namespace Go.Proofs.Ytnmpoipakmjbpaa
open Go.RowKit

def nk1 (p c : Int) : Int := if c = 8 then (if 19 ≤ p ∧ p ≤ 22 then 13 else p) else c
def wk1 : Int → List Int → List Int
  | _, [] => []
  | p, c :: l => nk1 p c :: wk1 (nk1 p c) l
/-- The last strong one ahead (AL among them). -/
def sk2 (p c : Int) : Int := if c = 0 ∨ c = 1 ∨ c = 2 then c else p
def nk2 (p c : Int) : Int := if c = 3 ∧ p = 2 then 6 else c
def wk2 : Int → List Int → List Int
  | _, [] => []
  | p, c :: l => nk2 p c :: wk2 (sk2 p c) l
def nk3 (c : Int) : Int := if c = 2 then 1 else c
def wk3 (l : List Int) : List Int := l.map nk3
def nk4 (a c b : Int) : Int := if c = 4 ∧ a = 3 ∧ b = 3 then 3 else if c = 7 ∧ a = b ∧ (a = 3 ∨ a = 6) then a else c
/-- Behind place a. -/
def wk4g : Int → List Int → List Int
  | _, [] => []
  | _, [c] => [c]
  | a, c :: d :: l => nk4 a c d :: wk4g (nk4 a c d) (d :: l)
def wk4 : List Int → List Int
  | [] => []
  | c :: l => c :: wk4g c l
/-- Whether what is behind a row of ET is an EN. -/
def fwdE : List Int → Bool
  | [] => false
  | c :: l => if c = 5 then fwdE l else decide (c = 3)
def sk5 (p : Bool) (c : Int) : Bool := if c = 5 then p else decide (c = 3)
def nk5 (p q : Bool) (c : Int) : Int := if c = 5 ∧ (p || q) = true then 3 else c
def wk5 : Bool → List Int → List Int
  | _, [] => []
  | p, c :: l => nk5 p (fwdE l) c :: wk5 (sk5 p c) l
def nk6 (c : Int) : Int := if c = 4 ∨ c = 5 ∨ c = 7 then 13 else c
def wk6 (l : List Int) : List Int := l.map nk6
def sk7 (p c : Int) : Int := if c = 0 ∨ c = 1 then c else p
def nk7 (p c : Int) : Int := if c = 3 ∧ p = 0 then 0 else c
def wk7 : Int → List Int → List Int
  | _, [] => []
  | p, c :: l => nk7 p c :: wk7 (sk7 p c) l
def wAll (p : Int) (l : List Int) : List Int := wk7 p (wk6 (wk5 false (wk4 (wk3 (wk2 p (wk1 p l))))))

theorem wk1_len : ∀ (p : Int) (l : List Int), (wk1 p l).length = l.length
  | _, [] => rfl
  | p, c :: l => by simp [wk1, wk1_len _ l]
theorem wk2_len : ∀ (p : Int) (l : List Int), (wk2 p l).length = l.length
  | _, [] => rfl
  | p, c :: l => by simp [wk2, wk2_len _ l]
theorem wk3_len (l : List Int) : (wk3 l).length = l.length := by simp [wk3]
theorem wk4g_len : ∀ (a : Int) (l : List Int), (wk4g a l).length = l.length
  | _, [] => rfl
  | _, [c] => rfl
  | a, c :: d :: l => by simp [wk4g, wk4g_len _ (d :: l)]
theorem wk4_len (l : List Int) : (wk4 l).length = l.length := by
  cases l with
  | nil => rfl
  | cons c l => simp [wk4, wk4g_len]
theorem wk5_len : ∀ (p : Bool) (l : List Int), (wk5 p l).length = l.length
  | _, [] => rfl
  | p, c :: l => by simp [wk5, wk5_len _ l]
theorem wk6_len (l : List Int) : (wk6 l).length = l.length := by simp [wk6]
theorem wk7_len : ∀ (p : Int) (l : List Int), (wk7 p l).length = l.length
  | _, [] => rfl
  | p, c :: l => by simp [wk7, wk7_len _ l]
theorem wAll_len (p : Int) (l : List Int) : (wAll p l).length = l.length := by unfold wAll; rw [wk7_len, wk6_len, wk5_len, wk4_len, wk3_len, wk2_len, wk1_len]

theorem mem_wk1 : ∀ {p : Int} {l : List Int} {x : Int}, p ≠ 8 → x ∈ wk1 p l → x ≠ 8
  | _, [], _, _, h => by simp [wk1] at h
  | p, c :: l, x, hp, h => by
    have hn : nk1 p c ≠ 8 := by
      unfold nk1
      split
      · split
        · decide
        · exact hp
      · assumption
    rw [wk1, List.mem_cons] at h
    rcases h with rfl | h
    · exact hn
    · exact mem_wk1 hn h
theorem mem_wk2 : ∀ {p : Int} {l : List Int} {x : Int}, x ∈ wk2 p l → x = 6 ∨ x ∈ l
  | _, [], _, h => by simp [wk2] at h
  | p, c :: l, x, h => by
    rw [wk2, List.mem_cons] at h
    rcases h with rfl | h
    · unfold nk2
      split
      · exact .inl rfl
      · exact .inr (by simp)
    · exact (mem_wk2 h).imp id (by intro k; simp [k])
theorem mem_wk3 {l : List Int} {x : Int} (h : x ∈ wk3 l) : x ≠ 2 ∧ (x = 1 ∨ x ∈ l) := by
  obtain ⟨c, hc, rfl⟩ := List.mem_map.1 h
  unfold nk3
  split
  · exact ⟨by decide, .inl rfl⟩
  · exact ⟨by assumption, .inr hc⟩
theorem nk4_in (a c b : Int) : nk4 a c b = 3 ∨ nk4 a c b = 6 ∨ nk4 a c b = c := by
  unfold nk4
  split
  · exact .inl rfl
  · split
    · rename_i h
      exact h.2.2.imp id .inl
    · exact .inr (.inr rfl)
theorem mem_wk4g : ∀ {a : Int} {l : List Int} {x : Int}, x ∈ wk4g a l → x = 3 ∨ x = 6 ∨ x ∈ l
  | _, [], _, h => by simp [wk4g] at h
  | _, [c], x, h => by simp [wk4g] at h; exact .inr (.inr (by simp [h]))
  | a, c :: d :: l, x, h => by
    rw [wk4g, List.mem_cons] at h
    rcases h with rfl | h
    · exact (nk4_in a c d).imp id (fun h => h.imp id (fun h => by rw [h]; simp))
    · exact (mem_wk4g h).imp id (fun h => h.imp id (fun h => List.mem_cons_of_mem _ h))
theorem mem_wk4 {l : List Int} {x : Int} (h : x ∈ wk4 l) : x = 3 ∨ x = 6 ∨ x ∈ l := by
  cases l with
  | nil => simp [wk4] at h
  | cons c l =>
    rw [wk4, List.mem_cons] at h
    rcases h with rfl | h
    · exact .inr (.inr (by simp))
    · exact (mem_wk4g h).imp id (fun h => h.imp id (fun h => List.mem_cons_of_mem _ h))
theorem mem_wk5 : ∀ {p : Bool} {l : List Int} {x : Int}, x ∈ wk5 p l → x = 3 ∨ x ∈ l
  | _, [], _, h => by simp [wk5] at h
  | p, c :: l, x, h => by
    rw [wk5, List.mem_cons] at h
    rcases h with rfl | h
    · unfold nk5
      split
      · exact .inl rfl
      · exact .inr (by simp)
    · exact (mem_wk5 h).imp id (by intro k; simp [k])
theorem mem_wk6 {l : List Int} {x : Int} (h : x ∈ wk6 l) : (x ≠ 4 ∧ x ≠ 5 ∧ x ≠ 7) ∧ (x = 13 ∨ x ∈ l) := by
  obtain ⟨c, hc, rfl⟩ := List.mem_map.1 h
  unfold nk6
  split
  · exact ⟨by decide, .inl rfl⟩
  · exact ⟨by omega, .inr hc⟩
theorem mem_wk7 : ∀ {p : Int} {l : List Int} {x : Int}, x ∈ wk7 p l → x = 0 ∨ x ∈ l
  | _, [], _, h => by simp [wk7] at h
  | p, c :: l, x, h => by
    rw [wk7, List.mem_cons] at h
    rcases h with rfl | h
    · unfold nk7
      split
      · exact .inl rfl
      · exact .inr (by simp)
    · exact (mem_wk7 h).imp id (by intro k; simp [k])
/-- Behind all steps none of the weak ones is left but digits. -/
theorem all_gone {p : Int} (hp : p ≠ 8) {l : List Int} {x : Int} (h : x ∈ wAll p l) : x ≠ 2 ∧ x ≠ 8 ∧ x ≠ 4 ∧ x ≠ 5 ∧ x ≠ 7 := by
  rcases mem_wk7 h with rfl | h
  · decide
  obtain ⟨⟨h4, h5, h7⟩, h⟩ := mem_wk6 h
  rcases h with rfl | h
  · decide
  rcases mem_wk5 h with rfl | h
  · decide
  rcases mem_wk4 h with rfl | rfl | h
  · decide
  · decide
  obtain ⟨h2, h⟩ := mem_wk3 h
  rcases h with rfl | h
  · decide
  rcases mem_wk2 h with rfl | h
  · decide
  exact ⟨h2, mem_wk1 hp h, h4, h5, h7⟩

section
variable {s : Int} (hs : s = 0 ∨ s = 1)
include hs
theorem wk1_part : ∀ (p : Int) (a b : List Int), wk1 p (a ++ s :: b) = wk1 p a ++ s :: wk1 s b
  | p, [], b => by
    have : nk1 p s = s := by unfold nk1; rw [if_neg (by omega)]
    simp [wk1, this]
  | p, c :: a, b => by simp [wk1, wk1_part _ a b]
theorem wk2_part : ∀ (p : Int) (a b : List Int), wk2 p (a ++ s :: b) = wk2 p a ++ s :: wk2 s b
  | p, [], b => by
    have h1 : nk2 p s = s := by unfold nk2; rw [if_neg (by omega)]
    have h2 : sk2 p s = s := by unfold sk2; rw [if_pos (by omega)]
    simp [wk2, h1, h2]
  | p, c :: a, b => by simp [wk2, wk2_part _ a b]
theorem wk3_part (a b : List Int) : wk3 (a ++ s :: b) = wk3 a ++ s :: wk3 b := by
  have h1 : nk3 s = s := by unfold nk3; rw [if_neg (by omega)]
  simp [wk3, h1]
theorem wk4g_strong (b : List Int) : wk4g s b = wk4 b := by
  match b with
  | [] => rfl
  | [c] => rfl
  | c :: d :: l =>
    have h1 : nk4 s c d = c := by unfold nk4; rw [if_neg (by omega), if_neg (by omega)]
    rw [wk4g, h1]
    rfl
theorem wk4g_at (x : Int) (b : List Int) : wk4g x (s :: b) = s :: wk4 b := by
  match b with
  | [] => rfl
  | d :: l =>
    have h1 : nk4 x s d = s := by unfold nk4; rw [if_neg (by omega), if_neg (by omega)]
    rw [wk4g, h1, wk4g_strong hs]
theorem wk4g_part : ∀ (x : Int) (a b : List Int), wk4g x (a ++ s :: b) = wk4g x a ++ s :: wk4 b
  | x, [], b => by rw [List.nil_append, wk4g_at hs]; rfl
  | x, [c], b => by
    have h1 : nk4 x c s = c := by unfold nk4; rw [if_neg (by omega), if_neg (by omega)]
    show wk4g x (c :: s :: b) = c :: s :: wk4 b
    rw [wk4g, h1, wk4g_at hs]
  | x, c :: d :: a, b => by
    have := wk4g_part (nk4 x c d) (d :: a) b
    show wk4g x (c :: d :: (a ++ s :: b)) = _
    rw [wk4g, wk4g]
    rw [List.cons_append] at this
    rw [this]
    rfl
theorem wk4_part (a b : List Int) : wk4 (a ++ s :: b) = wk4 a ++ s :: wk4 b := by
  cases a with
  | nil => show s :: wk4g s b = s :: wk4 b; rw [wk4g_strong hs]
  | cons c a => show c :: wk4g c (a ++ s :: b) = _; rw [wk4g_part hs]; rfl
theorem fwdE_part : ∀ (a b : List Int), fwdE (a ++ s :: b) = fwdE a
  | [], b => by show fwdE (s :: b) = false; rw [fwdE, if_neg (by omega)]; exact decide_eq_false (by omega)
  | c :: a, b => by
    show fwdE (c :: (a ++ s :: b)) = _
    rw [fwdE, fwdE, fwdE_part a b]
theorem wk5_part : ∀ (p : Bool) (a b : List Int), wk5 p (a ++ s :: b) = wk5 p a ++ s :: wk5 false b
  | p, [], b => by
    have h1 : ∀ q, nk5 p q s = s := fun q => by unfold nk5; rw [if_neg (by omega)]
    have h2 : sk5 p s = false := by unfold sk5; rw [if_neg (by omega)]; exact decide_eq_false (by omega)
    show wk5 p (s :: b) = s :: wk5 false b
    rw [wk5, h1, h2]
  | p, c :: a, b => by
    show wk5 p (c :: (a ++ s :: b)) = _
    rw [wk5, wk5_part _ a b, fwdE_part hs a b]
    rfl
theorem wk6_part (a b : List Int) : wk6 (a ++ s :: b) = wk6 a ++ s :: wk6 b := by
  have h1 : nk6 s = s := by unfold nk6; rw [if_neg (by omega)]
  simp [wk6, h1]
theorem wk7_part : ∀ (p : Int) (a b : List Int), wk7 p (a ++ s :: b) = wk7 p a ++ s :: wk7 s b
  | p, [], b => by
    have h1 : nk7 p s = s := by unfold nk7; rw [if_neg (by omega)]
    have h2 : sk7 p s = s := by unfold sk7; rw [if_pos (by omega)]
    simp [wk7, h1, h2]
  | p, c :: a, b => by simp [wk7, wk7_part _ a b]
/-- A strong one parts what is ahead from what is behind. -/
theorem all_part (p : Int) (a b : List Int) : wAll p (a ++ s :: b) = wAll p a ++ s :: wAll s b := by
  unfold wAll
  rw [wk1_part hs, wk2_part hs, wk3_part hs, wk4_part hs, wk5_part hs, wk6_part hs, wk7_part hs]
end
/-- Strong ones stay; AL becomes R. -/
theorem wk1_keep {j : Nat} {c : Int} (hc : c ≠ 8) : ∀ {p : Int} {l : List Int}, l[j]? = some c → (wk1 p l)[j]? = some c := by
  induction j with
  | zero =>
    intro p l h
    cases l with
    | nil => cases h
    | cons x l =>
      obtain rfl := Option.some.inj h
      rw [wk1, nk1, if_neg hc]
      rfl
  | succ j ih =>
    intro p l h
    cases l with
    | nil => cases h
    | cons x l => rw [wk1, List.getElem?_cons_succ]; exact ih h
theorem wk2_keep {j : Nat} {c : Int} (hc : c ≠ 3) : ∀ {p : Int} {l : List Int}, l[j]? = some c → (wk2 p l)[j]? = some c := by
  induction j with
  | zero =>
    intro p l h
    cases l with
    | nil => cases h
    | cons x l =>
      obtain rfl := Option.some.inj h
      rw [wk2, nk2, if_neg (by omega)]
      rfl
  | succ j ih =>
    intro p l h
    cases l with
    | nil => cases h
    | cons x l => rw [wk2, List.getElem?_cons_succ]; exact ih h
theorem wk3_at {j : Nat} {c : Int} {l : List Int} (h : l[j]? = some c) : (wk3 l)[j]? = some (nk3 c) := by unfold wk3; rw [List.getElem?_map, h]; rfl
theorem wk4g_keep {c : Int} (hc : c ≠ 4 ∧ c ≠ 7) : ∀ {j : Nat} {a : Int} {l : List Int}, l[j]? = some c → (wk4g a l)[j]? = some c
  | j, a, [], h => by cases j <;> cases h
  | j, a, [x], h => by rw [wk4g]; exact h
  | 0, a, x :: y :: l, h => by
    obtain rfl := Option.some.inj h
    rw [wk4g, nk4, if_neg (by omega), if_neg (by omega)]
    rfl
  | j + 1, a, x :: y :: l, h => by
    rw [wk4g, List.getElem?_cons_succ]
    exact wk4g_keep hc (by rwa [List.getElem?_cons_succ] at h)
theorem wk4_keep {j : Nat} {c : Int} {l : List Int} (hc : c ≠ 4 ∧ c ≠ 7) (h : l[j]? = some c) : (wk4 l)[j]? = some c := by
  cases l with
  | nil => cases h
  | cons x l =>
    cases j with
    | zero => exact h
    | succ j => rw [wk4, List.getElem?_cons_succ]; exact wk4g_keep hc (by rwa [List.getElem?_cons_succ] at h)
theorem wk5_keep {j : Nat} {c : Int} (hc : c ≠ 5) : ∀ {p : Bool} {l : List Int}, l[j]? = some c → (wk5 p l)[j]? = some c := by
  induction j with
  | zero =>
    intro p l h
    cases l with
    | nil => cases h
    | cons x l =>
      obtain rfl := Option.some.inj h
      rw [wk5, nk5, if_neg (by simp [hc])]
      rfl
  | succ j ih =>
    intro p l h
    cases l with
    | nil => cases h
    | cons x l => rw [wk5, List.getElem?_cons_succ]; exact ih h
theorem wk6_keep {j : Nat} {c : Int} {l : List Int} (hc : c ≠ 4 ∧ c ≠ 5 ∧ c ≠ 7) (h : l[j]? = some c) : (wk6 l)[j]? = some c := by
  unfold wk6
  rw [List.getElem?_map, h, Option.map_some, nk6, if_neg (by omega)]
theorem wk7_keep {j : Nat} {c : Int} (hc : c ≠ 3) : ∀ {p : Int} {l : List Int}, l[j]? = some c → (wk7 p l)[j]? = some c := by
  induction j with
  | zero =>
    intro p l h
    cases l with
    | nil => cases h
    | cons x l =>
      obtain rfl := Option.some.inj h
      rw [wk7, nk7, if_neg (by omega)]
      rfl
  | succ j ih =>
    intro p l h
    cases l with
    | nil => cases h
    | cons x l => rw [wk7, List.getElem?_cons_succ]; exact ih h
theorem wAll_strong {p : Int} {l : List Int} {j : Nat} {c : Int} (hc : c = 0 ∨ c = 1 ∨ c = 2) (h : l[j]? = some c) : (wAll p l)[j]? = some (if c = 0 then 0 else 1) := by
  have h3 := wk3_at (wk2_keep (p := p) (by omega) (wk1_keep (p := p) (by omega) h))
  have hn : nk3 c = if c = 0 then 0 else 1 := by unfold nk3; rcases hc with rfl | rfl | rfl <;> rfl
  rw [hn] at h3
  have hd : (if c = 0 then (0 : Int) else 1) = 0 ∨ (if c = 0 then (0 : Int) else 1) = 1 := by split <;> simp
  exact wk7_keep (by omega) (wk6_keep (by omega) (wk5_keep (by omega) (wk4_keep (by omega) h3)))
end Go.Proofs.Ytnmpoipakmjbpaa
