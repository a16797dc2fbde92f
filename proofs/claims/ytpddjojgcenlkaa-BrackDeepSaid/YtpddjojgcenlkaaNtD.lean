/- What brackets become, neutral classes and levels as mathematics. No function of the program. -/
import Derived.Test.YtpddjojgcenlkaaMem
namespace Go.Proofs.Ytpddjojgcenlkaa
open Go.RowKit

/-- A class's side; a level's. -/
def sideF (c : Int) : Int := if c = 0 then 0 else if c = 1 ∨ c = 3 ∨ c = 6 then 1 else -1
def ofL (n : Int) : Int := if n % 2 = 0 then 0 else 1
theorem ofL_in (n : Int) : ofL n = 0 ∨ ofL n = 1 := by unfold ofL; split <;> simp
theorem side_in (c : Int) : sideF c = -1 ∨ sideF c = 0 ∨ sideF c = 1 := by
  unfold sideF
  by_cases h : c = 0
  · simp [h]
  · rw [if_neg h]
    split <;> simp
/-- Which sides there are between two places. -/
def insF (l : List Int) (o c level : Int) : Bool × Bool :=
  ((List.range l.length).any fun i => decide (o < (i : Int) ∧ (i : Int) < c ∧ sideF (l.getD i 0) = ofL level),
   (List.range l.length).any fun i => decide (o < (i : Int) ∧ (i : Int) < c ∧ 0 ≤ sideF (l.getD i 0) ∧ sideF (l.getD i 0) ≠ ofL level))
/-- The last side ahead of place k. -/
def ahdF (l : List Int) : Nat → Int
  | 0 => -1
  | k + 1 => if 0 ≤ sideF (l.getD k 0) then sideF (l.getD k 0) else ahdF l k
def becF (l : List Int) (o c : Nat) (level sos : Int) : Int :=
  if (insF l o c level).1 = true then ofL level else if (insF l o c level).2 = false then -1 else
    if 0 ≤ ahdF l o then ahdF l o else if 0 ≤ sideF sos then sideF sos else ofL level
/-- Marks directly behind become it, too. -/
def runS (bf : List Int) (s : Int) : Nat → Nat → List Int → List Int
  | 0, _, o => o
  | f + 1, k, o => if bf[k]? = some 8 then runS bf s f (k + 1) (o.set k s) else o
def n0S (bf : List Int) (level sos : Int) (out : List Int) (p : Nat × Nat) : List Int :=
  if becF out p.1 p.2 level sos < 0 then out else
    runS bf (becF out p.1 p.2 level sos) bf.length (p.2 + 1) (runS bf (becF out p.1 p.2 level sos) bf.length (p.1 + 1) ((out.set p.1 (becF out p.1 p.2 level sos)).set p.2 (becF out p.1 p.2 level sos)))
def n0F (bf : List Int) (level sos : Int) (l : List Int) (ps : List (Nat × Nat)) : List Int := ps.foldl (n0S bf level sos) l
theorem runS_len (bf : List Int) (s : Int) : ∀ (f k : Nat) (o : List Int), (runS bf s f k o).length = o.length
  | 0, _, _ => rfl
  | f + 1, k, o => by
    rw [runS]
    split
    · rw [runS_len bf s f, List.length_set]
    · rfl
theorem runS_keep {bf : List Int} {s : Int} {j : Nat} (h : bf[j]? ≠ some 8) : ∀ (f k : Nat) (o : List Int), (runS bf s f k o)[j]? = o[j]?
  | 0, _, _ => rfl
  | f + 1, k, o => by
    rw [runS]
    split
    · rename_i hk
      rw [runS_keep h f, List.getElem?_set_ne (fun e : k = j => h (by rw [← e]; exact hk))]
    · rfl
theorem n0S_len (bf : List Int) (level sos : Int) (out : List Int) (p : Nat × Nat) : (n0S bf level sos out p).length = out.length := by
  unfold n0S
  split
  · rfl
  · rw [runS_len, runS_len, List.length_set, List.length_set]
theorem n0F_len (bf : List Int) (level sos : Int) : ∀ (ps : List (Nat × Nat)) (l : List Int), (n0F bf level sos l ps).length = l.length
  | [], _ => rfl
  | p :: ps, l => (n0F_len bf level sos ps _).trans (n0S_len bf level sos l p)
/-- What is no bracket and no mark stays. -/
theorem n0F_keep {bf : List Int} {level sos : Int} {j : Nat} (h : bf[j]? ≠ some 8) : ∀ (ps : List (Nat × Nat)) (l : List Int), (∀ p ∈ ps, p.1 ≠ j ∧ p.2 ≠ j) → (n0F bf level sos l ps)[j]? = l[j]?
  | [], _, _ => rfl
  | p :: ps, l, hp => by
    have h1 : (n0S bf level sos l p)[j]? = l[j]? := by
      have := hp p (by simp)
      unfold n0S
      split
      · rfl
      · rw [runS_keep h, runS_keep h, List.getElem?_set_ne this.2, List.getElem?_set_ne this.1]
    exact (n0F_keep h ps _ fun q hq => hp q (by simp [hq])).trans h1

/-- Neutral classes. -/
def neuB (c : Int) : Bool := (decide (10 ≤ c) && decide (c ≤ 13)) || (decide (19 ≤ c) && decide (c ≤ 22))
def nxtS (e : Int) : List Int → Int
  | [] => sideF e
  | c :: l => if neuB c = true then nxtS e l else sideF c
/-- Behind side a. -/
def nu1 : Int → Int → List Int → List Int
  | _, _, [] => []
  | a, e, c :: l => if neuB c = true then (if 0 ≤ a ∧ a = nxtS e l then a else c) :: nu1 a e l else c :: nu1 (sideF c) e l
def nu2 (level : Int) (l : List Int) : List Int := l.map fun c => if neuB c = true then ofL level else c
def impF (c level : Int) : Int :=
  if level % 2 = 0 then (if c = 1 then level + 1 else if c = 3 ∨ c = 6 then level + 2 else level) else (if c = 0 ∨ c = 3 ∨ c = 6 then level + 1 else level)
theorem nu1_len : ∀ (a e : Int) (l : List Int), (nu1 a e l).length = l.length
  | _, _, [] => rfl
  | a, e, c :: l => by
    rw [nu1]
    split <;> simp [nu1_len _ e l]
theorem nu2_len (level : Int) (l : List Int) : (nu2 level l).length = l.length := by simp [nu2]
theorem nu1_keep {j : Nat} {c : Int} (hc : neuB c = false) : ∀ {a e : Int} {l : List Int}, l[j]? = some c → (nu1 a e l)[j]? = some c := by
  induction j with
  | zero =>
    intro a e l h
    cases l with
    | nil => cases h
    | cons x l =>
      obtain rfl := Option.some.inj h
      rw [nu1, if_neg (by rw [hc]; simp)]
      rfl
  | succ j ih =>
    intro a e l h
    cases l with
    | nil => cases h
    | cons x l =>
      rw [List.getElem?_cons_succ] at h
      rw [nu1]
      split
      · rw [List.getElem?_cons_succ]; exact ih h
      · rw [List.getElem?_cons_succ]; exact ih h
theorem nu2_keep {level : Int} {j : Nat} {c : Int} {l : List Int} (hc : neuB c = false) (h : l[j]? = some c) : (nu2 level l)[j]? = some c := by
  unfold nu2
  rw [List.getElem?_map, h, Option.map_some, if_neg (by rw [hc]; simp)]
/-- Levels rise by two at most, and not above the greatest one. -/
theorem imp_in {c level : Int} (h0 : 0 ≤ level) (h1 : level ≤ 125) : level ≤ impF c level ∧ impF c level ≤ 126 := by
  unfold impF
  repeat' split
  all_goals omega
theorem imp_left {level : Int} (h : level = 0 ∨ level = 1) : impF 0 level = 2 * level := by
  rcases h with rfl | rfl <;> decide
theorem imp_right {level : Int} (h : level = 0 ∨ level = 1) : impF 1 level = 1 := by
  rcases h with rfl | rfl <;> decide
end Go.Proofs.Ytpddjojgcenlkaa
