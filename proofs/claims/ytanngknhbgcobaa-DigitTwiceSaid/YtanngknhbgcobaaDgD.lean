/- Digits exchanged, as mathematics: what one code becomes, what a text becomes, in each mode. -/
import Derived.Test.YtanngknhbgcobaaPpD
namespace Go.Proofs.Ytanngknhbgcobaa
open Go.RowKit

def dMoved (c to : Int) : List Int → Int
  | [] => c
  | z :: l => if z ≤ c ∧ c ≤ z + 9 then c - z + to else dMoved c to l
def dTo (a e : Bool) : Int := if a then (if e then 1776 else 1632) else 48
def dFrom (a : Bool) : List Int := if a then [48] else [1632, 1776]
def dOne (c : Int) (a e : Bool) : Int := dMoved c (dTo a e) (dFrom a)
def dAm (am : Bool) (c : Int) : Bool := if strongF c then decide (classF c = 2) else am
/-- What becomes of a code, whether it stands among arabic letters. -/
def dPick : Bool → Int → Bool → Int
  | true, c, e => dOne c true e
  | false, c, _ => c
def dCtx (e : Bool) : Bool → List Int → List Int
  | _, [] => []
  | am, c :: l => dPick (dAm am c) c e :: dCtx e (dAm am c) l
def dAms (am : Bool) (l : List Int) : Bool := l.foldl dAm am
def dText (mode : Int) (e : Bool) (l : List Int) : List Int :=
  if mode = 1 ∨ mode = 2 then l.map fun c => dOne c (decide (mode = 1)) e
  else if mode = 3 ∨ mode = 4 then dCtx e (decide (mode = 4)) l else l
theorem dCtx_len (e am : Bool) (l : List Int) : (dCtx e am l).length = l.length := by
  induction l generalizing am with
  | nil => rfl
  | cons c l ih => simp [dCtx, ih]
theorem dText_len (m : Int) (e : Bool) (l : List Int) : (dText m e l).length = l.length := by
  unfold dText
  repeat' split
  · simp
  · exact dCtx_len _ _ _
  · rfl
theorem dCtx_app (e am : Bool) (l k : List Int) : dCtx e am (l ++ k) = dCtx e am l ++ dCtx e (dAms am l) k := by
  induction l generalizing am with
  | nil => rfl
  | cons c l ih => simp [dCtx, ih, dAms]
theorem dAms_snoc (am : Bool) (l : List Int) (c : Int) : dAms am (l ++ [c]) = dAm (dAms am l) c := by simp [dAms]
theorem digL_weak : (digL.all fun c => !strongF c) = true := by decide +kernel
theorem dig_mem (c : Int) (h : 48 ≤ c ∧ c ≤ 57 ∨ 1632 ≤ c ∧ c ≤ 1641 ∨ 1776 ≤ c ∧ c ≤ 1785) : c ∈ digL := by
  simp only [digL, List.mem_cons, List.not_mem_nil, or_false]
  omega
theorem dig_weak (c : Int) (h : 48 ≤ c ∧ c ≤ 57 ∨ 1632 ≤ c ∧ c ≤ 1641 ∨ 1776 ≤ c ∧ c ≤ 1785) : strongF c = false := by
  have := List.all_eq_true.1 digL_weak c (dig_mem c h)
  simpa using this
theorem digF_1 {c : Int} (h : 48 ≤ c ∧ c ≤ 57) : digF c = (c - 48, 1) := if_pos h
theorem digF_2 {c : Int} (h : 1632 ≤ c ∧ c ≤ 1641) : digF c = (c - 1632, 2) := by unfold digF; rw [if_neg (by omega), if_pos h]
theorem digF_3 {c : Int} (h : 1776 ≤ c ∧ c ≤ 1785) : digF c = (c - 1776, 3) := by unfold digF; rw [if_neg (by omega), if_neg (by omega), if_pos h]
/-- A code becomes itself, or both are digits. -/
theorem dOne_dig (c : Int) (a e : Bool) : dOne c a e = c ∨ (0 < (digF c).2 ∧ 0 < (digF (dOne c a e)).2 ∧ (digF c).1 = (digF (dOne c a e)).1) := by
  cases a with
  | false =>
    by_cases h1 : 1632 ≤ c ∧ c ≤ 1641
    · have hd : dOne c false e = c - 1632 + 48 := if_pos h1
      rw [hd, digF_2 h1, digF_1 (by omega)]
      right; dsimp only; omega
    · by_cases h2 : 1776 ≤ c ∧ c ≤ 1785
      · have hd : dOne c false e = c - 1776 + 48 := (if_neg h1).trans (if_pos h2)
        rw [hd, digF_3 h2, digF_1 (by omega)]
        right; dsimp only; omega
      · exact .inl ((if_neg h1).trans (if_neg h2))
  | true =>
    by_cases h1 : 48 ≤ c ∧ c ≤ 57
    · cases e with
      | false =>
        have hd : dOne c true false = c - 48 + 1632 := if_pos h1
        rw [hd, digF_1 h1, digF_2 (by omega)]
        right; dsimp only; omega
      | true =>
        have hd : dOne c true true = c - 48 + 1776 := if_pos h1
        rw [hd, digF_1 h1, digF_3 (by omega)]
        right; dsimp only; omega
    · exact .inl (if_neg h1)
theorem digF_rng {c : Int} (h : 0 < (digF c).2) : 48 ≤ c ∧ c ≤ 57 ∨ 1632 ≤ c ∧ c ≤ 1641 ∨ 1776 ≤ c ∧ c ≤ 1785 := by
  unfold digF at h
  repeat' split at h
  all_goals first | omega | (simp at h)
theorem dOne_again (c : Int) (a e : Bool) : dOne (dOne c a e) a e = dOne c a e := by
  cases a with
  | false =>
    have stay : ∀ d : Int, ¬ (1632 ≤ d ∧ d ≤ 1641) → ¬ (1776 ≤ d ∧ d ≤ 1785) → dOne d false e = d := fun d h1 h2 => (if_neg h1).trans (if_neg h2)
    by_cases h1 : 1632 ≤ c ∧ c ≤ 1641
    · have hd : dOne c false e = c - 1632 + 48 := if_pos h1
      rw [hd, stay _ (by omega) (by omega)]
    · by_cases h2 : 1776 ≤ c ∧ c ≤ 1785
      · have hd : dOne c false e = c - 1776 + 48 := (if_neg h1).trans (if_pos h2)
        rw [hd, stay _ (by omega) (by omega)]
      · rw [stay c h1 h2, stay c h1 h2]
  | true =>
    have stay : ∀ d : Int, ¬ (48 ≤ d ∧ d ≤ 57) → dOne d true e = d := fun d h1 => if_neg h1
    by_cases h1 : 48 ≤ c ∧ c ≤ 57
    · have hd : dOne c true e = c - 48 + dTo true e := if_pos h1
      have : dTo true e = 1632 ∨ dTo true e = 1776 := by cases e <;> simp [dTo]
      rw [hd, stay _ (by omega)]
    · rw [stay c h1, stay c h1]
theorem dAm_one (am : Bool) (c : Int) (a e : Bool) : dAm am (dOne c a e) = dAm am c := by
  rcases dOne_dig c a e with h | ⟨h1, h2, _⟩
  · rw [h]
  · unfold dAm
    rw [dig_weak _ (digF_rng h1), dig_weak _ (digF_rng h2)]
    simp
theorem dCtx_again (e am : Bool) (l : List Int) : dCtx e am (dCtx e am l) = dCtx e am l := by
  induction l generalizing am with
  | nil => rfl
  | cons c l ih =>
    have hA : dAm am (dPick (dAm am c) c e) = dAm am c := by
      cases h : dAm am c
      · exact h
      · exact (dAm_one _ _ _ _).trans h
    have hB : dPick (dAm am c) (dPick (dAm am c) c e) e = dPick (dAm am c) c e := by
      cases dAm am c
      · rfl
      · exact dOne_again _ _ _
    simp only [dCtx, hA, ih, hB]
theorem dText_again (m : Int) (e : Bool) (l : List Int) : dText m e (dText m e l) = dText m e l := by
  unfold dText
  repeat' split
  · simp [dOne_again]
  · exact dCtx_again _ _ _
  · rfl
theorem dCtx_dig (e am : Bool) (l : List Int) : ∀ (i : Nat) (x y : Int), l[i]? = some x → (dCtx e am l)[i]? = some y → y = x ∨ (0 < (digF x).2 ∧ 0 < (digF y).2 ∧ (digF x).1 = (digF y).1) := by
  induction l generalizing am with
  | nil => intro i x y h; simp at h
  | cons c l ih =>
    intro i x y hx hy
    cases i with
    | zero =>
      simp only [dCtx, List.getElem?_cons_zero, Option.some.injEq] at hx hy
      subst hx
      subst hy
      cases dAm am c
      · exact .inl rfl
      · exact dOne_dig _ _ _
    | succ i => exact ih (dAm am c) i x y (by simpa using hx) (by simpa [dCtx] using hy)
theorem dText_dig (m : Int) (e : Bool) (l : List Int) (i : Nat) (x y : Int) (hx : l[i]? = some x) (hy : (dText m e l)[i]? = some y) : y = x ∨ (0 < (digF x).2 ∧ 0 < (digF y).2 ∧ (digF x).1 = (digF y).1) := by
  unfold dText at hy
  split at hy
  · rw [List.getElem?_map, hx, Option.map_some, Option.some.injEq] at hy
    subst hy; exact dOne_dig _ _ _
  · split at hy
    · exact dCtx_dig _ _ _ i x y hx hy
    · rw [hx, Option.some.injEq] at hy; exact .inl hy.symm
theorem dText_awake : dText 3 false [49, 1575, 49] = [49, 1575, 1633] := by decide +kernel
theorem dOne_awake : dOne 53 true true = 1781 := by decide +kernel
end Go.Proofs.Ytanngknhbgcobaa
