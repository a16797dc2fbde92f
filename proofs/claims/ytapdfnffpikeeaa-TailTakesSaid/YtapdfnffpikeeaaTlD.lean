/- Tails of letters, as plain mathematics. No function of the program. -/
import Derived.Test.YtapdfnffpikeeaaFmD
namespace Go.Proofs.Ytapdfnffpikeeaa
open Go.RowKit

def seenB (c : Int) : Bool := decide (1587 ≤ c) && decide (c ≤ 1590)
theorem seenB_iff (c : Int) : seenB c = true ↔ 1587 ≤ c ∧ c ≤ 1590 := by simp [seenB]
def goesF (f : Int) : Int := if f = 1 then 3 else if f = 2 then 4 else 0
def bareF (f : Int) : Int × Bool := if f = 1 then (65263, true) else if f = 2 then (65264, true) else (0, false)
def withF (c : Int × Bool) (t : Int) : List Int × Bool := if c.2 = true then ([c.1, t], true) else ([], false)
/-- A letter at the end, and its tail. -/
def tailF (b f : Int) (s y : Bool) : List Int × Bool :=
  if s = true ∧ seenB b = true then withF (formF b (goesF f)) 65139 else if y = true ∧ b = 1574 then withF (bareF f) 65152 else ([], false)
def uncutF (a : Int) : Int × Bool := if seenB (baseF a).1 = true ∧ ((baseF a).2.1 = 3 ∨ (baseF a).2.1 = 4) then ((baseF a).1, true) else (0, false)
/-- The letter that became two codes. -/
def backF (a b : Int) (s y : Bool) : Int × Bool :=
  if s = true ∧ b = 65139 then uncutF a else if y = true ∧ b = 65152 ∧ (a = 65263 ∨ a = 65264) then (1574, true) else (0, false)
theorem seen_four {b : Int} (h : seenB b = true) : b = 1587 ∨ b = 1588 ∨ b = 1589 ∨ b = 1590 := by
  rw [seenB_iff] at h
  omega
theorem seen_form {b : Int} (h : seenB b = true) : (formF b 3).2 = true ∧ (formF b 4).2 = true := by
  rcases seen_four h with rfl | rfl | rfl | rfl <;> exact ⟨by decide +kernel, by decide +kernel⟩
theorem form_none (b : Int) : formF b 0 = (0, false) := by
  unfold formF
  generalize letL = l
  induction l with
  | nil => rfl
  | cons t l ih => rw [formR, if_neg (by omega)]; exact ih
theorem base_no {a x q : Int} (h : baseF a = (x, q, false)) : x = 0 ∧ q = 0 := by
  have key : ∀ l : List Lt, baseR a l = (x, q, false) → x = 0 ∧ q = 0 := fun l => by
    induction l with
    | nil => intro h; simp [baseR] at h; omega
    | cons t l ih =>
      intro h
      rw [baseR] at h
      split at h
      · exact ih h
      · simp at h
  exact key _ h
/-- Of an ending letter alone there is something. -/
theorem tailF_form (b f : Int) (s y : Bool) (h : f ≠ 1) (h2 : f ≠ 2) : tailF b f s y = ([], false) := by
  unfold tailF goesF bareF withF
  rw [if_neg h, if_neg h2, if_neg h, if_neg h2, form_none]
  simp
theorem tailF_seen {b f : Int} {s : Bool} (y : Bool) (hs : s = true ∧ seenB b = true) (h : f = 1 ∨ f = 2) : tailF b f s y = ([(formF b (goesF f)).1, 65139], true) := by
  unfold tailF withF
  rw [if_pos hs]
  have h9 := seen_form hs.2
  have : (formF b (goesF f)).2 = true := by
    rcases h with rfl | rfl
    · exact h9.1
    · exact h9.2
  rw [if_pos this]
theorem tailF_yeh {b f : Int} {s y : Bool} (hs : ¬ (s = true ∧ seenB b = true)) (hy : y = true ∧ b = 1574) (h : f = 1 ∨ f = 2) : tailF b f s y = ([(bareF f).1, 65152], true) := by
  unfold tailF
  rw [if_neg hs, if_pos hy]
  rcases h with rfl | rfl <;> rfl
theorem tailF_no {b : Int} (f : Int) {s y : Bool} (hs : ¬ (s = true ∧ seenB b = true)) (hy : ¬ (y = true ∧ b = 1574)) : tailF b f s y = ([], false) := by
  unfold tailF
  rw [if_neg hs, if_neg hy]
theorem form_base {b f : Int} (h : (formF b f).2 = true) : baseF (formF b f).1 = (b, f, true) := (form_back (a := (formF b f).1) (Prod.ext rfl h)).1
/-- A letter with its tail is the letter. -/
theorem tail_back {b f : Int} {s y : Bool} (h : (tailF b f s y).2 = true) : ∃ c t, (tailF b f s y).1 = [c, t] ∧ backF c t s y = (b, true) := by
  by_cases hf : f = 1 ∨ f = 2
  · by_cases hs : s = true ∧ seenB b = true
    · rw [tailF_seen y hs hf]
      refine ⟨_, _, rfl, ?_⟩
      have h9 := seen_form hs.2
      unfold backF
      rw [if_pos ⟨hs.1, rfl⟩]
      unfold uncutF
      rcases hf with rfl | rfl
      · rw [show goesF 1 = 3 from rfl, form_base h9.1, if_pos ⟨hs.2, .inl rfl⟩]
      · rw [show goesF 2 = 4 from rfl, form_base h9.2, if_pos ⟨hs.2, .inr rfl⟩]
    · by_cases hy : y = true ∧ b = 1574
      · rw [tailF_yeh hs hy hf]
        refine ⟨_, _, rfl, ?_⟩
        unfold backF
        rw [if_neg (by omega), if_pos ⟨hy.1, rfl, by rcases hf with rfl | rfl <;> simp [bareF]⟩, hy.2]
      · rw [tailF_no f hs hy] at h
        cases h
  · rw [tailF_form b f s y (fun e => hf (.inl e)) (fun e => hf (.inr e))] at h
    cases h
theorem tailF_len (b f : Int) (s y : Bool) (h : (tailF b f s y).2 = false) : (tailF b f s y).1 = [] := by
  revert h
  unfold tailF withF
  repeat' split
  all_goals simp
end Go.Proofs.Ytapdfnffpikeeaa
