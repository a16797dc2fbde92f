/- Pairs of codes as data: the lists of mirrors, brackets and codes alike; what the project and the reference tell of them, as functions; they are the same. -/
import Derived.Test.YtbnjflkafdkcpaaSpD
namespace Go.Proofs.Ytbnjflkafdkcpaa
open Go.RowKit

def mirL : List Sp := [(40, 41), (60, 62), (91, 93), (123, 125), (171, 187), (3898, 3899), (8249, 8250), (8261, 8262), (8317, 8318), (8333, 8334), (8712, 8715), (8804, 8805), (8810, 8811), (9001, 9002), (10088, 10089), (10090, 10091), (10092, 10093), (10094, 10095), (10096, 10097), (10098, 10099), (10100, 10101), (10214, 10215), (10216, 10217), (10218, 10219), (10220, 10221), (10222, 10223), (10627, 10628), (10629, 10630), (10631, 10632), (10633, 10634), (10635, 10636), (10641, 10642), (12296, 12297), (12298, 12299), (12300, 12301), (12302, 12303), (12304, 12305), (12308, 12309), (12310, 12311), (12312, 12313), (12314, 12315), (65113, 65114), (65115, 65116), (65117, 65118), (65124, 65125), (65288, 65289), (65308, 65310), (65339, 65341), (65371, 65373), (65375, 65376), (65378, 65379)]
def braL : List Sp := [(40, 41), (91, 93), (123, 125), (3898, 3899), (8261, 8262), (8317, 8318), (8333, 8334), (9001, 9002), (10088, 10089), (10090, 10091), (10092, 10093), (10094, 10095), (10096, 10097), (10098, 10099), (10100, 10101), (10214, 10215), (10216, 10217), (10218, 10219), (10220, 10221), (10222, 10223), (10627, 10628), (10629, 10630), (10631, 10632), (10633, 10634), (10635, 10636), (10641, 10642), (12296, 12297), (12298, 12299), (12300, 12301), (12302, 12303), (12304, 12305), (12308, 12309), (12310, 12311), (12312, 12313), (12314, 12315), (65113, 65114), (65115, 65116), (65117, 65118), (65288, 65289), (65339, 65341), (65371, 65373), (65375, 65376), (65378, 65379)]
def aliL : List Sp := [(9001, 12296), (9002, 12297)]
/-- What find tells: the first pair that fits, and whether there is one. -/
def hitP (P : Sp → Bool) (l : List Sp) : Int × Int × Bool := match l.find? P with | some s => (s.1, s.2, true) | none => (0, 0, false)
def opP (c : Int) (s : Sp) : Bool := decide (s.1 = c)
def clP (c : Int) (s : Sp) : Bool := decide (s.2 = c)
def mirF (c : Int) : Int := if (hitP (opP c) mirL).2.2 = true then (hitP (opP c) mirL).2.1 else if (hitP (clP c) mirL).2.2 = true then (hitP (clP c) mirL).1 else c
def canF (c : Int) : Int := if (hitP (opP c) aliL).2.2 = true then (hitP (opP c) aliL).2.1 else c
def braF (c : Int) : Int × Int := if (hitP (opP c) braL).2.2 = true then (1, canF (hitP (opP c) braL).2.1) else if (hitP (clP c) braL).2.2 = true then (2, canF c) else (0, 0)
def bmF (a b : Int) : Bool := decide ((braF a).1 = 1 ∧ (braF b).1 = 2 ∧ (braF a).2 = (braF b).2)
def mirR (c : Int) : List Sp → Int
  | [] => c
  | s :: l => if s.1 = c then s.2 else if s.2 = c then s.1 else mirR c l
def canR (c : Int) : List Sp → Int
  | [] => c
  | s :: l => if s.1 = c then s.2 else canR c l
def braR (c : Int) : List Sp → Int × Int
  | [] => (0, 0)
  | s :: l => if s.1 = c then (1, canR s.2 aliL) else if s.2 = c then (2, canR c aliL) else braR c l

/-- The codes of pairs. -/
def codesP (l : List Sp) : List Int := l.flatMap fun s => [s.1, s.2]
theorem apartP {c : Int} {l : List Sp} (h : c ∉ codesP l) {s : Sp} (hs : s ∈ l) : s.1 ≠ c ∧ s.2 ≠ c := by
  refine ⟨fun e => h ?_, fun e => h ?_⟩
  · exact List.mem_flatMap.2 ⟨s, hs, by simp [e]⟩
  · exact List.mem_flatMap.2 ⟨s, hs, by simp [e]⟩
theorem hit_none {P : Sp → Bool} {l : List Sp} (h : ∀ s ∈ l, P s = false) : hitP P l = (0, 0, false) := by
  unfold hitP
  rw [List.find?_eq_none.2 (fun s hs => by rw [h s hs]; decide)]
theorem op_apart {c : Int} {l : List Sp} (h : c ∉ codesP l) : hitP (opP c) l = (0, 0, false) := hit_none fun s hs => by simp [opP, (apartP h hs).1]
theorem cl_apart {c : Int} {l : List Sp} (h : c ∉ codesP l) : hitP (clP c) l = (0, 0, false) := hit_none fun s hs => by simp [clP, (apartP h hs).2]
theorem mirR_apart {c : Int} {l : List Sp} (h : ∀ s ∈ l, s.1 ≠ c ∧ s.2 ≠ c) : mirR c l = c := by
  induction l with
  | nil => rfl
  | cons s l ih =>
    have := h s (by simp)
    rw [mirR, if_neg this.1, if_neg this.2]
    exact ih fun t ht => h t (by simp [ht])
theorem canR_apart {c : Int} {l : List Sp} (h : ∀ s ∈ l, s.1 ≠ c ∧ s.2 ≠ c) : canR c l = c := by
  induction l with
  | nil => rfl
  | cons s l ih =>
    have := h s (by simp)
    rw [canR, if_neg this.1]
    exact ih fun t ht => h t (by simp [ht])
theorem braR_apart {c : Int} {l : List Sp} (h : ∀ s ∈ l, s.1 ≠ c ∧ s.2 ≠ c) : braR c l = (0, 0) := by
  induction l with
  | nil => rfl
  | cons s l ih =>
    have := h s (by simp)
    rw [braR, if_neg this.1, if_neg this.2]
    exact ih fun t ht => h t (by simp [ht])
theorem byCodes {α : Type} [DecidableEq α] (l : List Sp) (f g : Int → α) (hin : ((codesP l).all fun c => decide (f c = g c)) = true) (hout : ∀ c, c ∉ codesP l → f c = g c) (c : Int) : f c = g c := by
  by_cases h : c ∈ codesP l
  · simpa using List.all_eq_true.1 hin c h
  · exact hout c h
theorem canF_apart {c : Int} (h : c ∉ codesP aliL) : canF c = c := by rw [canF, op_apart h]; rfl
theorem mirF_apart {c : Int} (h : c ∉ codesP mirL) : mirF c = c := by rw [mirF, op_apart h, cl_apart h]; rfl
theorem braF_apart {c : Int} (h : c ∉ codesP braL) : braF c = (0, 0) := by rw [braF, op_apart h, cl_apart h]; rfl
theorem canF_eq (c : Int) : canF c = canR c aliL := byCodes aliL canF (fun c => canR c aliL) (by decide +kernel) (fun c h => by rw [canF_apart h, canR_apart fun s hs => apartP h hs]) c
theorem mirF_eq (c : Int) : mirF c = mirR c mirL := byCodes mirL mirF (fun c => mirR c mirL) (by decide +kernel) (fun c h => by rw [mirF_apart h, mirR_apart fun s hs => apartP h hs]) c
theorem braF_eq (c : Int) : braF c = braR c braL := byCodes braL braF (fun c => braR c braL) (by decide +kernel) (fun c h => by rw [braF_apart h, braR_apart fun s hs => apartP h hs]) c
theorem mirF_back (c : Int) : mirF (mirF c) = c := byCodes mirL (fun c => mirF (mirF c)) id (by decide +kernel) (fun c h => by simp only [mirF_apart h, id]) c
theorem canF_back (c : Int) : canF (canF c) = canF c := byCodes aliL (fun c => canF (canF c)) canF (by decide +kernel) (fun c h => by simp only [canF_apart h]) c
theorem bmF_iff (a b : Int) : bmF a b = true ↔ ((braF a).1 = 1 ∧ (braF b).1 = 2 ∧ (braF a).2 = (braF b).2) := by simp [bmF]
theorem bmF_back (a b : Int) (h : bmF a b = true) : (braF a).1 = 1 ∧ (braF b).1 = 2 ∧ bmF b a = false := by
  have h1 := (bmF_iff a b).1 h
  refine ⟨h1.1, h1.2.1, ?_⟩
  rw [Bool.eq_false_iff]
  intro h2
  have := ((bmF_iff b a).1 h2).1
  rw [h1.2.1] at this
  exact absurd this (by decide)
theorem bmF_of {a b p v p' v' : Int} (h1 : braF a = (p, v)) (h2 : braF b = (p', v')) : bmF a b = decide (p = 1 ∧ p' = 2 ∧ v = v') := by unfold bmF; rw [h1, h2]
end Go.Proofs.Ytbnjflkafdkcpaa
