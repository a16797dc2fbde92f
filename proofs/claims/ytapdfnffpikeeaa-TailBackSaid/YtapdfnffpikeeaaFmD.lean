/- Forms as data: what the project and the reference tell of codes, as functions; they are the same, and go back. -/
import Derived.Test.YtapdfnffpikeeaaFmL
namespace Go.Proofs.Ytapdfnffpikeeaa
open Go.RowKit

def formsOf (t : Lt) : List Int := [t.2.1, t.2.2.1, t.2.2.2.1, t.2.2.2.2]
/-- The code at a place, if there is one. -/
def pickF (k : Int) (l : List Int) : Int × Bool := if k < 0 ∨ (l.length : Int) ≤ k then (0, false) else (l.getD k.toNat 0, decide (l.getD k.toNat 0 ≠ 0))
/-- The place of a code among some, from 1 on; 0: it is not there, or is none. -/
def hitF (c : Int) : List Int → Nat
  | [] => 0
  | x :: l => if c = 0 then 0 else if x = c then 1 else match hitF c l with
    | 0 => 0
    | k + 1 => k + 2
/-- Form, as the reference goes. -/
def formR (b f : Int) : List Lt → Int × Bool
  | [] => (0, false)
  | t :: l => if t.1 = b ∧ 1 ≤ f ∧ f ≤ 4 ∧ (formsOf t).getD (f - 1).toNat 0 ≠ 0 then ((formsOf t).getD (f - 1).toNat 0, true) else formR b f l
/-- Form, as the project goes. -/
def formP (b f : Int) (l : List Lt) : Int × Bool := match l.find? (fun t => decide (t.1 = b)) with
  | none => (0, false)
  | some t => pickF (f - 1) (formsOf t)
def baseR (c : Int) : List Lt → Int × Int × Bool
  | [] => (0, 0, false)
  | t :: l => if hitF c (formsOf t) = 0 then baseR c l else (t.1, (hitF c (formsOf t) : Nat), true)
def twoR (r : Rg) : List Int := [r.2.1, r.2.2]
def ligR (a f : Int) : List Rg → Int × Bool
  | [] => (0, false)
  | r :: l => if r.1 = a then (if f = 1 then (r.2.1, true) else if f = 2 then (r.2.2, true) else ligR a f l) else ligR a f l
def ligP (a f : Int) : List Rg → Int × Bool
  | [] => (0, false)
  | r :: l => if r.1 = a then pickF (f - 1) (twoR r) else ligP a f l
def parR (c : Int) : List Rg → Int × Int × Bool
  | [] => (0, 0, false)
  | r :: l => if r.2.1 = c then (r.1, 1, true) else if r.2.2 = c then (r.1, 2, true) else parR c l
def parP (c : Int) : List Rg → Int × Int × Bool
  | [] => (0, 0, false)
  | r :: l => if hitF c (twoR r) = 0 then parP c l else (r.1, (hitF c (twoR r) : Nat), true)
def accR (m : Int) (d : Bool) : List Rg → Int × Bool
  | [] => (0, false)
  | r :: l => if r.1 = m then (if d = true then (r.2.2, decide (r.2.2 ≠ 0)) else (r.2.1, true)) else accR m d l
def accP (m : Int) (d : Bool) : List Rg → Int × Bool
  | [] => (0, false)
  | r :: l => if r.1 = m then (if d = true then (r.2.2, decide (r.2.2 ≠ 0)) else (r.2.1, decide (r.2.1 ≠ 0))) else accP m d l
def marR (c : Int) : List Rg → Int × Bool × Bool
  | [] => (0, false, false)
  | r :: l => if r.2.1 = c then (r.1, false, true) else if c ≠ 0 ∧ r.2.2 = c then (r.1, true, true) else marR c l
def marP (c : Int) : List Rg → Int × Bool × Bool
  | [] => (0, false, false)
  | r :: l => if hitF c (twoR r) = 0 then marP c l else (r.1, decide (hitF c (twoR r) = 2), true)
def pilR (m : Int) : List Sp → Int × Bool
  | [] => (0, false)
  | s :: l => if s.1 = m then (s.2, true) else pilR m l
def unpR (c : Int) : List Sp → Int × Bool
  | [] => (0, false)
  | s :: l => if s.2 = c then (s.1, true) else unpR c l

def formF (b f : Int) : Int × Bool := formR b f letL
def baseF (c : Int) : Int × Int × Bool := baseR c letL
def ligF (a f : Int) : Int × Bool := ligR a f ligL
def parF (c : Int) : Int × Int × Bool := parR c ligL
def accF (m : Int) (d : Bool) : Int × Bool := accR m d accL
def marF (c : Int) : Int × Bool × Bool := marR c accL
def pilF (m : Int) : Int × Bool := pilR m pilL
def unpF (c : Int) : Int × Bool := unpR c pilL
def preF (c : Int) : Bool := (baseF c).2.2 || (parF c).2.2 || (marF c).2.2 || (unpF c).2 || decide (c = 65139)

theorem hitF_none {c : Int} {l : List Int} (h : c = 0 ∨ c ∉ l) : hitF c l = 0 := by
  induction l with
  | nil => rfl
  | cons x l ih =>
    rw [hitF]
    by_cases h0 : c = 0
    · rw [if_pos h0]
    · rw [if_neg h0]
      rcases h with h | h
      · exact absurd h h0
      · rw [if_neg (fun e => h (by simp [e])), ih (.inr fun m => h (by simp [m]))]
theorem hitF_zero (l : List Int) : hitF 0 l = 0 := hitF_none (.inl rfl)
theorem baseR_none {c : Int} {l : List Lt} (h : ∀ t ∈ l, hitF c (formsOf t) = 0) : baseR c l = (0, 0, false) := by
  induction l with
  | nil => rfl
  | cons t l ih =>
    rw [baseR, if_pos (h t (by simp))]
    exact ih fun u hu => h u (by simp [hu])
/-- All forms of letters lie among the codes of forms. -/
theorem base_far {c : Int} (h : c < 64336 ∨ 65279 < c) : baseF c = (0, 0, false) := by
  refine baseR_none fun t ht => ?_
  have hall : (letL.all fun t => (formsOf t).all fun x => decide (x = 0 ∨ (64336 ≤ x ∧ x ≤ 65279))) = true := by decide +kernel
  have h1 := List.all_eq_true.1 hall t ht
  refine hitF_none ?_
  by_cases h0 : c = 0
  · exact .inl h0
  · refine .inr fun m => ?_
    have := List.all_eq_true.1 h1 c m
    simp only [decide_eq_true_eq] at this
    omega
theorem formR_none {b f : Int} {l : List Lt} (h : ∀ t ∈ l, t.1 ≠ b) : formR b f l = (0, false) := by
  induction l with
  | nil => rfl
  | cons t l ih =>
    rw [formR, if_neg (fun e => h t (by simp) e.1)]
    exact ih fun u hu => h u (by simp [hu])
theorem form_far {b f : Int} (h : b < 1536 ∨ 1791 < b) : formF b f = (0, false) := by
  refine formR_none fun t ht => ?_
  have hall : (letL.all fun t => decide (1536 ≤ t.1 ∧ t.1 ≤ 1791)) = true := by decide +kernel
  have := List.all_eq_true.1 hall t ht
  simp only [decide_eq_true_eq] at this
  omega
theorem pick_four (f : Int) (t : Lt) : pickF (f - 1) (formsOf t) = if 1 ≤ f ∧ f ≤ 4 ∧ (formsOf t).getD (f - 1).toNat 0 ≠ 0 then ((formsOf t).getD (f - 1).toNat 0, true) else (0, false) := by
  unfold pickF
  have hl : (formsOf t).length = 4 := rfl
  rw [hl]
  by_cases h1 : 1 ≤ f ∧ f ≤ 4
  · rw [if_neg (by omega)]
    by_cases h2 : (formsOf t).getD (f - 1).toNat 0 = 0
    · rw [if_neg (fun h => h.2.2 h2), h2]
      rfl
    · rw [if_pos ⟨h1.1, h1.2, h2⟩]
      exact Prod.ext rfl (decide_eq_true h2)
  · rw [if_pos (by omega), if_neg (fun h => h1 ⟨h.1, h.2.1⟩)]
theorem formP_eq (b f : Int) : ∀ l : List Lt, (l.Pairwise fun s t => s.1 ≠ t.1) → formP b f l = formR b f l
  | [], _ => rfl
  | t :: l, h => by
    have hp := List.pairwise_cons.1 h
    unfold formP
    rw [List.find?_cons, formR]
    by_cases hb : t.1 = b
    · simp only [hb, decide_true]
      rw [pick_four]
      by_cases h2 : 1 ≤ f ∧ f ≤ 4 ∧ (formsOf t).getD (f - 1).toNat 0 ≠ 0
      · rw [if_pos h2, if_pos ⟨trivial, h2⟩]
      · rw [if_neg h2, if_neg (fun h => h2 h.2), formR_none fun u hu e => hp.1 u hu (by rw [hb, e])]
    · simp only [hb, decide_false, false_and, if_false]
      exact formP_eq b f l hp.2
theorem formF_eq (b f : Int) : formF b f = formP b f letL := (formP_eq b f letL (by
  have h : (letL.map (·.1)).Pairwise (· < ·) := by decide +kernel
  rw [List.pairwise_map] at h
  exact h.imp fun h e => by omega)).symm
theorem ligP_eq (a f : Int) : ∀ l : List Rg, (l.Pairwise fun s t => s.1 ≠ t.1) → (∀ r ∈ l, r.2.1 ≠ 0 ∧ r.2.2 ≠ 0) → ligP a f l = ligR a f l
  | [], _, _ => rfl
  | r :: l, h, h0 => by
    have hp := List.pairwise_cons.1 h
    have hz := h0 r (by simp)
    rw [ligP, ligR]
    by_cases ha : r.1 = a
    · rw [if_pos ha, if_pos ha]
      by_cases f1 : f = 1
      · subst f1
        rw [if_pos rfl]
        show ((twoR r).getD 0 0, decide ((twoR r).getD 0 0 ≠ 0)) = _
        simp [twoR, hz.1]
      · by_cases f2 : f = 2
        · subst f2
          rw [if_neg (by omega), if_pos rfl]
          show ((twoR r).getD 1 0, decide ((twoR r).getD 1 0 ≠ 0)) = _
          simp [twoR, hz.2]
        · rw [if_neg f1, if_neg f2]
          have : ligR a f l = (0, false) := by
            have hne : ∀ u ∈ l, u.1 ≠ a := fun u hu e => hp.1 u hu (by rw [ha, e])
            clear hp h0 h
            induction l with
            | nil => rfl
            | cons u l ih =>
              rw [ligR, if_neg (hne u (by simp))]
              exact ih fun v hv => hne v (by simp [hv])
          rw [this, pickF, if_pos]
          show _ ∨ (2 : Int) ≤ _
          omega
    · rw [if_neg ha, if_neg ha]
      exact ligP_eq a f l hp.2 fun u hu => h0 u (by simp [hu])
theorem ligF_eq (a f : Int) : ligF a f = ligP a f ligL := (ligP_eq a f ligL (by decide +kernel) (by decide +kernel)).symm
theorem hit_two (c : Int) (r : Rg) : hitF c (twoR r) = if c = 0 then 0 else if r.2.1 = c then 1 else if r.2.2 = c then 2 else 0 := by
  by_cases h0 : c = 0
  · simp only [twoR, hitF, h0, if_true]
  · simp only [twoR, hitF, h0, if_false]
    by_cases h1 : r.2.1 = c
    · rw [if_pos h1, if_pos h1]
    · rw [if_neg h1, if_neg h1]
      by_cases h2 : r.2.2 = c
      · rw [if_pos h2]; simp [h2]
      · rw [if_neg h2]; simp [h2]
theorem parP_eq (c : Int) : ∀ l : List Rg, (∀ r ∈ l, r.2.1 ≠ 0 ∧ r.2.2 ≠ 0) → parP c l = parR c l
  | [], _ => rfl
  | r :: l, h0 => by
    have hz := h0 r (by simp)
    rw [parP, parR, hit_two, parP_eq c l fun u hu => h0 u (by simp [hu])]
    by_cases h : c = 0
    · subst h
      rw [if_pos rfl, if_pos rfl, if_neg hz.1, if_neg hz.2]
    · rw [if_neg h]
      by_cases h1 : r.2.1 = c
      · rw [if_pos h1, if_pos h1, if_neg (by omega)]; rfl
      · rw [if_neg h1, if_neg h1]
        by_cases h2 : r.2.2 = c
        · rw [if_pos h2, if_pos h2, if_neg (by omega)]; rfl
        · rw [if_neg h2, if_neg h2, if_pos rfl]
theorem parF_eq (c : Int) : parF c = parP c ligL := (parP_eq c ligL (by decide +kernel)).symm
theorem accP_eq (m : Int) (d : Bool) : ∀ l : List Rg, (∀ r ∈ l, r.2.1 ≠ 0) → accP m d l = accR m d l
  | [], _ => rfl
  | r :: l, h0 => by
    rw [accP, accR, accP_eq m d l fun u hu => h0 u (by simp [hu])]
    simp [h0 r (by simp)]
theorem accF_eq (m : Int) (d : Bool) : accF m d = accP m d accL := (accP_eq m d accL (by decide +kernel)).symm
theorem marP_eq (c : Int) : ∀ l : List Rg, (∀ r ∈ l, r.2.1 ≠ 0) → marP c l = marR c l
  | [], _ => rfl
  | r :: l, h0 => by
    have hz := h0 r (by simp)
    rw [marP, marR, hit_two, marP_eq c l fun u hu => h0 u (by simp [hu])]
    by_cases h : c = 0
    · subst h
      rw [if_pos rfl, if_pos rfl, if_neg hz, if_neg (fun e => e.1 rfl)]
    · rw [if_neg h]
      by_cases h1 : r.2.1 = c
      · rw [if_pos h1, if_pos h1, if_neg (by omega)]; rfl
      · rw [if_neg h1, if_neg h1]
        by_cases h2 : r.2.2 = c
        · rw [if_pos h2, if_neg (show ¬ (2 = 0) by omega), if_pos ⟨h, h2⟩]; rfl
        · rw [if_neg h2, if_pos rfl, if_neg (fun e => h2 e.2)]
theorem marF_eq (c : Int) : marF c = marP c accL := (marP_eq c accL (by decide +kernel)).symm

/-- A form is its letter's. -/
theorem formR_mem {b f a : Int} {l : List Lt} (h : formR b f l = (a, true)) : ∃ t ∈ l, t.1 = b ∧ 1 ≤ f ∧ f ≤ 4 ∧ (formsOf t).getD (f - 1).toNat 0 = a ∧ a ≠ 0 := by
  induction l with
  | nil => cases h
  | cons t l ih =>
    rw [formR] at h
    by_cases hc : t.1 = b ∧ 1 ≤ f ∧ f ≤ 4 ∧ (formsOf t).getD (f - 1).toNat 0 ≠ 0
    · rw [if_pos hc] at h
      injection h with h _
      exact ⟨t, by simp, hc.1, hc.2.1, hc.2.2.1, h, h ▸ hc.2.2.2⟩
    · rw [if_neg hc] at h
      obtain ⟨u, hu, r⟩ := ih h
      exact ⟨u, by simp [hu], r⟩
theorem form_back {b f a : Int} (h : formF b f = (a, true)) : baseF a = (b, f, true) ∧ preF a = true := by
  obtain ⟨t, ht, hb, h1, h2, ha, h0⟩ := formR_mem h
  have hall : (letL.all fun t => [1, 2, 3, 4].all fun f => decide ((formsOf t).getD (f - 1) 0 = 0 ∨ baseF ((formsOf t).getD (f - 1) 0) = (t.1, (f : Int), true))) = true := by decide +kernel
  have h3 := List.all_eq_true.1 hall t ht
  have hf : f.toNat = 1 ∨ f.toNat = 2 ∨ f.toNat = 3 ∨ f.toNat = 4 := by omega
  have h4 := List.all_eq_true.1 h3 f.toNat (by rcases hf with e | e | e | e <;> simp [e])
  rw [show f.toNat - 1 = (f - 1).toNat by omega, ha] at h4
  simp only [decide_eq_true_eq] at h4
  rcases h4 with h4 | h4
  · exact absurd h4 h0
  · have hbf : baseF a = (b, f, true) := by rw [h4, hb, show ((f.toNat : Nat) : Int) = f by omega]
    exact ⟨hbf, by rw [preF, hbf]; rfl⟩
theorem ligR_mem {b f a : Int} {l : List Rg} (h : ligR b f l = (a, true)) : ∃ r ∈ l, r.1 = b ∧ ((f = 1 ∧ r.2.1 = a) ∨ (f = 2 ∧ r.2.2 = a)) := by
  induction l with
  | nil => cases h
  | cons r l ih =>
    have hi : ligR b f l = (a, true) → ∃ u ∈ r :: l, u.1 = b ∧ ((f = 1 ∧ u.2.1 = a) ∨ (f = 2 ∧ u.2.2 = a)) := fun h => by
      obtain ⟨u, hu, r⟩ := ih h
      exact ⟨u, by simp [hu], r⟩
    rw [ligR] at h
    by_cases h1 : r.1 = b
    · rw [if_pos h1] at h
      by_cases f1 : f = 1
      · rw [if_pos f1] at h
        injection h with h _
        exact ⟨r, by simp, h1, .inl ⟨f1, h⟩⟩
      · rw [if_neg f1] at h
        by_cases f2 : f = 2
        · rw [if_pos f2] at h
          injection h with h _
          exact ⟨r, by simp, h1, .inr ⟨f2, h⟩⟩
        · rw [if_neg f2] at h
          exact hi h
    · rw [if_neg h1] at h
      exact hi h
theorem lig_back {b f a : Int} (h : ligF b f = (a, true)) : parF a = (b, f, true) := by
  obtain ⟨r, hr, hb, hc⟩ := ligR_mem h
  have hall : (ligL.all fun r => decide (parF r.2.1 = (r.1, 1, true) ∧ parF r.2.2 = (r.1, 2, true))) = true := by decide +kernel
  have h3 := List.all_eq_true.1 hall r hr
  simp only [decide_eq_true_eq] at h3
  rcases hc with ⟨rfl, rfl⟩ | ⟨rfl, rfl⟩
  · rw [h3.1, hb]
  · rw [h3.2, hb]

/-- No code is of two kinds: of how many a code is. -/
def one01 (b : Bool) : Nat := if b = true then 1 else 0
def kindsF (c : Int) : Nat := one01 (baseF c).2.2 + one01 (parF c).2.2 + one01 (marF c).2.2 + one01 (unpF c).2
def allForms : List Int := letL.flatMap formsOf ++ ligL.flatMap twoR ++ accL.flatMap twoR ++ pilL.map (·.2)
theorem parR_none {c : Int} {l : List Rg} (h : ∀ r ∈ l, c ∉ twoR r) : parR c l = (0, 0, false) := by
  induction l with
  | nil => rfl
  | cons r l ih =>
    have h1 := h r (by simp)
    simp only [twoR, List.mem_cons, List.not_mem_nil, or_false, not_or] at h1
    rw [parR, if_neg (fun e => h1.1 e.symm), if_neg (fun e => h1.2 e.symm)]
    exact ih fun u hu => h u (by simp [hu])
theorem marR_none {c : Int} {l : List Rg} (h : ∀ r ∈ l, c ∉ twoR r) : marR c l = (0, false, false) := by
  induction l with
  | nil => rfl
  | cons r l ih =>
    have h1 := h r (by simp)
    simp only [twoR, List.mem_cons, List.not_mem_nil, or_false, not_or] at h1
    rw [marR, if_neg (fun e => h1.1 e.symm), if_neg (fun e => h1.2 e.2.symm)]
    exact ih fun u hu => h u (by simp [hu])
theorem unpR_none {c : Int} {l : List Sp} (h : ∀ s ∈ l, c ≠ s.2) : unpR c l = (0, false) := by
  induction l with
  | nil => rfl
  | cons s l ih =>
    rw [unpR, if_neg (fun e => h s (by simp) e.symm)]
    exact ih fun u hu => h u (by simp [hu])
theorem kinds_le (c : Int) : kindsF c ≤ 1 := by
  by_cases h : c ∈ allForms
  · have hall : (allForms.all fun c => decide (kindsF c ≤ 1)) = true := by decide +kernel
    simpa using List.all_eq_true.1 hall c h
  · simp only [allForms, List.mem_append, List.mem_flatMap, List.mem_map, not_or, not_exists, not_and] at h
    obtain ⟨⟨⟨h1, h2⟩, h3⟩, h4⟩ := h
    have e1 : baseF c = (0, 0, false) := baseR_none fun t ht => hitF_none (.inr (h1 t ht))
    have e2 : parF c = (0, 0, false) := parR_none h2
    have e3 : marF c = (0, false, false) := marR_none h3
    have e4 : unpF c = (0, false) := unpR_none fun s hs e => h4 s hs e.symm
    rw [kindsF, e1, e2, e3, e4]
    decide
end Go.Proofs.Ytapdfnffpikeeaa
