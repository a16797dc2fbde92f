/- Runs as mathematics: the places of runs as they are seen are in the order in which places are seen. No function of the program. -/
import Derived.Test.YtbnjflkafdkcpaaOrD
namespace Go.Proofs.Ytbnjflkafdkcpaa
open Go.RowKit

theorem revR_app {α : Type} {p : α → Bool} : ∀ (a acc l : List α), (∀ x ∈ a, p x = true) → revR p acc (a ++ l) = revR p (a.reverse ++ acc) l
  | [], _, _, _ => rfl
  | x :: a, acc, l, h => by
    rw [List.cons_append, revR, if_pos (h x (by simp)), revR_app a (x :: acc) l fun y hy => h y (by simp [hy])]
    simp
theorem revR_off {α : Type} {p : α → Bool} : ∀ (a acc l : List α), a ≠ [] → (∀ x ∈ a, p x = false) → revR p acc (a ++ l) = acc ++ a ++ revR p [] l
  | [], _, _, h, _ => absurd rfl h
  | [x], acc, l, _, h => by
    rw [List.cons_append, revR, if_neg (by rw [h x (by simp)]; decide)]
    simp
  | x :: y :: a, acc, l, _, h => by
    rw [List.cons_append, revR, if_neg (by rw [h x (by simp)]; decide), revR_off (y :: a) [] l (by simp) fun z hz => h z (by simp [hz])]
    simp
/-- A run's places, turned round or not. -/
structure Rn where
  lo : Nat
  hi : Nat
  lev : Int
def plR (r : Rn) : List Nat := (List.range (r.hi - r.lo)).map fun k => r.lo + k
def blR (t : Int → Bool) (r : Rn) : List Nat := if t r.lev = true then (plR r).reverse else plR r
theorem blR_mem {t : Int → Bool} {r : Rn} {i : Nat} : i ∈ blR t r ↔ i ∈ plR r := by
  unfold blR
  split
  · exact List.mem_reverse
  · exact Iff.rfl
theorem blR_ne {t : Int → Bool} {r : Rn} (h : r.lo < r.hi) : blR t r ≠ [] := by
  intro e
  have : r.lo ∈ blR t r := by
    rw [blR_mem, plR, List.mem_map]
    exact ⟨0, by rw [List.mem_range]; omega, by omega⟩
  rw [e] at this
  cases this
def flR (t : Int → Bool) (R : List Rn) : List Nat := R.flatMap (blR t)
theorem flR_app (t : Int → Bool) (a b : List Rn) : flR t (a ++ b) = flR t a ++ flR t b := by simp [flR]
theorem flR_cons (t : Int → Bool) (r : Rn) (b : List Rn) : flR t (r :: b) = blR t r ++ flR t b := by simp [flR]
def turT (v : Int) (t : Int → Bool) (L : Int) : Bool := if v ≤ L then !(t L) else t L
theorem blR_tur {v : Int} {t : Int → Bool} {r : Rn} (h : v ≤ r.lev) : blR (turT v t) r = (blR t r).reverse := by
  unfold blR turT
  rw [if_pos h]
  cases t r.lev <;> simp
theorem blR_same {v : Int} {t : Int → Bool} {r : Rn} (h : ¬ v ≤ r.lev) : blR (turT v t) r = blR t r := by
  unfold blR turT
  rw [if_neg h]
/-- Turning runs, and each one's places, turns the places. -/
theorem rev_runs {v : Int} {t : Int → Bool} {p : Nat → Bool} : ∀ (R acc : List Rn), (∀ r ∈ R, r.lo < r.hi ∧ ∀ i ∈ plR r, p i = decide (v ≤ r.lev)) → (∀ r ∈ acc, v ≤ r.lev) → revR p (flR (turT v t) acc) (flR t R) = flR (turT v t) (revR (fun r => decide (v ≤ r.lev)) acc R)
  | [], acc, _, _ => by simp [revR, flR]
  | r :: R, acc, h, ha => by
    obtain ⟨h1, h2⟩ := h r (by simp)
    have hR : ∀ r ∈ R, r.lo < r.hi ∧ ∀ i ∈ plR r, p i = decide (v ≤ r.lev) := fun x hx => h x (by simp [hx])
    rw [flR_cons, revR]
    by_cases hv : v ≤ r.lev
    · rw [if_pos (decide_eq_true hv), revR_app _ _ _ (fun i hi => by rw [h2 i (blR_mem.1 hi)]; exact decide_eq_true hv), ← blR_tur hv, ← flR_cons]
      exact rev_runs R (r :: acc) hR (fun x hx => by
        rcases List.mem_cons.1 hx with rfl | hx
        · exact hv
        · exact ha x hx)
    · rw [if_neg (by rw [decide_eq_false hv]; decide), revR_off _ _ _ (blR_ne h1) (fun i hi => by rw [h2 i (blR_mem.1 hi)]; exact decide_eq_false hv), flR_app, flR_cons, blR_same hv, List.append_assoc]
      congr 2
      exact rev_runs R [] hR (by simp)
/-- Runs as they are seen. -/
def visB (ls : List Int) : Nat → List Rn → List Rn
  | 0, R => R
  | v + 1, R => visB ls v (if oddB ls ((v + 1 : Nat) : Int) = true then revR (fun r => decide (((v + 1 : Nat) : Int) ≤ r.lev)) [] R else R)
def turA (ls : List Int) : Nat → (Int → Bool) → Int → Bool
  | 0, t => t
  | v + 1, t => turA ls v (if oddB ls ((v + 1 : Nat) : Int) = true then turT ((v + 1 : Nat) : Int) t else t)
theorem vis_runs (ls : List Int) : ∀ (v : Nat) (t : Int → Bool) (R : List Rn), (∀ r ∈ R, r.lo < r.hi ∧ ∀ i ∈ plR r, ls.getD i 0 = r.lev) → visA ls v (flR t R) = flR (turA ls v t) (visB ls v R)
  | 0, _, _, _ => rfl
  | v + 1, t, R, h => by
    rw [visA, visB, turA]
    by_cases ho : oddB ls ((v + 1 : Nat) : Int) = true
    · rw [if_pos ho, if_pos ho, if_pos ho]
      have h1 := rev_runs (v := ((v + 1 : Nat) : Int)) (t := t) (p := fun i => decide (((v + 1 : Nat) : Int) ≤ ls.getD i 0)) R [] (fun r hr => ⟨(h r hr).1, fun i hi => by simp only [(h r hr).2 i hi]⟩) (by simp)
      have h2 : flR (turT ((v + 1 : Nat) : Int) t) [] = [] := rfl
      rw [h2] at h1
      rw [h1]
      exact vis_runs ls v _ _ fun r hr => h r (by
        have := (revR_perm (fun r : Rn => decide (((v + 1 : Nat) : Int) ≤ r.lev)) R []).mem_iff.1 hr
        simpa using this)
    · rw [if_neg ho, if_neg ho, if_neg ho]
      exact vis_runs ls v t R h
/-- Above all levels nothing is turned. -/
theorem visA_top {ls : List Int} {v : Nat} (h : ∀ x ∈ ls, x ≤ v) (o : List Nat) : ∀ k, visA ls (v + k) o = visA ls v o
  | 0 => rfl
  | k + 1 => by
    rw [← Nat.add_assoc, visA]
    have : revR (fun i => decide (((v + k + 1 : Nat) : Int) ≤ ls.getD i 0)) [] o = o := by
      refine revR_none o fun i _ => decide_eq_false ?_
      rw [List.getD_eq_getElem?_getD]
      rcases hi : ls[i]? with _ | x
      · simp; omega
      · have := h x (List.mem_of_getElem? hi)
        simp
        omega
    rw [this]
    split <;> exact visA_top h o k
theorem most_le : ∀ {ls : List Int} {x : Int}, x ∈ ls → x ≤ mostF ls
  | y :: l, x, h => by
    rw [mostF]
    rcases List.mem_cons.1 h with rfl | h
    · omega
    · have := most_le h
      omega
theorem most_nonneg : ∀ ls : List Int, 0 ≤ mostF ls
  | [] => Int.le_refl 0
  | x :: l => by
    have := most_nonneg l
    rw [mostF]
    omega
theorem most_top {n : Int} (hn : 0 ≤ n) : ∀ {ls : List Int}, (∀ x ∈ ls, x ≤ n) → mostF ls ≤ n
  | [], _ => hn
  | x :: l, h => by
    rw [mostF]
    have := most_top hn fun y hy => h y (List.mem_cons_of_mem _ hy)
    have := h x (by simp)
    omega
/-- The order of places, from the greatest level of all. -/
theorem vis_126 {ls : List Int} (h : ∀ x ∈ ls, 0 ≤ x ∧ x ≤ 126) : visF ls = visA ls 126 (List.range ls.length) := by
  have hm : ls.map heldF = ls := by
    rw [List.map_congr_left (g := id) fun x hx => by
      have := h x hx
      unfold heldF
      simp only [id]
      omega]
    exact List.map_id ls
  unfold visF
  rw [hm]
  have h1 := most_nonneg ls
  have h2 := most_top (by decide : (0 : Int) ≤ 126) fun x hx => (h x hx).2
  have h3 := visA_top (ls := ls) (v := (mostF ls).toNat) (fun x hx => by have := most_le hx; omega) (List.range ls.length) (126 - (mostF ls).toNat)
  rw [show (mostF ls).toNat + (126 - (mostF ls).toNat) = 126 by omega] at h3
  exact h3.symm
theorem oddB_mono {ls : List Int} {a b : Int} (hab : a ≤ b) (h : oddB ls a = true) : oddB ls b = true := by
  unfold oddB at h ⊢
  rw [List.any_eq_true] at h ⊢
  obtain ⟨x, hx, hd⟩ := h
  have hd := of_decide_eq_true hd
  exact ⟨x, hx, decide_eq_true ⟨hd.1, by omega⟩⟩
/-- How often a level's runs are turned: as often as there are levels from the least odd one up to it. -/
theorem tur_at {ls : List Int} {low : Nat} (hlow : ∀ v : Nat, oddB ls v = true ↔ low ≤ v) (L : Nat) : ∀ (v : Nat) (t : Int → Bool), turA ls v t L = (if low ≤ min v L ∧ 1 ≤ min v L ∧ (min v L - low) % 2 = 0 then !(t L) else t L) ∨ low = 0
  | 0, t => by
    left
    rw [turA, if_neg (by omega)]
  | v + 1, t => by
    rcases tur_at hlow L v (if oddB ls ((v + 1 : Nat) : Int) = true then turT ((v + 1 : Nat) : Int) t else t) with h | h
    · by_cases h0 : low = 0
      · exact .inr h0
      left
      rw [turA, h]
      by_cases ho : low ≤ v + 1
      · rw [if_pos ((hlow (v + 1)).2 ho)]
        unfold turT
        by_cases hv : v + 1 ≤ L
        · rw [if_pos (show ((v + 1 : Nat) : Int) ≤ (L : Int) by omega)]
          have e1 : min v L = v := by omega
          have e2 : min (v + 1) L = v + 1 := by omega
          rw [e1, e2]
          by_cases hc : (v + 1 - low) % 2 = 0
          · rw [if_neg (by omega), if_pos (by omega)]
          · rw [if_pos (by omega), if_neg (by omega)]
            simp
        · rw [if_neg (show ¬ ((v + 1 : Nat) : Int) ≤ (L : Int) by omega)]
          have e1 : min v L = L := by omega
          have e2 : min (v + 1) L = L := by omega
          rw [e1, e2]
      · rw [if_neg (fun h => ho ((hlow (v + 1)).1 h)), if_neg (by omega), if_neg (by omega)]
    · exact .inr h
end Go.Proofs.Ytbnjflkafdkcpaa
