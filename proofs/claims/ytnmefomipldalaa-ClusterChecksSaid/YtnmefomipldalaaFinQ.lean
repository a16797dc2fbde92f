/- cluster's sets: two made one, in the ways to the first place. No program in this text. -/
import Derived.Test.YtnmefomipldalaaFinK
namespace Go.Proofs.Ytnmefomipldalaa
open Go.RowKit

theorem uniR_by {n : Nat} {r e : Nat → Nat} (h : Part n r e) {p : Nat} (hp : r p = p) (hpn : p < n) (hq : e p < n) {i : Nat} (hi : i < n) : uniR r e p i = if r i = e p then p else r i := by
  have hqr := h.next hp hpn hq
  unfold uniR
  by_cases c : e p ≤ i ∧ i < e (e p)
  · have := h.same (e p) i hq (by rw [hqr]; exact c.1) (by rw [hqr]; exact c.2)
    rw [if_pos c, if_pos (this.trans hqr)]
  · rw [if_neg c, if_neg (fun e9 => c (by
      have h1 := h.le i hi
      have h2 := h.lt i hi
      rw [e9] at h1 h2
      exact ⟨h1, h2⟩))]
theorem Forest.unite {n : Nat} {ah : List Nat} {r e : Nat → Nat} (hF : Forest n ah r) (h : Part n r e) {p : Nat} (hp : r p = p) (hpn : p < n) (hq : e p < n) : Forest n (ah.set (e p) p) (uniR r e p) := by
  have hqr := h.next hp hpn hq
  have hlt := h.lt p hpn
  rw [hp] at hlt
  refine ⟨by rw [List.length_set]; exact hF.1, fun i a ha => ?_⟩
  have hin : i < n := by have := (List.getElem?_eq_some_iff.1 ha).1; rw [List.length_set, hF.1] at this; exact this
  by_cases c : i = e p
  · subst c
    rw [List.getElem?_set_self (by rw [hF.1]; exact hq)] at ha
    obtain rfl := Option.some.inj ha
    rw [uniR_by h hp hpn hq hq, uniR_by h hp hpn hq hpn, if_pos hqr, hp, if_neg (by omega)]
    exact ⟨by omega, rfl, by omega⟩
  · rw [List.getElem?_set_ne (fun e9 => c e9.symm)] at ha
    obtain ⟨a1, a2, a3⟩ := hF.2 i a ha
    rw [uniR_by h hp hpn hq hin, uniR_by h hp hpn hq (show a < n by omega), a2]
    refine ⟨a1, rfl, ?_⟩
    by_cases d : r i = e p
    · rw [if_pos d]
      have h1 := h.le i hin
      rw [d] at h1
      constructor
      · intro e9
        have := a3.1 e9
        omega
      · intro e9; omega
    · rw [if_neg d]; exact a3
theorem ends_unite {n : Nat} {en : List Nat} {r e : Nat → Nat} (h : Part n r e) {p : Nat} (hp : r p = p) (hpn : p < n) (hq : e p < n) (hl : en.length = n) (hE : ∀ i, r i = i → i < n → en[i]? = some (e i)) : ∀ i, uniR r e p i = i → i < n → (en.set p (e (e p)))[i]? = some (uniE e p i) := by
  intro i hi hin
  unfold uniE
  by_cases c : i = p
  · subst c
    rw [if_pos rfl, List.getElem?_set_self (by omega)]
  · rw [if_neg c, List.getElem?_set_ne (fun e9 => c e9.symm)]
    rw [uniR_by h hp hpn hq hin] at hi
    by_cases d : r i = e p
    · rw [if_pos d] at hi; omega
    · rw [if_neg d] at hi
      exact hE i hi hin
end Go.Proofs.Ytnmefomipldalaa
