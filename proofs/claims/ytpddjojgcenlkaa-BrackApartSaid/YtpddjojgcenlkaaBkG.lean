/- Pairs of brackets by what both know each other by, the last one on the stack first; pairs found put in order. No function of the program. -/
import Derived.Test.YtpddjojgcenlkaaRbD
import Derived.Test.YtpddjojgcenlkaaLoM
namespace Go.Proofs.Ytpddjojgcenlkaa
open Go.RowKit

/-- The place on a stack, the last one first, of the first that knows it. -/
def lastB (v : Int) : List Sp → Int
  | [] => -1
  | t :: r => if t.2 = v then (r.length : Int) else lastB v r
/-- The opening ones, the last one first, and what they know each other by. -/
def stkP (cs : List Int) (st : List Nat) : List Sp := st.map fun (i : Nat) => (((i : Nat) : Int), (braF (cs.getD i 0)).2)
theorem stkP_len (cs : List Int) (st : List Nat) : (stkP cs st).length = st.length := by simp [stkP]
theorem bra_in (c : Int) : (braF c).1 = 0 ∨ (braF c).1 = 1 ∨ (braF c).1 = 2 := by
  unfold braF
  split
  · exact .inr (.inl rfl)
  · split
    · exact .inr (.inr rfl)
    · exact .inl rfl
theorem pop_last {cs : List Int} {k : Nat} (h2 : (braF (cs.getD k 0)).1 = 2) : ∀ {st : List Nat}, (∀ o ∈ st, (braF (cs.getD o 0)).1 = 1) →
    (popTo (fun o => bmF (cs.getD o 0) (cs.getD k 0)) st = none ∧ lastB (braF (cs.getD k 0)).2 (stkP cs st) = -1) ∨
    ∃ o pre r, popTo (fun o => bmF (cs.getD o 0) (cs.getD k 0)) st = some (o, r) ∧ st = pre ++ o :: r ∧ lastB (braF (cs.getD k 0)).2 (stkP cs st) = (r.length : Int)
  | [], _ => .inl ⟨rfl, rfl⟩
  | t :: st, h1 => by
    have ht := h1 t (by simp)
    have hb : bmF (cs.getD t 0) (cs.getD k 0) = decide ((braF (cs.getD t 0)).2 = (braF (cs.getD k 0)).2) := by
      unfold bmF
      rw [ht, h2]
      simp
    have hc : stkP cs (t :: st) = ((t : Int), (braF (cs.getD t 0)).2) :: stkP cs st := rfl
    rw [hc, lastB, popTo]
    by_cases he : (braF (cs.getD t 0)).2 = (braF (cs.getD k 0)).2
    · rw [if_pos (by rw [hb]; exact decide_eq_true he), if_pos he]
      exact .inr ⟨t, [], st, rfl, rfl, by rw [stkP_len]⟩
    · rw [if_neg (by rw [hb]; simpa using he), if_neg he]
      rcases pop_last h2 (st := st) (fun o ho => h1 o (by simp [ho])) with ⟨a, b⟩ | ⟨o, pre, r, a, b, c⟩
      · exact .inl ⟨a, b⟩
      · exact .inr ⟨o, t :: pre, r, a, by rw [b]; rfl, c⟩
/-- What stands on the stack opens. -/
theorem bk_kd (on : Nat → Bool) (kd : Nat → Int) (mt : Nat → Nat → Bool) : ∀ k, ∀ o ∈ (bkA on kd mt k).st, kd o = 1
  | 0 => by simp [bkA]
  | k + 1 => by
    have h := bk_kd on kd mt k
    rw [bkA]
    generalize bkA on kd mt k = s at h
    unfold bkStep
    split
    · exact h
    · split
      · rename_i h1
        split
        · exact h
        · intro o ho
          rcases List.mem_cons.1 ho with rfl | ho
          · exact h1
          · exact h o ho
      · split
        · exact h
        · rename_i o st hpop
          obtain ⟨_, pre, hst⟩ := popTo_some hpop
          exact fun x hx => h x (by rw [hst]; simp [hx])
theorem insB_perm (p : Sp) : ∀ l : List Sp, (insB l p).Perm (p :: l)
  | [] => List.Perm.refl _
  | q :: l => by
    rw [insB]
    split
    · exact ((insB_perm p l).cons q).trans (List.Perm.swap p q l)
    · exact List.Perm.refl _
/-- One more that is found. -/
theorem found_more {o : List Sp} {out : List (Nat × Nat)} (h : o.Perm (prL out)) (p : Nat × Nat) : (o ++ [((p.1 : Int), (p.2 : Int))]).Perm (prL (insP out p)) := by
  rw [prL_ins]
  exact List.perm_append_comm.trans ((h.cons _).trans (insB_perm _ _).symm)
/-- There is one order. -/
theorem lo_one : ∀ {b a : List Sp}, a.Perm b → LoSorted a → b.Pairwise (fun x y => x.1 < y.1) → a = b
  | [], a, hp, _, _ => hp.eq_nil
  | y :: b, a, hp, ha, hb => by
    rw [List.pairwise_cons] at hb
    cases a with
    | nil => exact absurd hp.symm.eq_nil (by simp)
    | cons x a =>
      unfold LoSorted at ha
      rw [List.pairwise_cons] at ha
      have hxy : x = y := by
        have h1 : x ∈ y :: b := hp.mem_iff.1 (by simp)
        have h2 : y ∈ x :: a := hp.mem_iff.2 (by simp)
        rcases List.mem_cons.1 h1 with h1 | h1
        · exact h1
        · rcases List.mem_cons.1 h2 with h2 | h2
          · exact h2.symm
          · have := hb.1 x h1
            have := ha.1 y h2
            omega
      subst hxy
      rw [lo_one (hp.cons_inv) ha.2 hb.2]
theorem prL_sorted {out : List (Nat × Nat)} (h : out.Pairwise fun x y => x.1 < y.1) : (prL out).Pairwise fun x y => x.1 < y.1 := by
  unfold prL
  rw [List.pairwise_map]
  exact h.imp fun h => by simp only; omega
theorem found_all {o l : List Sp} {on : Nat → Bool} {kd : Nat → Int} {mt : Nat → Nat → Bool} {k : Nat} (h : o.Perm (prL (bkA on kd mt k).out)) (hp : l.Perm o) (hl : LoSorted l) : l = prL (bkA on kd mt k).out :=
  lo_one (hp.trans h) hl (prL_sorted (bk_ok on kd mt k).sort)
end Go.Proofs.Ytpddjojgcenlkaa
