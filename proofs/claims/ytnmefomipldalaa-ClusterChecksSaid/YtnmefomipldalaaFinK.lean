/- cluster's side: a side in memory; what take does, as mathematics. -/
import Derived.Test.YtnmefomipldalaaFinT
import Derived.Test.YtnmefomipldalaaFinD
import Derived.Test.YtnmefomipldalaaHullD
namespace Go.Proofs.Ytnmefomipldalaa
open Go.RowKit

/-- The places from p on, below E, made one set. -/
def cutR (r : Nat → Nat) (p E : Nat) : Nat → Nat := fun i => if p ≤ i ∧ i < E then p else r i
def cutE (e : Nat → Nat) (p E : Nat) : Nat → Nat := fun x => if x = p then E else e x
def cutM (M : Nat → Option Sp) (p E : Nat) : Nat → Option Sp := fun k => if p < k ∧ k < E then none else M k
def hulO (a : Sp) : Option Sp → Sp
  | none => a
  | some b => hullMore a b
/-- The hull of a span and of all that belongs to the next j places from p on. -/
def hulT (a : Sp) (M : Nat → Option Sp) (p : Nat) : Nat → Sp
  | 0 => a
  | j + 1 => hulO (hulT a M p j) (M (p + j))
theorem hullMore_right {a b : Sp} (ha : rightB a = true) (hb : rightB b = true) : rightB (hullMore a b) = true := by
  unfold rightB at *
  rw [decide_eq_true_eq] at *
  unfold hullMore
  simp only
  constructor <;> (repeat' split) <;> omega
theorem hullS_two {a : Sp} (ha : rightB a = true) (o : Option Sp) (ho : ∀ b, o = some b → rightB b = true) : hullS [a, o.getD (0, 0)] = hulO a o := by
  have h0 : hullStep (0, 0) a = a := by
    unfold hullStep
    rw [if_pos ha, if_neg (by decide)]
    unfold hullMore
    simp
  cases o with
  | none =>
    show hullStep (hullStep (0, 0) a) (0, 0) = a
    rw [h0]
    exact if_neg (by decide)
  | some b =>
    show hullStep (hullStep (0, 0) a) b = hullMore a b
    rw [h0]
    unfold hullStep
    rw [if_pos (ho b rfl), if_pos ha]
theorem hulO_right {a : Sp} (ha : rightB a = true) {o : Option Sp} (ho : ∀ b, o = some b → rightB b = true) : rightB (hulO a o) = true := by
  cases o with
  | none => exact ha
  | some b => exact hullMore_right ha (ho b rfl)
theorem hulT_right {a : Sp} (ha : rightB a = true) {M : Nat → Option Sp} (hM : ∀ k s, M k = some s → rightB s = true) (p j : Nat) : rightB (hulT a M p j) = true := by
  induction j with
  | zero => exact ha
  | succ j ih => exact hulO_right ih (fun b hb => hM _ _ hb)
/-- Places that belong to nothing add nothing. -/
theorem hulT_skip (a : Sp) {M : Nat → Option Sp} {p i j : Nat} (hij : i ≤ j) (h : ∀ k, i ≤ k → k < j → M (p + k) = none) : hulT a M p j = hulT a M p i := by
  induction j with
  | zero => rw [show i = 0 by omega]
  | succ j ih =>
    by_cases e : i = j + 1
    · rw [e]
    · show hulO (hulT a M p j) (M (p + j)) = _
      rw [h j (by omega) (by omega)]
      exact ih (by omega) (fun k h1 h2 => h k h1 (by omega))
/-- Which places have something that belongs to them: first ones alone; each of it is a right span. -/
structure Doms (n : Nat) (r : Nat → Nat) (M : Nat → Option Sp) : Prop where
  dom : ∀ k s, M k = some s → k < n ∧ r k = k
  right : ∀ k s, M k = some s → rightB s = true
section
variable {n : Nat} {r e : Nat → Nat} {M : Nat → Option Sp} {p E : Nat}
theorem cutR_root (hE : p < E) : cutR r p E p = p := if_pos ⟨Nat.le_refl _, hE⟩
/-- Nothing is cut where the set ends. -/
theorem cut_start (h : Part n r e) (hp : r p = p) (hpn : p < n) : cutR r p (e p) = r ∧ cutE e p (e p) = e := by
  constructor
  · funext i
    unfold cutR
    split
    · rename_i hi
      exact ((h.same p i hpn (by rw [hp]; exact hi.1) (by rw [hp]; exact hi.2)).trans hp).symm
    · rfl
  · funext x
    unfold cutE
    split
    · rename_i hx; rw [hx]
    · rfl
theorem cutM_start (h : Part n r e) (hD : Doms n r M) (hp : r p = p) (hpn : p < n) : cutM M p (e p) = M := by
  funext k
  unfold cutM
  split
  · rename_i hk
    cases hm : M k with
    | none => rfl
    | some s =>
      have h1 := (hD.dom k s hm).2
      have h2 := h.same p k hpn (by rw [hp]; omega) (by rw [hp]; exact hk.2)
      rw [h1, hp] at h2
      omega
  · rfl
/-- The set of p, cut at E, and the next set made one. -/
theorem cut_unite (hE : p < E) (hEr : r E = E) (hEe : E < e E) : uniR (cutR r p E) (cutE e p E) p = cutR r p (e E) ∧ uniE (cutE e p E) p = cutE e p (e E) := by
  have h1 : cutE e p E p = E := if_pos rfl
  have h2 : cutE e p E E = e E := if_neg (by omega)
  constructor
  · funext i
    unfold uniR cutR
    rw [h1, h2]
    by_cases c1 : E ≤ i ∧ i < e E
    · rw [if_pos c1, if_pos (by omega)]
    · rw [if_neg c1]
      by_cases c2 : p ≤ i ∧ i < E
      · rw [if_pos c2, if_pos (by omega)]
      · rw [if_neg c2, if_neg (by omega)]
  · funext x
    unfold uniE cutE
    by_cases c : x = p
    · rw [if_pos c, if_pos c, if_pos rfl, if_neg (by omega)]
    · rw [if_neg c, if_neg c, if_neg c]
theorem cutM_next (h : Part n r e) (hD : Doms n r M) (hE : p < E) (hEr : r E = E) (hEn : E < n) : delM (cutM M p E) E = cutM M p (e E) := by
  have hlt := h.lt E hEn
  rw [hEr] at hlt
  funext k
  unfold delM cutM
  by_cases c : k = E
  · rw [if_pos c, if_pos (by omega)]
  · rw [if_neg c]
    by_cases c1 : p < k ∧ k < E
    · rw [if_pos c1, if_pos (by omega)]
    · rw [if_neg c1]
      by_cases c2 : p < k ∧ k < e E
      · rw [if_pos c2]
        cases hm : M k with
        | none => rfl
        | some s =>
          have h1 := (hD.dom k s hm).2
          have h2 := h.same E k hEn (by rw [hEr]; omega) (by rw [hEr]; exact c2.2)
          rw [h1, hEr] at h2
          omega
      · rw [if_neg c2]
theorem hulT_next (h : Part n r e) (hD : Doms n r M) (a : Sp) (hE : p < E) (hEr : r E = E) (hEn : E < n) : hulT a M p (e E - p) = hulO (hulT a M p (E - p)) (M E) := by
  have hlt := h.lt E hEn
  rw [hEr] at hlt
  have h1 : hulT a M p (E - p + 1) = hulO (hulT a M p (E - p)) (M E) := by
    show hulO (hulT a M p (E - p)) (M (p + (E - p))) = _
    rw [show p + (E - p) = E by omega]
  rw [← h1]
  refine hulT_skip a (by omega) (fun k h2 h3 => ?_)
  cases hm : M (p + k) with
  | none => rfl
  | some s =>
    have h4 := (hD.dom _ s hm).2
    have h5 := h.same E (p + k) hEn (by rw [hEr]; omega) (by rw [hEr]; omega)
    rw [h4, hEr] at h5
    omega
theorem hulT_first (h : Part n r e) (hD : Doms n r M) (a : Sp) (hp : r p = p) (hpn : p < n) : hulT a M p (e p - p) = hulO a (M p) := by
  have hlt := h.lt p hpn
  rw [hp] at hlt
  have h1 : hulT a M p 1 = hulO a (M p) := rfl
  rw [← h1]
  refine hulT_skip a (by omega) (fun k h2 h3 => ?_)
  cases hm : M (p + k) with
  | none => rfl
  | some s =>
    have h4 := (hD.dom _ s hm).2
    have h5 := h.same p (p + k) hpn (by rw [hp]; omega) (by rw [hp]; omega)
    rw [h4, hp] at h5
    omega
end
/-- A side: its sets and what belongs to each of them. -/
structure SideAt (w : World) (b gA gE mB n : Nat) (r e : Nat → Nat) (M : Nat → Option Sp) : Prop where
  ex : ∃ ah en, SetsAt w b gA gE n ah en ∧ Forest n ah r ∧ ∀ i, r i = i → i < n → en[i]? = some (e i)
  c2 : w.cell? ⟨b, 2, none⟩ = some (.map (some mB))
  map : MapAt w mB n M
  part : Part n r e
  ne1 : mB ≠ gA
  ne2 : mB ≠ gE
  ne3 : mB ≠ b
theorem cell_of_heap {w w' : World} {g : Nat} (h : w'.heap[g]? = w.heap[g]?) (j : Nat) : w'.cell? ⟨g, j, none⟩ = w.cell? ⟨g, j, none⟩ := by
  unfold World.cell?
  rw [show w'.heap[(⟨g, j, none⟩ : Addr).block]? = w.heap[(⟨g, j, none⟩ : Addr).block]? from h]
/-- What leaves a side's blocks alone leaves the side. -/
theorem SideAt.heap {w w' : World} {b gA gE mB n : Nat} {r e : Nat → Nat} {M : Nat → Option Sp} (h : SideAt w b gA gE mB n r e M) (hb : w'.heap[b]? = w.heap[b]?) (hA : w'.heap[gA]? = w.heap[gA]?) (hE : w'.heap[gE]? = w.heap[gE]?) (hm : w'.heap[mB]? = w.heap[mB]?) : SideAt w' b gA gE mB n r e M := by
  obtain ⟨ah, en, hS, hF, hEn⟩ := h.ex
  exact ⟨⟨ah, en, ⟨(cell_of_heap hb 0).trans hS.c0, (cell_of_heap hb 1).trans hS.c1, hA.trans hS.hA, hE.trans hS.hE, hS.lA, hS.lE, hS.ne1, hS.ne2, hS.ne3⟩, hF, hEn⟩, (cell_of_heap hb 2).trans h.c2, h.map.heap hm, h.part, h.ne1, h.ne2, h.ne3⟩
theorem SideAt.kept {w w' : World} {b gA gE mB n : Nat} {r e : Nat → Nat} {M : Nat → Option Sp} (h : SideAt w b gA gE mB n r e M) {S : List Nat} (hk : Kept w w' S) (hb : b ∉ S) (hA : gA ∉ S) (hE : gE ∉ S) (hm : mB ∉ S) : SideAt w' b gA gE mB n r e M := by
  obtain ⟨ah, en, hS, _, _⟩ := h.ex
  exact h.heap (hk.block b (cell_lt hS.c0) hb) (hk.block gA (heap_lt hS.hA) hA) (hk.block gE (heap_lt hS.hE) hE) (hk.block mB h.map.lt hm)
end Go.Proofs.Ytnmefomipldalaa
