/- cluster's sets in memory; the set that a place is in. -/
import Derived.Test.YtnmefomipldalaaFinP
import Derived.Test.YtnmefomipldalaaMem3
import Derived.Test.YtnmefomipldalaaSpBlk
import Derived.RegionTactic
namespace Go.Proofs.Ytnmefomipldalaa
open Go.RowKit

def ints (l : List Nat) : List Value := l.map fun (x : Nat) => Value.int .i64 (x : Int)
/-- The ways to the first place: each place names one of its set that is nearer to it; the first one itself. -/
def Forest (n : Nat) (ah : List Nat) (r : Nat → Nat) : Prop := ah.length = n ∧ ∀ (i a : Nat), ah[i]? = some a → a ≤ i ∧ r a = r i ∧ (a = i ↔ r i = i)
theorem Forest.halve {n : Nat} {ah : List Nat} {r : Nat → Nat} (h : Forest n ah r) {i a b : Nat} (ha : ah[i]? = some a) (hb : ah[a]? = some b) : Forest n (ah.set i b) r := by
  refine ⟨by rw [List.length_set]; exact h.1, fun j x hx => ?_⟩
  by_cases hj : j = i
  · subst hj
    rw [List.getElem?_set_self (List.getElem?_eq_some_iff.1 ha).1] at hx
    obtain rfl := Option.some.inj hx
    obtain ⟨a1, a2, a3⟩ := h.2 j a ha
    obtain ⟨b1, b2, b3⟩ := h.2 a b hb
    refine ⟨by omega, b2.trans a2, ⟨fun e => ?_, fun e => ?_⟩⟩
    · have : a = j := by omega
      exact a3.1 this
    · have e1 := a3.2 e
      subst e1
      exact b3.2 e
  · rw [List.getElem?_set_ne (fun e => hj e.symm)] at hx
    exact h.2 j x hx
/-- A side's sets: the ways, the ends. -/
structure SetsAt (w : World) (b gA gE n : Nat) (ah en : List Nat) : Prop where
  c0 : w.cell? ⟨b, 0, none⟩ = some (.slice (some ⟨gA, 0, none⟩) n n)
  c1 : w.cell? ⟨b, 1, none⟩ = some (.slice (some ⟨gE, 0, none⟩) n n)
  hA : w.heap[gA]? = some (.cells (ints ah).toArray 3 (0, 0))
  hE : w.heap[gE]? = some (.cells (ints en).toArray 3 (0, 0))
  lA : ah.length = n
  lE : en.length = n
  ne1 : gA ≠ b
  ne2 : gE ≠ b
  ne3 : gA ≠ gE
theorem cells_of_heap {w : World} {g : Nat} {l : List Nat} {t : TypeId} (h : w.heap[g]? = some (.cells (ints l).toArray t (0, 0))) {i x : Nat} (hx : l[i]? = some x) : w.cell? ⟨g, i, none⟩ = some (.int .i64 (x : Int)) := by
  have hl : (ints l).toArray[i]? = some (.int .i64 (x : Int)) := by
    rw [List.getElem?_toArray, ints, List.getElem?_map, hx]
    rfl
  unfold World.cell?
  rw [show w.heap[(⟨g, i, none⟩ : Addr).block]? = _ from h]
  exact hl
theorem SetsAt.grown {w w' : World} {b gA gE n : Nat} {ah en ah' : List Nat} (h : SetsAt w b gA gE n ah en) (hg : w.grownBy w' (some gA)) (hA : w'.heap[gA]? = some (.cells (ints ah').toArray 3 (0, 0))) (hl : ah'.length = n) : SetsAt w' b gA gE n ah' en := by
  have hb := cell_lt h.c0
  have hc : ∀ j, w'.cell? ⟨b, j, none⟩ = w.cell? ⟨b, j, none⟩ := fun j => by
    unfold World.cell?
    rw [show w'.heap[b]? = w.heap[b]? from hg.block b hb (fun e => h.ne1 (Option.some.inj e).symm)]
  refine ⟨(hc 0).trans h.c0, (hc 1).trans h.c1, hA, blk_grown h.hE hg (fun e => h.ne3 (Option.some.inj e)), hl, h.lE, h.ne1, h.ne2, h.ne3⟩
end Go.Proofs.Ytnmefomipldalaa
