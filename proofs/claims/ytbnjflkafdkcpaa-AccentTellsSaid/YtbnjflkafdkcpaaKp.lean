/- Which blocks a call may write. -/
import Derived.Test.YtbnjflkafdkcpaaMem2
namespace Go.Proofs.Ytbnjflkafdkcpaa
open Go.RowKit

/-- w' is w with new blocks, and with writes to the blocks of S alone. -/
structure Kept (w w' : World) (S : List Nat) : Prop where
  os : w'.os = w.os
  tape : w'.tape = w.tape
  output : w'.output = w.output
  size : w.heap.size ≤ w'.heap.size
  block : ∀ i, i < w.heap.size → i ∉ S → w'.heap[i]? = w.heap[i]?
theorem Kept.refl (w : World) (S : List Nat) : Kept w w S := ⟨rfl, rfl, rfl, Nat.le_refl _, fun _ _ _ => rfl⟩
theorem Kept.trans {a b c : World} {S : List Nat} (h : Kept a b S) (k : Kept b c S) : Kept a c S :=
  ⟨k.os.trans h.os, k.tape.trans h.tape, k.output.trans h.output, Nat.le_trans h.size k.size, fun i hi hs => (k.block i (Nat.lt_of_lt_of_le hi h.size) hs).trans (h.block i hi hs)⟩
theorem Kept.of_grown {a b : World} {g : Nat} {S : List Nat} (h : a.grownBy b (some g)) (hg : g ∈ S) : Kept a b S :=
  ⟨h.os, h.tape, h.output, h.size, fun i hi hs => h.block i hi (fun e => hs (by obtain rfl := Option.some.inj e; exact hg))⟩
theorem Kept.of_below {a b : World} (h : Below a.heap.size a b) (S : List Nat) : Kept a b S := ⟨h.os, h.tape, h.output, h.size, fun i hi _ => h.block i hi⟩
theorem Kept.drew {a b : World} {S : List Nat} (h : Kept a b S) : Kept a b.drew S := ⟨h.os, h.tape, h.output, h.size, h.block⟩
theorem Kept.set {a b : World} {S : List Nat} (h : Kept a b S) {g : Nat} (hg : g ∈ S ∨ a.heap.size ≤ g) (j : Nat) (u : Value) : Kept a (b.setCell ⟨g, j, none⟩ u) S :=
  ⟨h.os, h.tape, h.output, by simpa [World.setCell] using h.size, fun i hi hs => (Below.heap_setCell b ⟨g, j, none⟩ u i (by
    show i ≠ g
    rintro rfl
    rcases hg with hg | hg
    · exact hs hg
    · omega)).trans (h.block i hi hs)⟩
theorem Kept.heap {w w' : World} {S : List Nat} (h : Kept w w' S) {g : Nat} {o : Obj} (hg : w.heap[g]? = some o) (hs : g ∉ S) : w'.heap[g]? = some o := by
  have hlt : g < w.heap.size := by
    rcases Nat.lt_or_ge g w.heap.size with h' | h'
    · exact h'
    · rw [Array.getElem?_eq_none h'] at hg
      cases hg
  exact (h.block g hlt hs).trans hg
theorem Kept.cell {w w' : World} {S : List Nat} (h : Kept w w' S) {g j : Nat} {v : Value} (hc : w.cell? ⟨g, j, none⟩ = some v) (hs : g ∉ S) : w'.cell? ⟨g, j, none⟩ = some v := by
  have hlt : g < w.heap.size := cell_lt hc
  unfold World.cell? at hc ⊢
  rw [show w'.heap[(⟨g, j, none⟩ : Addr).block]? = w.heap[(⟨g, j, none⟩ : Addr).block]? from h.block g hlt hs]
  exact hc
theorem heap_lt {w : World} {g : Nat} {o : Obj} (h : w.heap[g]? = some o) : g < w.heap.size := by
  rcases Nat.lt_or_ge g w.heap.size with h' | h'
  · exact h'
  · rw [Array.getElem?_eq_none h'] at h
    cases h
theorem frozen_of_heap {w : World} {g : Nat} {cs : Array Value} {t : TypeId} (h : w.heap[g]? = some (.cells cs t (0, 0))) (j : Nat) : w.frozen? ⟨g, j, none⟩ = false := by
  unfold World.frozen?
  rw [show w.heap[(⟨g, j, none⟩ : Addr).block]? = _ from h]
  rfl
theorem heap_setCell_far {w : World} {g k : Nat} (h : k ≠ g) (j : Nat) (u : Value) : (w.setCell ⟨g, j, none⟩ u).heap[k]? = w.heap[k]? := Below.heap_setCell w ⟨g, j, none⟩ u k h
end Go.Proofs.Ytbnjflkafdkcpaa
