/- An array of the call's own: a block of whole numbers. -/
import Derived.Test.YtcbiaeeifclieaaRgD
import Derived.Test.YtcbiaeeifclieaaMem3
namespace Go.Proofs.Ytcbiaeeifclieaa
open Go.RowKit

/-- Block 'b' holds the whole numbers 'xs', none of them frozen. -/
def IntBlk (w : World) (b : Nat) (xs : List Int) : Prop := ∃ t, w.heap[b]? = some (.cells (xs.map (Value.int .i64)).toArray t (0, 0))
theorem IntBlk.lt {w : World} {b : Nat} {xs : List Int} (h : IntBlk w b xs) : b < w.heap.size := by
  obtain ⟨t, h⟩ := h
  exact (Array.getElem?_eq_some_iff.1 h).1
theorem IntBlk.cell {w : World} {b : Nat} {xs : List Int} (h : IntBlk w b xs) {j : Nat} {x : Int} (hj : xs[j]? = some x) : w.cell? ⟨b, j, none⟩ = some (.int .i64 x) := by
  obtain ⟨t, h⟩ := h
  simp [World.cell?, h, hj]
theorem IntBlk.thaw {w : World} {b : Nat} {xs : List Int} (h : IntBlk w b xs) (j : Nat) : w.frozen? ⟨b, j, none⟩ = false := by
  obtain ⟨t, h⟩ := h
  simp [World.frozen?, h]
theorem IntBlk.store {w : World} {b : Nat} {xs : List Int} (h : IntBlk w b xs) (j : Nat) (x : Int) : IntBlk (w.setCell ⟨b, j, none⟩ (.int .i64 x)) b (xs.set j x) := by
  obtain ⟨t, h⟩ := h
  refine ⟨t, ?_⟩
  simp [World.setCell, Array.getElem?_modify, h, List.map_set]
theorem IntBlk.far {w : World} {b b' : Nat} {xs : List Int} (h : IntBlk w b xs) (hne : b ≠ b') (j : Nat) (u : Value) : IntBlk (w.setCell ⟨b', j, none⟩ u) b xs := by
  obtain ⟨t, h⟩ := h
  exact ⟨t, (Below.heap_setCell w ⟨b', j, none⟩ u b hne).trans h⟩
theorem IntBlk.grown {w w' : World} {b : Nat} {xs : List Int} {row : Option Nat} (h : IntBlk w b xs) (hg : w.grownBy w' row) (hne : row ≠ some b) : IntBlk w' b xs := by
  obtain ⟨t, h⟩ := h
  exact ⟨t, blk_grown h hg hne⟩
theorem IntBlk.below {w w' : World} {b : Nat} {xs : List Int} (h : IntBlk w b xs) (hb : Below w.heap.size w w') : IntBlk w' b xs := by
  have hl := h.lt
  obtain ⟨t, h⟩ := h
  exact ⟨t, (hb.block b hl).trans h⟩
theorem IntBlk.drewN {w : World} {b : Nat} {xs : List Int} (h : IntBlk w b xs) (n : Nat) : IntBlk (w.drewN n) b xs := h
/-- A store into a block that the call made leaves what was there before it. -/
theorem below_set {w wr : World} {b : Nat} (h : Below w.heap.size w wr) (hb : w.heap.size ≤ b) (j : Nat) (u : Value) : Below w.heap.size w (wr.setCell ⟨b, j, none⟩ u) :=
  ⟨h.os, h.tape, h.output, by simpa [World.setCell] using h.size, fun i hi => (Below.heap_setCell wr ⟨b, j, none⟩ u i (by simp only; omega)).trans (h.block i hi)⟩
end Go.Proofs.Ytcbiaeeifclieaa
