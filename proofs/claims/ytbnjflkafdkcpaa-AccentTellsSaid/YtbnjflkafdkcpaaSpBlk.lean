/- A block of one span, known whole, and what becomes of it. -/
import Derived.Test.YtbnjflkafdkcpaaSpD
namespace Go.Proofs.Ytbnjflkafdkcpaa
open Go.RowKit

/-- A block of one span, known whole, that may be written. -/
def SpanBlk (w : World) (b : Nat) (s : Sp) : Prop := w.cell? ⟨b, 0, none⟩ = some (.int .i64 s.1) ∧ w.cell? ⟨b, 1, none⟩ = some (.int .i64 s.2) ∧ w.frozen? ⟨b, 0, none⟩ = false ∧ w.frozen? ⟨b, 1, none⟩ = false

theorem SpanBlk.below {w w' : World} {b : Nat} {s : Sp} (h : SpanBlk w b s) (hb : Below w.heap.size w w') : SpanBlk w' b s :=
  ⟨cell_below hb h.1, cell_below hb h.2.1, (hb.frozen (cell_lt h.1)).trans h.2.2.1, (hb.frozen (cell_lt h.2.1)).trans h.2.2.2⟩
theorem SpanBlk.put {w : World} {b : Nat} {s : Sp} (h : SpanBlk w b s) (x y : Int) : SpanBlk ((w.setCell ⟨b, 0, none⟩ (.int .i64 x)).setCell ⟨b, 1, none⟩ (.int .i64 y)) b (x, y) := by
  obtain ⟨h0, h1, h2, h3⟩ := h
  have e1 : (w.setCell ⟨b, 0, none⟩ (.int .i64 x)).cell? ⟨b, 1, none⟩ = some (.int .i64 s.2) := (World.cell?_setCell_other (h := by simp) ..).trans h1
  refine ⟨?_, World.cell?_setCell_same (h := e1) .., ?_, ?_⟩
  · exact (World.cell?_setCell_other (h := by simp) ..).trans (World.cell?_setCell_same (h := h0) ..)
  · rw [World.frozen?_setCell, World.frozen?_setCell]; exact h2
  · rw [World.frozen?_setCell, World.frozen?_setCell]; exact h3
theorem SpanBlk.far {w : World} {b b' : Nat} {s : Sp} (h : SpanBlk w b s) (hne : b ≠ b') (u v : Value) : SpanBlk ((w.setCell ⟨b', 0, none⟩ u).setCell ⟨b', 1, none⟩ v) b s := by
  obtain ⟨h0, h1, h2, h3⟩ := h
  refine ⟨?_, ?_, ?_, ?_⟩
  · exact (World.cell?_setCell_other (h := by first | (simp; done) | (simp; omega)) ..).trans ((World.cell?_setCell_other (h := by first | (simp; done) | (simp; omega)) ..).trans h0)
  · exact (World.cell?_setCell_other (h := by first | (simp; done) | (simp; omega)) ..).trans ((World.cell?_setCell_other (h := by first | (simp; done) | (simp; omega)) ..).trans h1)
  · rw [World.frozen?_setCell, World.frozen?_setCell]; exact h2
  · rw [World.frozen?_setCell, World.frozen?_setCell]; exact h3

theorem only_setCell {a w : World} {g : Nat} (h : a.grownBy w (some g)) {p : Addr} (hp : p.block = g ∨ a.heap.size ≤ p.block) (u : Value) : a.grownBy (w.setCell p u) (some g) :=
  ⟨h.os, h.tape, h.output, by simpa [World.setCell] using h.size, fun i hi hne => (Below.heap_setCell w p u i (by
    rintro rfl
    rcases hp with hp | hp
    · exact hne (by rw [hp])
    · omega)).trans (h.block i hi hne)⟩
theorem SpanBlk.grown {w w' : World} {b : Nat} {s : Sp} {row : Option Nat} (h : SpanBlk w b s) (hg : w.grownBy w' row) (hne : row ≠ some b) : SpanBlk w' b s := by
  obtain ⟨h0, h1, h2, h3⟩ := h
  have hb := cell_lt h0
  have e := hg.block b hb (fun e => hne e.symm)
  have ec : ∀ i, w'.cell? ⟨b, i, none⟩ = w.cell? ⟨b, i, none⟩ := fun i => World.cell?_of_block (a := ⟨b, i, none⟩) e
  have ef : ∀ i, w'.frozen? ⟨b, i, none⟩ = w.frozen? ⟨b, i, none⟩ := fun i => by unfold World.frozen?; rw [e]
  exact ⟨(ec 0).trans h0, (ec 1).trans h1, (ef 0).trans h2, (ef 1).trans h3⟩
theorem SpanBlk.put0 {w : World} {b : Nat} {s : Sp} (h : SpanBlk w b s) (x : Int) : SpanBlk (w.setCell ⟨b, 0, none⟩ (.int .i64 x)) b (x, s.2) := by
  obtain ⟨h0, h1, h2, h3⟩ := h
  refine ⟨World.cell?_setCell_same (h := h0) .., (World.cell?_setCell_other (h := by simp) ..).trans h1, ?_, ?_⟩
  · rw [World.frozen?_setCell]; exact h2
  · rw [World.frozen?_setCell]; exact h3
theorem own_set_far {w : World} {base : Nat} {e : TypeId} {size n b i : Nat} {v u : Value} {xs : List Value} (h : w.ownsRow base e size v n xs) (hne : v.ownBlock ≠ some b) : (w.setCell ⟨b, i, none⟩ u).ownsRow base e size v n xs :=
  h.kept (row := some b) (only_setCell (World.grownBy.refl w _) (.inl rfl) u) (.inr hne)
theorem below_make {w w' : World} (hg : w.grownBy w' none) : Below w.heap.size w w' := (Below.refl _ _).grown hg (Nat.le_refl _) (fun k hk => by cases hk)
theorem SpanBlk.new_ (w : World) (x y : Int) (t : TypeId) : SpanBlk (w.alloc (.cells #[.int .i64 x, .int .i64 y] t)) w.heap.size (x, y) := by
  refine ⟨?_, ?_, ?_, ?_⟩ <;> simp [go_sem]

end Go.Proofs.Ytbnjflkafdkcpaa
