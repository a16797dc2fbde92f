/- Steps of what is held in memory while the table is laid. -/
import Derived.Test.YtcbiaeeifclieaaTrK
namespace Go.Proofs.Ytcbiaeeifclieaa
open Go.RowKit

theorem own_ne {w : World} {base : Nat} {e : TypeId} {size n g : Nat} {v : Value} {xs : List Value} (h : w.ownsRow base e size v n xs) (hg : g < base) : v.ownBlock ≠ some g := fun e => by
  have := (h.lt g e).1
  omega
theorem StMem.grown {w0 wr w' : World} {z : Int} {bl : List (List Int)} {wh : List Nat} (h : StMem w0 z bl wh wr) (hg : wr.grownBy w' none) : StMem w0 z bl wh w' := by
  obtain ⟨Z, hZ, hr⟩ := h.res
  obtain ⟨cs, v, h1, h2, h3⟩ := h.st
  obtain ⟨D, h4, h5⟩ := h.map
  exact ⟨⟨Z, hZ, hr.grown hg (by simp)⟩, ⟨cs, v, h1.grown hg (by simp), h2, h3.kept (row := none) hg (by rcases hv : v.ownBlock with _ | g; exact .inl rfl; exact .inr (by simp))⟩, ⟨D, h4.kept hg (by simp), h5⟩,
    h.below.grown hg h.below.size (fun k hk => by cases hk)⟩
theorem StMem.later {w0 wr w' : World} {z : Int} {bl : List (List Int)} {wh : List Nat} (h : StMem w0 z bl wh wr) (hb : Below wr.heap.size wr w') : StMem w0 z bl wh w' := h.grown (grown_of_below' none hb)
/-- A block that was made behind, written whole. -/
theorem StMem.far {w0 wr w' : World} {z : Int} {bl : List (List Int)} {wh : List Nat} (h : StMem w0 z bl wh wr) {b : Nat} (hb : wr.heap.size ≤ b) (hg0 : wr.grownBy w' none) (cs' : Array Value) : StMem w0 z bl wh (w'.setRow b cs') := by
  have hg : w'.grownBy (w'.setRow b cs') (some b) := ⟨rfl, rfl, rfl, by simp, fun i hi hne => by
    have : b ≠ i := fun e => hne (by rw [e])
    simp [World.setRow, Array.getElem?_modify, this]⟩
  obtain ⟨Z, hZ, hr⟩ := h.res
  obtain ⟨cs, v, h1, h2, h3⟩ := h.st
  obtain ⟨D, h4, h5⟩ := h.map
  have l4 := h4.lt
  have hv : v.ownBlock ≠ some b := fun e => by have := (h3.lt b e).2; omega
  have k3 := h3.kept (row := none) hg0 (by rcases hv : v.ownBlock with _ | g; exact .inl rfl; exact .inr (by simp))
  refine ⟨⟨Z, hZ, (hr.grown hg0 (by simp)).grown hg (by simp; omega)⟩, ⟨cs, v, (h1.grown hg0 (by simp)).grown hg (by simp; omega), h2, k3.kept hg (.inr (fun e => hv e))⟩, ⟨D, (h4.kept hg0 (by simp)).kept hg (by simp; omega), h5⟩, ?_⟩
  have b0 := h.below.grown hg0 h.below.size (fun k hk => by cases hk)
  exact b0.grown hg b0.size (fun k hk => by injection hk with hk; omega)
theorem StMem.lay {w0 wr : World} {z : Int} {bl : List (List Int)} {wh : List Nat} (h : StMem w0 z bl wh wr) (hk : wh.length < 8704) (q : Nat) : StMem w0 z bl (wh ++ [q]) (wr.setCell ⟨w0.heap.size + 1, wh.length, none⟩ (.int .u16 q)) := by
  obtain ⟨Z, hZ, hr⟩ := h.res
  obtain ⟨cs, v, h1, h2, h3⟩ := h.st
  obtain ⟨D, h4, h5⟩ := h.map
  exact ⟨⟨Z, hZ, hr.far (by omega) _ _⟩, ⟨_, v, h1.store _ _, h2.lay hk q, own_set_far h3 (own_ne h3 (by omega))⟩, ⟨D, h4.setCell (by simp) _, h5⟩, below_set h.below (by omega) _ _⟩
/-- A block that is new among the unlike ones: in the map, in the row, and the row in the struct. -/
theorem StMem.push {w0 wr w1 w2 w3 : World} {z : Int} {bl : List (List Int)} {wh : List Nat} {b : List Int} {kl : Lit} {D : DataW Unit} {v v' : Value} (h : StMem w0 z bl wh wr) (hwh : wh.length ≤ 8704)
    (hD : MapIs D bl) (hk : keyOf Try.prog 154 (.agg (intsA b)) = some kl) (hn : b ∉ bl)
    (h1 : w1.ownsMap Try.prog 154 (plainElem Try.prog 133) (w0.heap.size + 2) (bl.length + 1) (D.put kl (.lit (.int .u16 (bl.length : Nat))))) (g1 : wr.grownBy w1 (some (w0.heap.size + 2)))
    (g2 : w1.grownBy w2 none) (h2 : w2.ownsRow (w0.heap.size + 3) 154 128 v bl.length (cellsK bl))
    (h3 : w3.ownsRow (w0.heap.size + 3) 154 128 v' (bl.length + 1) (cellsK bl ++ b.map (Value.int .i64))) (g3 : w2.grownBy w3 v.ownBlock) :
    StMem w0 z (bl ++ [b]) wh (w3.setCell ⟨w0.heap.size + 1, 8704, none⟩ v') := by
  obtain ⟨Z, hZ, hr⟩ := h.res
  obtain ⟨cs, _, c1, c2, _⟩ := h.st
  have hv0 : ∀ g, g < w0.heap.size + 3 → v.ownBlock ≠ some g := fun g hg => own_ne h2 hg
  have hrow : ∀ g, g < w0.heap.size + 3 → v'.ownBlock ≠ some g := fun g hg => own_ne h3 hg
  have c1' := ((c1.grown g1 (by simp)).grown g2 (by simp)).grown g3 (hv0 _ (by omega))
  have hone : v'.oneCell' = true := by
    obtain ⟨_, _, rfl, _⟩ := own_form h3
    rfl
  have hlen : (bl ++ [b]).length = bl.length + 1 := by simp
  refine ⟨⟨Z, hZ, (((hr.grown g1 (by simp)).grown g2 (by simp)).grown g3 (hv0 _ (by omega))).far (by omega) _ _⟩, ⟨_, v', c1'.store _ _, c2.grow hwh v' hone, ?_⟩, ⟨_, ?_, hD.put hk hn⟩, ?_⟩
  · rw [hlen, cellsK_snoc]
    exact own_set_far h3 (hrow _ (by omega))
  · rw [hlen]
    exact ((h1.kept g2 (by simp)).kept g3 (fun e => hv0 _ (by omega) e.symm)).setCell (by simp) _
  · refine below_set ?_ (by omega) _ _
    have b1 := h.below.grown g1 h.below.size (fun k hk => by injection hk with hk; omega)
    have b2 := b1.grown g2 b1.size (fun k hk => by cases hk)
    exact b2.grown g3 b2.size (fun k hk => by have := h2.lt k hk; omega)
end Go.Proofs.Ytcbiaeeifclieaa
