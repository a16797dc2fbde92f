/- A row of the call's own behind a box that a closure writes. -/
import Derived.Test.YtbnjflkafdkcpaaMem3
import Derived.Test.YtbnjflkafdkcpaaSpBlk
import Derived.Test.YtbnjflkafdkcpaaHp
import Derived.Test.YtbnjflkafdkcpaaOwR
import Derived.Test.YtbnjflkafdkcpaaKp
namespace Go.Proofs.Ytbnjflkafdkcpaa
open Go.RowKit

/-- It is no cells (a map). -/
def NotC (o : Obj) : Prop := ∀ cs t z, o ≠ .cells cs t z
/-- Blocks that are no cells are as they were. -/
def NoC (w w' : World) : Prop := ∀ (i : Nat) (o : Obj), w.heap[i]? = some o → NotC o → w'.heap[i]? = some o
theorem NoC.refl (w : World) : NoC w w := fun _ _ h _ => h
theorem NoC.trans {a b c : World} (h : NoC a b) (k : NoC b c) : NoC a c := fun i o h1 h2 => k i o (h i o h1 h2) h2
theorem NoC.low {w w' : World} (h : Below w.heap.size w w') : NoC w w' := fun i _ h1 _ => (h.block i (hp_lt h1)).trans h1
theorem NoC.own {w w' : World} {base : Nat} {e : TypeId} {size n : Nat} {v : Value} {xs : List Value} (h : w.ownsRow base e size v n xs) (hg : w.grownBy w' v.ownBlock) : NoC w w' := fun i o h1 h2 => by
  refine (hg.block i (hp_lt h1) fun e9 => ?_).trans h1
  obtain ⟨cs, hcs⟩ := own_row h i e9.symm
  rw [h1] at hcs
  exact h2 _ _ _ (Option.some.inj hcs)
theorem NoC.set {w : World} {b : Nat} {cs : Array Value} {t : TypeId} (h : w.heap[b]? = some (.cells cs t (0, 0))) (j : Nat) (u : Value) : NoC w (w.setCell ⟨b, j, none⟩ u) := fun i o h1 h2 => by
  refine (hp_far (fun e => ?_) j u).trans h1
  subst e
  rw [h] at h1
  exact h2 _ _ _ (Option.some.inj h1).symm
/-- Writes to blocks that are no cells leave cells alone. -/
theorem kept_cells {w w' : World} {S : List Nat} (hk : Kept w w' S) (hs : ∀ i ∈ S, ∃ o : Obj, w.heap[i]? = some o ∧ NotC o) {b : Nat} {cs : Array Value} {t : TypeId} (h : w.heap[b]? = some (.cells cs t (0, 0))) : w'.heap[b]? = some (.cells cs t (0, 0)) := by
  refine (hk.block b (hp_lt h) fun hb => ?_).trans h
  obtain ⟨o, h1, h2⟩ := hs b hb
  rw [h] at h1
  exact h2 _ _ _ (Option.some.inj h1).symm
theorem kept_rd {w w' : World} {S : List Nat} (hk : Kept w w' S) (hs : ∀ i ∈ S, ∃ o : Obj, w.heap[i]? = some o ∧ NotC o) {size n : Nat} {A : Option Addr} {xs : List Value} (h : Rd w size A n xs) (h0 : 0 < size) : Rd w' size A n xs :=
  ⟨h.1, fun hn => by
    obtain ⟨ad, e, hlt, hc⟩ := h.2 hn
    have hne : ad.block ∉ S := fun hm => by
      obtain ⟨u, hu⟩ : ∃ u, xs[0]? = some u := ⟨_, List.getElem?_eq_getElem (by rw [h.1]; exact Nat.mul_pos hn h0)⟩
      have hcu := hc 0 u hu
      obtain ⟨o, h1, h2⟩ := hs _ hm
      unfold World.cell? at hcu
      rw [show (ad.add 0).block = ad.block from by rw [blockAdd], h1] at hcu
      cases o with
      | cells cs t z => exact h2 _ _ _ rfl
      | _ => cases hcu
    refine ⟨ad, e, Nat.lt_of_lt_of_le hlt hk.size, fun j u hu => ?_⟩
    have hb := hk.block _ hlt hne
    have := hc j u hu
    unfold World.cell? at this ⊢
    rwa [show (ad.add j).block = ad.block from by rw [blockAdd], hb, show ad.block = (ad.add j).block from by rw [blockAdd]]⟩
theorem kept_below {w0 w w' : World} {base : Nat} {S : List Nat} (hk : Kept w w' S) (hs : ∀ i ∈ S, base ≤ i) (h : Below base w0 w) (hb : base ≤ w.heap.size) : Below base w0 w' :=
  h.trans ⟨hk.os, hk.tape, hk.output, hk.size, fun i hi => hk.block i (Nat.lt_of_lt_of_le hi hb) fun hm => by have := hs i hm; omega⟩
theorem kept_own {w w' : World} {S : List Nat} (hk : Kept w w' S) (hs : ∀ i ∈ S, ∃ o : Obj, w.heap[i]? = some o ∧ NotC o) {base : Nat} {e : TypeId} {size n : Nat} {v : Value} {xs : List Value} (h : w.ownsRow base e size v n xs) : w'.ownsRow base e size v n xs := by
  refine ⟨h.1, ?_⟩
  rcases h.2 with h' | ⟨g, cap, cur, rfl, hb, hg, r⟩
  · exact .inl h'
  · exact .inr ⟨g, cap, cur, rfl, hb, kept_cells hk hs hg, r⟩
/-- Box b holds a row of the call's own. -/
structure BxR (w0 : World) (base b : Nat) (T e : TypeId) (size : Nat) (v : Value) (n : Nat) (xs : List Value) (w : World) : Prop where
  box : w.heap[b]? = some (.cells #[v] T (0, 0))
  row : w.ownsRow base e size v n xs
  bel : Below base w0 w
  lo : base ≤ b
section
variable {w0 w w1 : World} {base b : Nat} {T e : TypeId} {size n n1 : Nat} {v v1 : Value} {xs xs1 : List Value}
theorem BxR.base_le (h : BxR w0 base b T e size v n xs w) : base ≤ w.heap.size := Nat.le_trans h.lo (Nat.le_of_lt (hp_lt h.box))
theorem BxR.kept {S : List Nat} (h : BxR w0 base b T e size v n xs w) (hk : Kept w w1 S) (hs : ∀ i ∈ S, ∃ o : Obj, w.heap[i]? = some o ∧ NotC o) (hl : ∀ i ∈ S, base ≤ i) : BxR w0 base b T e size v n xs w1 :=
  ⟨kept_cells hk hs h.box, kept_own hk hs h.row, kept_below hk hl h.bel h.base_le, h.lo⟩
theorem BxR.low (h : BxR w0 base b T e size v n xs w) (hb : Below w.heap.size w w1) : BxR w0 base b T e size v n xs w1 :=
  h.kept (Kept.of_below hb []) (by simp) (by simp)
theorem BxR.start (h : w.ownsRow base e size v n xs) (hB : Below base w0 w) (hb : base ≤ w.heap.size) (T : TypeId) : BxR w0 base w.heap.size T e size v n xs (w.alloc (.cells #[v] T)) :=
  ⟨heap_alloc_new _ _, h.alloc _, hB.alloc hb _, hb⟩
theorem BxR.ne (h : BxR w0 base b T e size v n xs w) (hT : T ≠ e) : v.ownBlock ≠ some b := fun e9 => by
  obtain ⟨cs, hcs⟩ := own_row h.row b e9
  rw [h.box] at hcs
  exact hT (Obj.cells.inj (Option.some.inj hcs)).2.1
/-- The row grows: the box is there still. -/
theorem BxR.grow (h : BxR w0 base b T e size v n xs w) (hT : T ≠ e) (hg : w.grownBy w1 v.ownBlock) : w1.heap[b]? = some (.cells #[v] T (0, 0)) :=
  (hg.block b (hp_lt h.box) (fun e9 => h.ne hT e9.symm)).trans h.box
/-- .. and the grown row is put into the box. -/
theorem BxR.put (h : BxR w0 base b T e size v n xs w) (hT : T ≠ e) (hg : w.grownBy w1 v.ownBlock) (h1 : w1.ownsRow base e size v1 n1 xs1) : BxR w0 base b T e size v1 n1 xs1 (w1.setCell ⟨b, 0, none⟩ v1) := by
  have hbox := h.grow hT hg
  refine ⟨heap_setCell_same w1 b 0 _ _ _ hbox, own_set_far h1 fun e9 => ?_, (below_app h.bel hg h.row h.base_le).setCell (p := ⟨b, 0, none⟩) h.lo _, h.lo⟩
  obtain ⟨cs, hcs⟩ := own_row h1 b e9
  rw [hbox] at hcs
  exact hT (Obj.cells.inj (Option.some.inj hcs)).2.1
theorem BxR.noc (h : BxR w0 base b T e size v n xs w) (hT : T ≠ e) (hg : w.grownBy w1 v.ownBlock) : NoC w (w1.setCell ⟨b, 0, none⟩ v1) :=
  (NoC.own h.row hg).trans (NoC.set (h.grow hT hg) 0 v1)
end
end Go.Proofs.Ytbnjflkafdkcpaa
