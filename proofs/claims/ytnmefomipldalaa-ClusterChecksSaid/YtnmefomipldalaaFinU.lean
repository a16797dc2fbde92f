/- cluster's sets: two made one, walked; which blocks a call may write. -/
import Derived.Test.YtnmefomipldalaaFinW
namespace Go.Proofs.Ytnmefomipldalaa
open Go.RowKit

/-- w' is w with new blocks, and with writes to the blocks of S alone. -/
structure Kept (w w' : World) (S : List Nat) : Prop where
  os : w'.os = w.os
  tape : w'.tape = w.tape
  output : w'.output = w.output
  size : w.heap.size ≤ w'.heap.size
  block : ∀ i, i < w.heap.size → i ∉ S → w'.heap[i]? = w.heap[i]?
theorem Kept.refl (w : World) (S : List Nat) : Kept w w S := ⟨rfl, rfl, rfl, Nat.le_refl _, fun _ _ _ => rfl⟩
theorem Kept.trans {a b c : World} {S : List Nat} (h : Kept a b S) (k : Kept b c S) : Kept a c S :=
  ⟨k.os.trans h.os, k.tape.trans h.tape, k.output.trans h.output, Nat.le_trans h.size k.size, fun i hi hs => (k.block i (Nat.lt_of_lt_of_le hi h.size) hs).trans (h.block i hi hs)⟩
theorem Kept.of_grown {a b : World} {g : Nat} {S : List Nat} (h : a.grownBy b (some g)) (hg : g ∈ S) : Kept a b S :=
  ⟨h.os, h.tape, h.output, h.size, fun i hi hs => h.block i hi (fun e => hs (by obtain rfl := Option.some.inj e; exact hg))⟩
theorem Kept.of_below {a b : World} (h : Below a.heap.size a b) (S : List Nat) : Kept a b S := ⟨h.os, h.tape, h.output, h.size, fun i hi _ => h.block i hi⟩
theorem Kept.drew {a b : World} {S : List Nat} (h : Kept a b S) : Kept a b.drew S := ⟨h.os, h.tape, h.output, h.size, h.block⟩
theorem Kept.set {a b : World} {S : List Nat} (h : Kept a b S) {g : Nat} (hg : g ∈ S ∨ a.heap.size ≤ g) (j : Nat) (u : Value) : Kept a (b.setCell ⟨g, j, none⟩ u) S :=
  ⟨h.os, h.tape, h.output, by simpa [World.setCell] using h.size, fun i hi hs => (Below.heap_setCell b ⟨g, j, none⟩ u i (by
    show i ≠ g
    rintro rfl
    rcases hg with hg | hg
    · exact hs hg
    · omega)).trans (h.block i hi hs)⟩
theorem Kept.heap {w w' : World} {S : List Nat} (h : Kept w w' S) {g : Nat} {o : Obj} (hg : w.heap[g]? = some o) (hs : g ∉ S) : w'.heap[g]? = some o := by
  have hlt : g < w.heap.size := by
    rcases Nat.lt_or_ge g w.heap.size with h' | h'
    · exact h'
    · rw [Array.getElem?_eq_none h'] at hg
      cases hg
  exact (h.block g hlt hs).trans hg
theorem Kept.cell {w w' : World} {S : List Nat} (h : Kept w w' S) {g j : Nat} {v : Value} (hc : w.cell? ⟨g, j, none⟩ = some v) (hs : g ∉ S) : w'.cell? ⟨g, j, none⟩ = some v := by
  have hlt : g < w.heap.size := cell_lt hc
  unfold World.cell? at hc ⊢
  rw [show w'.heap[(⟨g, j, none⟩ : Addr).block]? = w.heap[(⟨g, j, none⟩ : Addr).block]? from h.block g hlt hs]
  exact hc
theorem heap_lt {w : World} {g : Nat} {o : Obj} (h : w.heap[g]? = some o) : g < w.heap.size := by
  rcases Nat.lt_or_ge g w.heap.size with h' | h'
  · exact h'
  · rw [Array.getElem?_eq_none h'] at h
    cases h
theorem frozen_of_heap {w : World} {g : Nat} {cs : Array Value} {t : TypeId} (h : w.heap[g]? = some (.cells cs t (0, 0))) (j : Nat) : w.frozen? ⟨g, j, none⟩ = false := by
  unfold World.frozen?
  rw [show w.heap[(⟨g, j, none⟩ : Addr).block]? = _ from h]
  rfl
theorem heap_setCell_far {w : World} {g k : Nat} (h : k ≠ g) (j : Nat) (u : Value) : (w.setCell ⟨g, j, none⟩ u).heap[k]? = w.heap[k]? := Below.heap_setCell w ⟨g, j, none⟩ u k h
/-- The set that a place is in: what becomes of the sets. -/
theorem set_kept (b gA gE n : Nat) (ah en : List Nat) (r e : Nat → Nat) (at0 : Nat) (hat : at0 < n) (hn : n ≤ 100000000) (w : World) (hS : SetsAt w b gA gE n ah en) (hF : Forest n ah r) (hEn : ∀ i, r i = i → i < n → en[i]? = some (e i)) :
    Calls Try.prog 95 #[.pointer (some ⟨b, 0, none⟩), .int .i64 (at0 : Int)] w fun e' w' => e' = .returned (.agg #[.int .i64 (r at0 : Nat), .int .i64 (e (r at0) : Nat)]) ∧ ∃ ah', Forest n ah' r ∧ SetsAt w' b gA gE n ah' en ∧ Kept w w' [gA] :=
  (set_any b gA gE n ah en r e at0 hat hn w hS hF hEn).mono fun _ _ ⟨he, ah', h1, h2, h3⟩ => ⟨he, ah', h1, hS.grown h3 h2 h1.1, Kept.of_grown h3 (List.mem_singleton_self _)⟩
set_option maxRecDepth 100000 in
set_option maxHeartbeats 2000000 in
theorem unite_any (b gA gE n : Nat) (ah en : List Nat) (p q q' z : Nat) (hp : p < n) (hq : q' < n) (hn : n ≤ 100000000) (w : World) (hS : SetsAt w b gA gE n ah en) :
    Calls Try.prog 97 #[.pointer (some ⟨b, 0, none⟩), .agg #[.int .i64 (p : Int), .int .i64 (q : Int)], .agg #[.int .i64 (q' : Int), .int .i64 (z : Int)]] w fun e' w' => e' = .returned (valS ((p : Int), (z : Int))) ∧ SetsAt w' b gA gE n (ah.set q' p) (en.set p z) ∧ Kept w w' [gA, gE] := by
  obtain ⟨W1, hW1⟩ : ∃ W1, w.alloc (.cells #[.int .i64 (p : Int), .int .i64 (q : Int)] 31) = W1 := ⟨_, rfl⟩
  have hs1 : SpanBlk W1 w.heap.size ((p : Int), (q : Int)) := by rw [← hW1]; exact SpanBlk.new_ w _ _ _
  have hb1 : Below w.heap.size w W1 := by rw [← hW1]; exact below_new _ _
  have hl1 : w.heap.size < W1.heap.size := cell_lt hs1.1
  obtain ⟨W2, hW2⟩ : ∃ W2, W1.alloc (.cells #[.int .i64 (q' : Int), .int .i64 (z : Int)] 31) = W2 := ⟨_, rfl⟩
  have hs2 : SpanBlk W2 W1.heap.size ((q' : Int), (z : Int)) := by rw [← hW2]; exact SpanBlk.new_ W1 _ _ _
  have hb2 : Below W1.heap.size W1 W2 := by rw [← hW2]; exact below_new _ _
  have hl2 : W1.heap.size < W2.heap.size := cell_lt hs2.1
  obtain ⟨W3, hW3⟩ : ∃ W3, W2.alloc (.cells #[.int .i64 0, .int .i64 0] 31) = W3 := ⟨_, rfl⟩
  have hs3 : SpanBlk W3 W2.heap.size (0, 0) := by rw [← hW3]; exact SpanBlk.new_ W2 _ _ _
  have hb3 : Below W2.heap.size W2 W3 := by rw [← hW3]; exact below_new _ _
  have hk3 : Kept w W3 [gA, gE] := ((Kept.of_below hb1 _).trans (Kept.of_below hb2 _)).trans (Kept.of_below hb3 _)
  have hb := cell_lt hS.c0
  have hgA := heap_lt hS.hA
  have hgE := heap_lt hS.hE
  simp only at hb
  have hbel : Below w.heap.size w W3 := below_self (below_self hb1 hb2) hb3
  have hA3 : W3.heap[gA]? = some (.cells (ints ah).toArray 3 (0, 0)) := (hbel.block gA hgA).trans hS.hA
  have hE3 : W3.heap[gE]? = some (.cells (ints en).toArray 3 (0, 0)) := (hbel.block gE hgE).trans hS.hE
  have c0 := cell_below hbel hS.c0
  have c1 := cell_below hbel hS.c1
  have hs1' : SpanBlk W3 w.heap.size ((p : Int), (q : Int)) := (hs1.below hb2).below hb3
  have hs2' : SpanBlk W3 W1.heap.size ((q' : Int), (z : Int)) := hs2.below hb3
  have HS := Lib.hid hS
  have HK3 := Lib.hid hk3
  have HA3 := Lib.hid hA3
  have HE3 := Lib.hid hE3
  have HX := Lib.hid (And.intro hs1' (And.intro hs2' hs3))
  obtain ⟨x0, hx0⟩ : ∃ x0, ah[q']? = some x0 := ⟨_, List.getElem?_eq_getElem (by rw [hS.lA]; exact hq)⟩
  have cx := cells_of_heap hA3 hx0
  have fx := frozen_of_heap hA3 q'
  obtain ⟨p0, p1, _, _⟩ := hs1'
  obtain ⟨q0, q1, _, _⟩ := hs2'
  have HL := Lib.hid (show gA < w.heap.size ∧ gE < w.heap.size ∧ b < w.heap.size ∧ w.heap.size < W1.heap.size ∧ W1.heap.size < W2.heap.size from ⟨hgA, hgE, hb, hl1, hl2⟩)
  clear hs1 hb1 hs2 hb2 hs3 hb3 hk3 hS hA3 hE3 hbel hgA hgE hb hx0 hl1 hl2
  go_enter Try.func97, Try.ntmps97
  go_wp2
  clear hW1 hW2 hW3
  generalize W1.heap.size = R2 at *
  generalize W2.heap.size = R3 at *
  generalize hR1 : w.heap.size = R1 at *
  have HR1 := Lib.hid hR1
  clear hR1
  obtain ⟨k1, k2, k3, k4, k5⟩ := HL.out
  have n1 : ¬ gA = gE := HS.out.ne3
  have n2 : ¬ gA = b := HS.out.ne1
  have n3 : ¬ gE = b := HS.out.ne2
  go_region
  have HA4 := Lib.hid (show (W3.setCell ⟨gA, q', none⟩ (.int .i64 (p : Int))).drew.heap[gA]? = some (.cells (ints (ah.set q' p)).toArray 3 (0, 0)) from setCell_heap HA3.out (by rw [HS.out.lA]; exact hq) p)
  have HE4 := Lib.hid (show (W3.setCell ⟨gA, q', none⟩ (.int .i64 (p : Int))).drew.heap[gE]? = some (.cells (ints en).toArray 3 (0, 0)) from (heap_setCell_far (fun e9 => n1 e9.symm) _ _).trans HE3.out)
  have hk4 : Kept W3 (W3.setCell ⟨gA, q', none⟩ (.int .i64 (p : Int))).drew [gA] := ((Kept.refl W3 [gA]).set (.inl (List.mem_singleton_self _)) _ _).drew
  have HK4 := Lib.hid (show Kept w (W3.setCell ⟨gA, q', none⟩ (.int .i64 (p : Int))).drew [gA, gE] from (HK3.out.set (.inl (List.mem_cons_self ..)) _ _).drew)
  have d1 := hk4.cell c1 (by simp; omega)
  have d0 := hk4.cell c0 (by simp; omega)
  have dp0 := hk4.cell p0 (by simp; omega)
  have dp1 := hk4.cell p1 (by simp; omega)
  have dq0 := hk4.cell q0 (by simp; omega)
  have dq1 := hk4.cell q1 (by simp; omega)
  have HX4 := Lib.hid (show SpanBlk (W3.setCell ⟨gA, q', none⟩ (.int .i64 (p : Int))).drew R3 (0, 0) from HX.out.2.2.grown (row := some gA) (grown_drew (only_setCell (p := ⟨gA, q', none⟩) (World.grownBy.refl W3 _) (.inl rfl) _)) (fun e9 => by have := Option.some.inj e9; omega))
  clear cx fx p0 p1 q0 q1 c0 c1 hk4
  generalize (W3.setCell ⟨gA, q', none⟩ (.int .i64 (p : Int))).drew = W4 at *
  obtain ⟨y0, hy0⟩ : ∃ y0, en[p]? = some y0 := ⟨_, List.getElem?_eq_getElem (by rw [HS.out.lE]; exact hp)⟩
  have cy := cells_of_heap HE4.out hy0
  have fy := frozen_of_heap HE4.out p
  clear hy0
  go_wp2
  go_region
  have HA5 := Lib.hid (show (W4.setCell ⟨gE, p, none⟩ (.int .i64 (z : Int))).drew.heap[gA]? = some (.cells (ints (ah.set q' p)).toArray 3 (0, 0)) from (heap_setCell_far n1 _ _).trans HA4.out)
  have HE5 := Lib.hid (show (W4.setCell ⟨gE, p, none⟩ (.int .i64 (z : Int))).drew.heap[gE]? = some (.cells (ints (en.set p z)).toArray 3 (0, 0)) from setCell_heap HE4.out (by rw [HS.out.lE]; exact hp) z)
  have hk5 : Kept W4 (W4.setCell ⟨gE, p, none⟩ (.int .i64 (z : Int))).drew [gE] := ((Kept.refl W4 [gE]).set (.inl (List.mem_singleton_self _)) _ _).drew
  have HK5 := Lib.hid (show Kept w (W4.setCell ⟨gE, p, none⟩ (.int .i64 (z : Int))).drew [gA, gE] from (HK4.out.set (.inl (by simp)) _ _).drew)
  have e1 := hk5.cell d1 (by simp; omega)
  have e0 := hk5.cell d0 (by simp; omega)
  have ep0 := hk5.cell dp0 (by simp; omega)
  have eq1 := hk5.cell dq1 (by simp; omega)
  have hX5 : SpanBlk (W4.setCell ⟨gE, p, none⟩ (.int .i64 (z : Int))).drew R3 (0, 0) := HX4.out.grown (row := some gE) (grown_drew (only_setCell (p := ⟨gE, p, none⟩) (World.grownBy.refl W4 _) (.inl rfl) _)) (fun e9 => by have := Option.some.inj e9; omega)
  clear cy fy d0 d1 dp0 dp1 dq0 dq1 hk5
  generalize (W4.setCell ⟨gE, p, none⟩ (.int .i64 (z : Int))).drew = W5 at *
  have HX5 := Lib.hid hX5
  have HC := Lib.hid (And.intro e0 e1)
  obtain ⟨r0, r1, r2, r3⟩ := hX5
  clear e0 e1
  go_wp2_with fail
  (try simp only [Exit.inBlock, Exit.then])
  refine bodyPost_ret (v := valS ((p : Int), (z : Int))) (res_span rfl _ _ R3 ((p : Int), (z : Int)) rfl (HX5.out.put _ _)) rfl ⟨rfl, ?_, ?_⟩
  · have far : ∀ k, k ≠ R3 → ((W5.setCell ⟨R3, 0, none⟩ (.int .i64 (p : Int))).setCell ⟨R3, 1, none⟩ (.int .i64 (z : Int))).heap[k]? = W5.heap[k]? := fun k hk => (heap_setCell_far hk _ _).trans (heap_setCell_far hk _ _)
    have hkf : Kept W5 ((W5.setCell ⟨R3, 0, none⟩ (.int .i64 (p : Int))).setCell ⟨R3, 1, none⟩ (.int .i64 (z : Int))) [R3] := ((Kept.refl W5 [R3]).set (.inl (List.mem_singleton_self _)) _ _).set (.inl (List.mem_singleton_self _)) _ _
    exact ⟨hkf.cell HC.out.1 (by simp; omega), hkf.cell HC.out.2 (by simp; omega), (far gA (by omega)).trans HA5.out, (far gE (by omega)).trans HE5.out, by rw [List.length_set]; exact HS.out.lA, by rw [List.length_set]; exact HS.out.lE, HS.out.ne1, HS.out.ne2, HS.out.ne3⟩
  · exact (HK5.out.set (.inr (by rw [HR1.out]; omega)) _ _).set (.inr (by rw [HR1.out]; omega)) _ _
end Go.Proofs.Ytnmefomipldalaa
