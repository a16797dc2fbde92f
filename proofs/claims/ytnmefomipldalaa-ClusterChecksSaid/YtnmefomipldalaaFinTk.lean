/- cluster's take, walked. -/
import Derived.Test.YtnmefomipldalaaFinQ
import Derived.Test.YtnmefomipldalaaHullP
import Derived.Deep.RegionWith
import Derived.Deep.DeepCutAuto
import Derived.Deep.LoopGhost
namespace Go.Proofs.Ytnmefomipldalaa
open Go.RowKit

/-- What take keeps: the side, its two arguments, the set so far, what belongs to it. -/
structure TkSt (w W : World) (b gA gE mB n : Nat) (r e : Nat → Nat) (M : Nat → Option Sp) (s o t y : Sp) : Prop where
  side : SideAt W b gA gE mB n r e M
  b0 : SpanBlk W w.heap.size s
  b1 : SpanBlk W (w.heap.size + 1) o
  b2 : SpanBlk W (w.heap.size + 2) t
  b3 : SpanBlk W (w.heap.size + 3) y
  kept : Kept w W [gA, gE, mB]
  lt : b < w.heap.size ∧ gA < w.heap.size ∧ gE < w.heap.size ∧ mB < w.heap.size
theorem span_of_heap {w w' : World} {g : Nat} {s : Sp} (h : SpanBlk w g s) (he : w'.heap[g]? = w.heap[g]?) : SpanBlk w' g s := by
  obtain ⟨h0, h1, h2, h3⟩ := h
  have hf : ∀ j, w'.frozen? ⟨g, j, none⟩ = w.frozen? ⟨g, j, none⟩ := fun j => by
    unfold World.frozen?
    rw [show w'.heap[(⟨g, j, none⟩ : Addr).block]? = w.heap[(⟨g, j, none⟩ : Addr).block]? from he]
  exact ⟨(cell_of_heap he 0).trans h0, (cell_of_heap he 1).trans h1, (hf 0).trans h2, (hf 1).trans h3⟩
section
variable {w W W' : World} {b gA gE mB n : Nat} {r e r' e' : Nat → Nat} {M M' : Nat → Option Sp} {s o t y : Sp}
theorem TkSt.drew (h : TkSt w W b gA gE mB n r e M s o t y) : TkSt w W.drew b gA gE mB n r e M s o t y :=
  ⟨h.side.heap rfl rfl rfl rfl, h.b0, h.b1, h.b2, h.b3, h.kept.drew, h.lt⟩
theorem TkSt.size (h : TkSt w W b gA gE mB n r e M s o t y) : w.heap.size + 3 < W.heap.size := cell_lt h.b3.1
theorem TkSt.step (h : TkSt w W b gA gE mB n r e M s o t y) (hs : SideAt W' b gA gE mB n r' e' M') {S : List Nat} (hk : Kept W W' S) (hS : ∀ x ∈ S, x ∈ [gA, gE, mB]) : TkSt w W' b gA gE mB n r' e' M' s o t y := by
  obtain ⟨l0, l1, l2, l3⟩ := h.lt
  have hsz := h.size
  have hno : ∀ k, w.heap.size ≤ k → k ∉ S := fun k hk' hm => by
    have := hS k hm
    simp only [List.mem_cons, List.not_mem_nil, or_false] at this
    omega
  refine ⟨hs, span_of_heap h.b0 (hk.block _ (by omega) (hno _ (by omega))), span_of_heap h.b1 (hk.block _ (by omega) (hno _ (by omega))), span_of_heap h.b2 (hk.block _ (by omega) (hno _ (by omega))), span_of_heap h.b3 (hk.block _ (by omega) (hno _ (by omega))), ?_, h.lt⟩
  exact h.kept.trans ⟨hk.os, hk.tape, hk.output, hk.size, fun i hi hn => hk.block i hi (fun hm => hn (hS i hm))⟩
theorem TkSt.alloc (h : TkSt w W b gA gE mB n r e M s o t y) (ob : Obj) : TkSt w (W.alloc ob) b gA gE mB n r e M s o t y := by
  obtain ⟨l0, l1, l2, l3⟩ := h.lt
  have hsz := h.size
  exact h.step (S := []) (h.side.heap (heap_alloc_old (h := by omega) ..) (heap_alloc_old (h := by omega) ..) (heap_alloc_old (h := by omega) ..) (heap_alloc_old (h := by omega) ..)) (Kept.of_below (below_new W ob) []) (fun _ h => absurd h (by simp))
theorem two_far {k g : Nat} (hne : k ≠ g) (u v : Value) : ((W.setCell ⟨g, 0, none⟩ u).setCell ⟨g, 1, none⟩ v).heap[k]? = W.heap[k]? := (heap_setCell_far hne _ _).trans (heap_setCell_far hne _ _)
theorem TkSt.two (h : TkSt w W b gA gE mB n r e M s o t y) {g : Nat} (hg : w.heap.size ≤ g) (u v : Value) : SideAt ((W.setCell ⟨g, 0, none⟩ u).setCell ⟨g, 1, none⟩ v) b gA gE mB n r e M ∧ Kept w ((W.setCell ⟨g, 0, none⟩ u).setCell ⟨g, 1, none⟩ v) [gA, gE, mB] := by
  obtain ⟨l0, l1, l2, l3⟩ := h.lt
  exact ⟨h.side.heap (two_far (by omega) _ _) (two_far (by omega) _ _) (two_far (by omega) _ _) (two_far (by omega) _ _), (h.kept.set (.inr hg) _ _).set (.inr hg) _ _⟩
theorem TkSt.putT (h : TkSt w W b gA gE mB n r e M s o t y) (x z : Int) : TkSt w ((W.setCell ⟨w.heap.size + 2, 0, none⟩ (.int .i64 x)).setCell ⟨w.heap.size + 2, 1, none⟩ (.int .i64 z)) b gA gE mB n r e M s o (x, z) y := by
  obtain ⟨h1, h2⟩ := h.two (g := w.heap.size + 2) (by omega) (.int .i64 x) (.int .i64 z)
  exact ⟨h1, span_of_heap h.b0 (two_far (by omega) _ _), span_of_heap h.b1 (two_far (by omega) _ _), h.b2.put x z, span_of_heap h.b3 (two_far (by omega) _ _), h2, h.lt⟩
theorem TkSt.putY (h : TkSt w W b gA gE mB n r e M s o t y) (x z : Int) : TkSt w ((W.setCell ⟨w.heap.size + 3, 0, none⟩ (.int .i64 x)).setCell ⟨w.heap.size + 3, 1, none⟩ (.int .i64 z)) b gA gE mB n r e M s o t (x, z) := by
  obtain ⟨h1, h2⟩ := h.two (g := w.heap.size + 3) (by omega) (.int .i64 x) (.int .i64 z)
  exact ⟨h1, span_of_heap h.b0 (two_far (by omega) _ _), span_of_heap h.b1 (two_far (by omega) _ _), span_of_heap h.b2 (two_far (by omega) _ _), h.b3.put x z, h2, h.lt⟩
theorem TkSt.putN (h : TkSt w W b gA gE mB n r e M s o t y) {g : Nat} (hg : w.heap.size + 3 < g) (u v : Value) : TkSt w ((W.setCell ⟨g, 0, none⟩ u).setCell ⟨g, 1, none⟩ v) b gA gE mB n r e M s o t y := by
  obtain ⟨h1, h2⟩ := h.two (g := g) (by omega) u v
  exact ⟨h1, span_of_heap h.b0 (two_far (by omega) _ _), span_of_heap h.b1 (two_far (by omega) _ _), span_of_heap h.b2 (two_far (by omega) _ _), span_of_heap h.b3 (two_far (by omega) _ _), h2, h.lt⟩
theorem tk_start (hS : SideAt w b gA gE mB n r e M) (s o : Sp) :
    TkSt w ((((w.alloc (.cells #[.int .i64 s.1, .int .i64 s.2] 31)).alloc (.cells #[.int .i64 o.1, .int .i64 o.2] 31)).alloc (.cells #[.int .i64 0, .int .i64 0] 31)).alloc (.cells #[.int .i64 0, .int .i64 0] 31)) b gA gE mB n r e M s o (0, 0) (0, 0) := by
  have s1 := SpanBlk.new_ w s.1 s.2 31
  have s2 := SpanBlk.new_ (w.alloc (.cells #[.int .i64 s.1, .int .i64 s.2] 31)) o.1 o.2 31
  have s3 := SpanBlk.new_ ((w.alloc (.cells #[.int .i64 s.1, .int .i64 s.2] 31)).alloc (.cells #[.int .i64 o.1, .int .i64 o.2] 31)) 0 0 31
  have s4 := SpanBlk.new_ (((w.alloc (.cells #[.int .i64 s.1, .int .i64 s.2] 31)).alloc (.cells #[.int .i64 o.1, .int .i64 o.2] 31)).alloc (.cells #[.int .i64 0, .int .i64 0] 31)) 0 0 31
  simp only [World.size_alloc] at s2 s3 s4
  have b1 := below_new w (.cells #[.int .i64 s.1, .int .i64 s.2] 31)
  have b2 := below_new (w.alloc (.cells #[.int .i64 s.1, .int .i64 s.2] 31)) (.cells #[.int .i64 o.1, .int .i64 o.2] 31)
  have b3 := below_new ((w.alloc (.cells #[.int .i64 s.1, .int .i64 s.2] 31)).alloc (.cells #[.int .i64 o.1, .int .i64 o.2] 31)) (.cells #[.int .i64 0, .int .i64 0] 31)
  have b4 := below_new (((w.alloc (.cells #[.int .i64 s.1, .int .i64 s.2] 31)).alloc (.cells #[.int .i64 o.1, .int .i64 o.2] 31)).alloc (.cells #[.int .i64 0, .int .i64 0] 31)) (.cells #[.int .i64 0, .int .i64 0] 31)
  have hall := below_self (below_self (below_self b1 b2) b3) b4
  obtain ⟨ah, en, hA, _, _⟩ := hS.ex
  have l0 : b < w.heap.size := cell_lt hA.c0
  have l1 := heap_lt hA.hA
  have l2 := heap_lt hA.hE
  have l3 := hS.map.lt
  exact ⟨hS.heap (hall.block b l0) (hall.block gA l1) (hall.block gE l2) (hall.block mB l3), ((s1.below b2).below b3).below b4, (s2.below b3).below b4, s3.below b4, s4, Kept.of_below hall _, l0, l1, l2, l3⟩
end
section
variable {w W W' : World} {b gA gE mB n : Nat} {r e : Nat → Nat} {M : Nat → Option Sp} {s o t y : Sp}
theorem TkSt.below (h : TkSt w W b gA gE mB n r e M s o t y) (hb : Below W.heap.size W W') : TkSt w W' b gA gE mB n r e M s o t y :=
  h.step (S := []) (h.side.kept (Kept.of_below hb []) (by simp) (by simp) (by simp) (by simp)) (Kept.of_below hb []) (fun _ h => absurd h (by simp))
end
theorem hull_two (W : World) (a m : Sp) (x : Sp) (hx : hullS [a, m] = x) :
    Calls Try.prog 96 #[.slice (some ⟨W.heap.size, 0, none⟩) 2 2] (W.alloc (.cells #[.int .i64 a.1, .int .i64 a.2, .int .i64 m.1, .int .i64 m.2] 31)).drew fun e' w' => e' = .returned (.agg #[.int .i64 x.1, .int .i64 x.2]) ∧ Below W.heap.size W w' := by
  have hr : Rd (W.alloc (.cells #[.int .i64 a.1, .int .i64 a.2, .int .i64 m.1, .int .i64 m.2] 31)).drew 2 (some ⟨W.heap.size, 0, none⟩) 2 (cellsS [a, m]) :=
    ⟨rfl, fun _ => ⟨_, rfl, by simp, cells_new W [.int .i64 a.1, .int .i64 a.2, .int .i64 m.1, .int .i64 m.2] 31⟩⟩
  refine (prHull_any _ 2 2 [a, m] _ hr (by unfold maxLen; omega)).mono ?_
  rintro e' w' ⟨rfl, hb⟩
  rw [hx]
  exact ⟨rfl, below_self (below_new W _).drew hb⟩
/-- A side whose map alone has turned. -/
theorem side_turn {W W' : World} {b gA gE mB n : Nat} {r e : Nat → Nat} {M M' : Nat → Option Sp} (h : SideAt W b gA gE mB n r e M) (hM : MapAt W' mB n M') (hk : Kept W W' [mB]) : SideAt W' b gA gE mB n r e M' := by
  obtain ⟨ah, en, hA, hF, hEn⟩ := h.ex
  have e0 : W'.heap[b]? = W.heap[b]? := hk.block b (cell_lt hA.c0) (by simp; exact fun e9 => h.ne3 e9.symm)
  have e1 : W'.heap[gA]? = W.heap[gA]? := hk.block gA (heap_lt hA.hA) (by simp; exact fun e9 => h.ne1 e9.symm)
  have e2 : W'.heap[gE]? = W.heap[gE]? := hk.block gE (heap_lt hA.hE) (by simp; exact fun e9 => h.ne2 e9.symm)
  exact ⟨⟨ah, en, ⟨(cell_of_heap e0 0).trans hA.c0, (cell_of_heap e0 1).trans hA.c1, e1.trans hA.hA, e2.trans hA.hE, hA.lA, hA.lE, hA.ne1, hA.ne2, hA.ne3⟩, hF, hEn⟩, (cell_of_heap e0 2).trans h.c2, hM, h.part, h.ne1, h.ne2, h.ne3⟩
theorem TkSt.turn {w W W' : World} {b gA gE mB n : Nat} {r e : Nat → Nat} {M M' : Nat → Option Sp} {s o t y : Sp} (h : TkSt w W b gA gE mB n r e M s o t y) (hM : MapAt W' mB n M') (ht : W.mapTurned W' mB) : TkSt w W' b gA gE mB n r e M' s o t y :=
  h.step (side_turn h.side hM (kept_turned ht)) (kept_turned ht) (by intro x hx; simp at hx ⊢; exact .inr (.inr hx))
/-- Two sets of a side made one. -/
theorem side_unite (b gA gE mB n p : Nat) (r e : Nat → Nat) (M : Nat → Option Sp) (hp : r p = p) (hpn : p < n) (hq : e p < n) (hn : n ≤ 100000000) (W : World) (hS : SideAt W b gA gE mB n r e M) :
    Calls Try.prog 97 #[.pointer (some ⟨b, 0, none⟩), .agg #[.int .i64 (p : Int), .int .i64 (e p : Int)], .agg #[.int .i64 (e p : Int), .int .i64 (e (e p) : Int)]] W fun e' W' => e' = .returned (.agg #[.int .i64 (p : Int), .int .i64 (e (e p) : Int)]) ∧ SideAt W' b gA gE mB n (uniR r e p) (uniE e p) M ∧ Kept W W' [gA, gE] := by
  obtain ⟨ah, en, hA, hF, hEn⟩ := hS.ex
  refine (unite_any b gA gE n ah en p (e p) (e p) (e (e p)) hpn hq hn W hA).mono ?_
  rintro e' W' ⟨rfl, hA', hk⟩
  refine ⟨rfl, ⟨⟨_, _, hA', hF.unite hS.part hp hpn hq, ends_unite hS.part hp hpn hq hA.lE hEn⟩, hk.cell hS.c2 ?_, hS.map.kept hk ?_, hS.part.unite hp hpn hq, hS.ne1, hS.ne2, hS.ne3⟩, hk⟩
  · simp only [List.mem_cons, List.not_mem_nil, or_false, not_or]
    exact ⟨fun e9 => hA.ne1 e9.symm, fun e9 => hA.ne2 e9.symm⟩
  · simp only [List.mem_cons, List.not_mem_nil, or_false, not_or]
    exact ⟨hS.ne1, hS.ne2⟩
/-- The set that a place is in, of a side. -/
theorem side_set (b gA gE mB n at0 : Nat) (r e : Nat → Nat) (M : Nat → Option Sp) (hat : at0 < n) (hn : n ≤ 100000000) (W : World) (hS : SideAt W b gA gE mB n r e M) :
    Calls Try.prog 95 #[.pointer (some ⟨b, 0, none⟩), .int .i64 (at0 : Int)] W fun e' W' => e' = .returned (.agg #[.int .i64 (r at0 : Nat), .int .i64 (e (r at0) : Nat)]) ∧ SideAt W' b gA gE mB n r e M ∧ Kept W W' [gA] := by
  obtain ⟨ah, en, hA, hF, hEn⟩ := hS.ex
  refine (set_kept b gA gE n ah en r e at0 hat hn W hA hF hEn).mono ?_
  rintro e' W' ⟨rfl, ah', hF', hA', hk⟩
  refine ⟨rfl, ⟨⟨ah', en, hA', hF', hEn⟩, hk.cell hS.c2 (by simp; exact fun e => hA.ne1 e.symm), hS.map.kept hk (by simp; exact hS.ne1), hS.part, hS.ne1, hS.ne2, hS.ne3⟩, hk⟩
theorem res_spans {fn : Func} {p q : Tmp} (hf : fn.results = #[.cell p 31, .cell q 31]) (tmps : Array Value) (w : World) (g k : Nat) (s o : Sp) (hp : tmps.getD p undef = .pointer (some ⟨g, 0, none⟩)) (hq : tmps.getD q undef = .pointer (some ⟨k, 0, none⟩))
    (hC : SpanBlk w g s) (hD : SpanBlk w k o) : (results fn tmps).run Try.prog w = .ok (.tuple #[valS s, valS o]) w := by
  obtain ⟨c0, c1, _, _⟩ := hC
  obtain ⟨c2, c3, _, _⟩ := hD
  have hp' : tmps[p]?.getD undef = .pointer (some ⟨g, 0, none⟩) := by simpa using hp
  have hq' : tmps[q]?.getD undef = .pointer (some ⟨k, 0, none⟩) := by simpa using hq
  unfold valS
  simp only [results, hf]
  clear hp hf hq
  go_simp
/-- How many places lie behind the set so far. -/
def tkLeft (n g : Nat) (wr : World) : Nat := match wr.cell? ⟨g, 1, none⟩ with
  | some v => n - (intOf v).toNat
  | none => 0
theorem tkLeft_at {n g : Nat} {wr : World} {x : Nat} (h : wr.cell? ⟨g, 1, none⟩ = some (.int .i64 (x : Int))) : tkLeft n g wr = n - x := by
  unfold tkLeft; rw [h]; simp [intOf]
set_option maxRecDepth 100000 in
set_option maxHeartbeats 4000000 in
theorem take_any (b gA gE mB n lo hi : Nat) (r e : Nat → Nat) (M : Nat → Option Sp) (other : Sp) (h1 : lo < hi) (h2 : hi ≤ n) (ho : rightB other = true) (hn : n ≤ 100000000) (w : World) (hS : SideAt w b gA gE mB n r e M) (hD : Doms n r M) :
    Calls Try.prog 82 #[.pointer (some ⟨b, 0, none⟩), valS ((lo : Int), (hi : Int)), valS other] w fun e' w' => e' = .returned (.tuple #[valS ((r lo : Nat), (e (r (hi - 1)) : Nat)), valS (hulT other M (r lo) (e (r (hi - 1)) - r lo))]) ∧
      SideAt w' b gA gE mB n (cutR r (r lo) (e (r (hi - 1)))) (cutE e (r lo) (e (r (hi - 1)))) (putM (cutM M (r lo) (e (r (hi - 1)))) (r lo) (hulT other M (r lo) (e (r (hi - 1)) - r lo))) ∧ Kept w w' [gA, gE, mB] := by
  obtain ⟨o1, o2⟩ := other
  have hP := hS.part
  have HP := Lib.hid hP
  have HD := Lib.hid hD
  have HO := Lib.hid ho
  have hT0 := tk_start hS ((lo : Int), (hi : Int)) (o1, o2)
  have HT0 := Lib.hid hT0
  obtain ⟨p, hp⟩ : ∃ p, r lo = p := ⟨_, rfl⟩
  have hpr : r p = p := by rw [← hp]; exact hP.root (by omega)
  have hpl : p ≤ lo := by rw [← hp]; exact hP.le lo (by omega)
  have HPR := Lib.hid hpr
  have HPL := Lib.hid hp
  rw [hp]
  obtain ⟨EF, hEF⟩ : ∃ EF, e (r (hi - 1)) = EF := ⟨_, rfl⟩
  rw [hEF]
  have HEF := Lib.hid hEF
  clear hS hD ho hT0 hP hpr hp hEF
  unfold valS
  go_enter Try.func82, Try.ntmps82
  go_wp2_with fail
  simp only [Nat.add_assoc, Nat.reduceAdd]
  have hT := HT0.out
  clear HT0
  generalize ((((w.alloc (.cells #[.int .i64 (lo : Int), .int .i64 (hi : Int)] 31)).alloc (.cells #[.int .i64 o1, .int .i64 o2] 31)).alloc (.cells #[.int .i64 0, .int .i64 0] 31)).alloc (.cells #[.int .i64 0, .int .i64 0] 31)) = W0 at *
  have HT0 := Lib.hid hT
  obtain ⟨s, hs⟩ : ∃ s, w.heap.size = s := ⟨_, rfl⟩
  have ⟨c0, c1, _, _⟩ := hT.b0
  simp only [hs] at c0 c1 ⊢
  have HSET := Lib.hid (side_set b gA gE mB n lo r e M (by omega) hn W0.drew hT.drew.side)
  rw [HPL.out] at HSET
  have HTD := Lib.hid hT.drew
  have HSE := Lib.hid hs
  clear hT hs
  go_region_with (go_at_call 95; refine HSET.out.mono ?_; rintro e' W1 ⟨rfl, hs1, hk1⟩; have hT1 := HTD.out.step hs1 hk1 (by intro x hx; simp at hx ⊢; exact .inl hx); obtain ⟨t0, t1, t2, t3⟩ := hT1.b2; rw [HSE.out] at t0 t1 t2 t3)
  have hT2 := hT1.putT (p : Int) (e p : Int)
  rw [HSE.out] at hT2
  clear t0 t1 t2 t3 hT1 hk1 hs1 HSET HTD c0 c1
  generalize ((W1.setCell ⟨s + 2, 0, none⟩ (.int .i64 (p : Int))).setCell ⟨s + 2, 1, none⟩ (.int .i64 (e p : Int))) = W2 at *
  obtain ⟨m, hm⟩ : ∃ m, (M p).getD (0, 0) = m := ⟨_, rfl⟩
  obtain ⟨m1, m2⟩ := m
  have hl := hT2.side.map.look (k := p) (by omega)
  have hld := hT2.drew.side.map.look (k := p) (by omega)
  rw [hm] at hl hld
  have HM := Lib.hid hm
  have HT2 := Lib.hid hT2
  obtain ⟨c4, c5, _, _⟩ := hT2.b1
  obtain ⟨c6, _, _, _⟩ := hT2.b2
  obtain ⟨_, _, f8, f9⟩ := hT2.b3
  have c7 := hT2.side.c2
  rw [HSE.out] at c4 c5 c6 f8 f9
  unfold valS at hl hld
  clear hT2 hm
  obtain ⟨y1, hy1⟩ : ∃ y1, hullS [(o1, o2), (m1, m2)] = y1 := ⟨_, rfl⟩
  obtain ⟨y1, y2⟩ := y1
  have HHU := Lib.hid (hull_two W2 (o1, o2) (m1, m2) _ hy1)
  have HHY := Lib.hid hy1
  clear hy1
  go_upto_region 2 with fail
  go_cut [] (fun wx => TkSt w wx b gA gE mB n r e M ((lo : Int), (hi : Int)) (o1, o2) ((p : Int), (e p : Int)) (y1, y2))
  case first =>
    go_region_with (go_at_call 96; refine HHU.out.mono ?_; rintro e' W3 ⟨rfl, hb3⟩; have hT3 := HT2.out.below hb3; obtain ⟨t0, t1, t2, t3⟩ := hT3.b3; rw [HSE.out] at t0 t1 t2 t3)
    all_goals
      have hT4 := hT3.putY y1 y2
      rw [HSE.out] at hT4
      go_wp2_with fail
      go_meet
      exact hT4
  case rest =>
  have hT4 := hcut
  clear HHU HT2 c4 c5 c6 c7 f8 f9 hl hld hcut
  have hrt : ∀ k q, M k = some q → rightB q = true := HD.out.right
  have hy : hulT (o1, o2) M p (e p - p) = (y1, y2) := by
    rw [hulT_first HP.out HD.out _ HPR.out (by omega), ← hullS_two HO.out (M p) (fun q hq => hrt p q hq), HM.out, HHY.out]
  have hcs := cut_start HP.out HPR.out (show p < n by omega)
  have hcm := cutM_start HP.out HD.out HPR.out (show p < n by omega)
  have hlt0 := HP.out.lt p (by omega)
  rw [HPR.out] at hlt0
  have HREL := Lib.hid (show TkSt w wc b gA gE mB n (cutR r p (e p)) (cutE e p (e p)) (cutM M p (e p)) ((lo : Int), (hi : Int)) (o1, o2) ((p : Int), (e p : Int)) (hulT (o1, o2) M p (e p - p)) by rw [hcs.1, hcs.2, hcm, hy]; exact hT4)
  clear hT4 hcs hcm hy HM HHY
  go_wp2_with fail
  go_loopg [8] (n - e p) (fun gh _ wr => ∃ E q : Nat, gh = n - E ∧ p < E ∧ r q = q ∧ q < n ∧ e q = E ∧ q < hi ∧ p ≤ q ∧ TkSt w wr b gA gE mB n (cutR r p E) (cutE e p E) (cutM M p E) ((lo : Int), (hi : Int)) (o1, o2) ((p : Int), (E : Int)) (hulT (o1, o2) M p (E - p)))
  case atStart => exact ⟨e p, p, rfl, hlt0, HPR.out, by omega, rfl, by omega, Nat.le_refl _, HREL.out⟩
  case round =>
    obtain ⟨E, q, hgh, hpE, hqr, hqn, hqE, hqh, hpq, hT⟩ := hrel
    have HT := Lib.hid hT
    obtain ⟨c0, c1, _, _⟩ := hT.b0
    obtain ⟨c2, c3, f2, f3⟩ := hT.b2
    rw [HSE.out] at c0 c1 c2 c3 f2 f3
    have hEn : E ≤ n := by have := HP.out.top q hqn; rw [hqr, hqE] at this; exact this
    by_cases hlt : E < hi
    · have hEr : r E = E := by rw [← hqE]; exact HP.out.next hqr hqn (by omega)
      have hEe : E < e E := by have := HP.out.lt E (by omega); rw [hEr] at this; exact this
      have HQ := Lib.hid (show r E = E ∧ e q = E from ⟨hEr, hqE⟩)
      have hs := fun (W : World) (hW : SideAt W b gA gE mB n (cutR r p E) (cutE e p E) (cutM M p E)) => side_set b gA gE mB n E _ _ _ (by omega) hn W hW
      rw [show cutR r p E E = E by unfold cutR; rw [if_neg (by omega)]; exact hEr, show cutE e p E E = e E from if_neg (by omega)] at hs
      have HSET := Lib.hid hs
      obtain ⟨z, hz⟩ : ∃ z, e E = z := ⟨_, rfl⟩
      rw [hz] at HSET hEe
      have HZ := Lib.hid hz
      clear hs hT hEr hqr hqE hz
      have d3 := cell_below (below_new wr (.cells #[.int .i64 0, .int .i64 0] 31)) c3
      go_upto_region 4 with fail
      go_cut [8] (fun s8 wx => ∃ g, s8 = .pointer (some ⟨g, 0, none⟩) ∧ s + 3 < g ∧ SpanBlk wx g ((E : Int), (z : Int)) ∧ TkSt w wx b gA gE mB n (cutR r p E) (cutE e p E) (cutM M p E) ((lo : Int), (hi : Int)) (o1, o2) ((p : Int), (E : Int)) (hulT (o1, o2) M p (E - p)))
      case first =>
        go_region_with (go_at_call 95; refine (HSET.out _ (by first | exact HT.out.drew.side | exact (HT.out.alloc _).drew.side)).mono ?_; rintro e' W1 ⟨rfl, hs1, hk1⟩; try (have hbn := span_of_heap (show SpanBlk (wr.alloc (.cells #[.int .i64 0, .int .i64 0] 31)).drew wr.heap.size (0, 0) from SpanBlk.new_ wr 0 0 _) (hk1.block wr.heap.size (by simp) (by have := HT.out.lt; have := HT.out.size; simp; omega)); have hbm := hbn; obtain ⟨u0, u1, u2, u3⟩ := hbn))
        all_goals
          go_wp2_with fail
          go_meet
          first
            | (have hTn := ((HT.out.alloc _).drew.step hs1 hk1 (by intro x hx; simp at hx ⊢; exact .inl hx)).putN (g := wr.heap.size) HT.out.size (.int .i64 (E : Int)) (.int .i64 (z : Int)); exact ⟨wr.heap.size, rfl, by rw [← HSE.out]; exact HT.out.size, hbm.put _ _, hTn⟩)
            | (have hTn := (HT.out.drew.step hs1 hk1 (by intro x hx; simp at hx ⊢; exact .inl hx)); have hTa := hTn.alloc (.cells #[.int .i64 (E : Int), .int .i64 (z : Int)] 31); exact ⟨W1.heap.size, rfl, by rw [← HSE.out]; exact hTn.size, SpanBlk.new_ W1 _ _ _, hTa⟩)
            | (trace_state; fail)
      case rest =>
      obtain ⟨g, rfl, hgs, hN, hT5⟩ := hcut
      obtain ⟨ya, hya⟩ : ∃ ya, hulT (o1, o2) M p (E - p) = ya := ⟨_, rfl⟩
      have hME : cutM M p E E = M E := if_neg (by omega)
      obtain ⟨m, hm⟩ : ∃ m, (M E).getD (0, 0) = m := ⟨_, rfl⟩
      obtain ⟨yb, hyb⟩ : ∃ yb, hullS [ya, m] = yb := ⟨_, rfl⟩
      have hnext : hulT (o1, o2) M p (z - p) = yb := by
        rw [← HZ.out, hulT_next HP.out HD.out _ hpE HQ.out.1 (by omega), hya, ← hyb, ← hm]
        refine (hullS_two ?_ (M E) (fun q' hq => HD.out.right E q' hq)).symm
        rw [← hya]
        exact hulT_right HO.out HD.out.right p _
      rw [hya] at hT5
      obtain ⟨ya, yc⟩ := ya
      obtain ⟨yb, yd⟩ := yb
      obtain ⟨m1, m2⟩ := m
      have hl := hT5.side.map.look (k := E) (by omega)
      have hld := hT5.drew.side.map.look (k := E) (by omega)
      rw [hME, hm] at hl hld
      unfold valS at hl hld
      have HHU := Lib.hid (hull_two wc (ya, yc) (m1, m2) _ hyb)
      have HT5 := Lib.hid hT5
      have HN5 := Lib.hid hN
      have HNX := Lib.hid hnext
      obtain ⟨c4, c5, f8, f9⟩ := hT5.b3
      obtain ⟨c6, _, _, _⟩ := hN
      have c7 := hT5.side.c2
      have hgw : g < wc.heap.size := cell_lt c6
      rw [HSE.out] at c4 c5 f8 f9
      clear hT5 hm hyb hya hME hnext HSET d3 c0 c1 c2 c3 f2 f3 HT
      go_upto_region 5 with fail
      go_cut [] (fun wx => SpanBlk wx g ((E : Int), (z : Int)) ∧ TkSt w wx b gA gE mB n (cutR r p E) (cutE e p E) (cutM M p E) ((lo : Int), (hi : Int)) (o1, o2) ((p : Int), (E : Int)) (yb, yd))
      case first =>
        go_region_with (go_at_call 96; refine HHU.out.mono ?_; rintro e' W3 ⟨rfl, hb3⟩; have hT3 := HT5.out.below hb3; have hN3 := HN5.out.below hb3; obtain ⟨t0, t1, t2, t3⟩ := hT3.b3; rw [HSE.out] at t0 t1 t2 t3)
        all_goals
          have hT4 := hT3.putY yb yd
          have hN4 := span_of_heap hN3 (two_far (g := s + 3) (by omega) (.int .i64 yb) (.int .i64 yd))
          rw [HSE.out] at hT4
          go_wp2_with fail
          go_meet
          exact ⟨hN4, hT4⟩
      case rest =>
      obtain ⟨hN6, hT6⟩ := hcut
      clear HHU HT5 HN5 c4 c5 c6 c7 f8 f9 hl hld hgw
      have HT6 := Lib.hid hT6
      have HN6 := Lib.hid hN6
      obtain ⟨W6, hrun, hM6, hturn⟩ := hT6.drew.side.map.drop (k := E) (by omega) (by omega) 0
      have HM6 := Lib.hid hM6
      have HTU := Lib.hid hturn
      obtain ⟨c6, _, _, _⟩ := hN6
      have c7 := hT6.side.c2
      clear hT6 hM6 hturn
      go_upto_region 6 with fail
      go_cut [] (fun wx => SpanBlk wx g ((E : Int), (z : Int)) ∧ TkSt w wx b gA gE mB n (cutR r p E) (cutE e p E) (delM (cutM M p E) E) ((lo : Int), (hi : Int)) (o1, o2) ((p : Int), (E : Int)) (yb, yd))
      case first =>
        go_region
        all_goals
          have hT7 := HT6.out.drew.turn HM6.out HTU.out
          have hN7 := span_of_heap (show SpanBlk _ g ((E : Int), (z : Int)) from HN6.out) ((kept_turned HTU.out).block g (show g < _ from cell_lt HN6.out.1) (by have := HT6.out.lt; have := HSE.out; simp; omega))
          go_wp2_with fail
          go_meet
          exact ⟨hN7, hT7⟩
      case rest =>
      obtain ⟨hN8, hT8⟩ := hcut
      clear HT6 HN6 HM6 HTU hrun c6 c7
      rw [cutM_next HP.out HD.out hpE HQ.out.1 (by omega), HZ.out] at hT8
      have HT8 := Lib.hid hT8
      have HN8 := Lib.hid hN8
      obtain ⟨c6, c7, _, _⟩ := hN8
      obtain ⟨c8, c9, _, _⟩ := hT8.b2
      rw [HSE.out] at c8 c9
      have hpe : cutR r p E p = p := cutR_root hpE
      have hpE' : cutE e p E p = E := if_pos rfl
      have hEz : cutE e p E E = z := by rw [← HZ.out]; exact if_neg (by omega)
      have hun := side_unite b gA gE mB n p (cutR r p E) (cutE e p E) (cutM M p z) hpe (by omega) (by rw [hpE']; omega) hn wc.drew hT8.drew.side
      have hcu := cut_unite (r := r) (e := e) (p := p) (E := E) hpE HQ.out.1 (by rw [HZ.out]; exact hEe)
      rw [hcu.1, hcu.2, hpE', hEz, HZ.out] at hun
      have HUN := Lib.hid hun
      clear hT8 hpe hpE' hEz hun hcu
      go_upto_region 7 with fail
      go_region_with (go_at_call 97; refine HUN.out.mono ?_; rintro e' W9 ⟨rfl, hs9, hk9⟩; have hT9 := HT8.out.drew.step hs9 hk9 (by intro x hx; simp at hx ⊢; omega); obtain ⟨t0, t1, t2, t3⟩ := hT9.b2; rw [HSE.out] at t0 t1 t2 t3)
      all_goals
        have hT10 := hT9.putT (p : Int) (z : Int)
        rw [HSE.out] at hT10
        go_wp2_with fail
        go_roundg (n - z)
        case rel => exact ⟨z, E, rfl, by omega, HQ.out.1, by omega, HZ.out, by omega, by omega, by rw [HNX.out]; exact hT10⟩
        case measure => omega
    · have hq2 := HP.out.same q (hi - 1) hqn (by rw [hqr]; omega) (by rw [hqr, hqE]; omega)
      have hEE : E = EF := by rw [← HEF.out, hq2, hqr, hqE]
      obtain ⟨ya, hya⟩ : ∃ ya, hulT (o1, o2) M p (E - p) = ya := ⟨_, rfl⟩
      have HYA := Lib.hid (show hulT (o1, o2) M p (EF - p) = ya by rw [← hEE]; exact hya)
      rw [hya] at hT
      obtain ⟨ya, yc⟩ := ya
      obtain ⟨W6, hrun, hM6, hturn⟩ := hT.drew.side.map.store (k := p) (by omega) (by omega) (ya, yc)
      unfold valS at hrun
      have HT6 := Lib.hid hT
      have HM6 := Lib.hid hM6
      have HTU := Lib.hid hturn
      have HEE := Lib.hid hEE
      obtain ⟨c4, c5, _, _⟩ := hT.b3
      have c7 := hT.side.c2
      rw [HSE.out] at c4 c5
      clear hT hM6 hturn hq2 hEE hya HT hqr hqE
      go_upto_region 8 with fail
      go_cut [] (fun wx => TkSt w wx b gA gE mB n (cutR r p E) (cutE e p E) (putM (cutM M p E) p (ya, yc)) ((lo : Int), (hi : Int)) (o1, o2) ((p : Int), (E : Int)) (ya, yc))
      case first =>
        go_region
        all_goals
          have hT7 := HT6.out.drew.turn HM6.out HTU.out
          go_wp2_with fail
          go_meet
          exact hT7
      case rest =>
      clear HT6 HM6 HTU hrun c4 c5 c7 c0 c1 c2 c3 f2 f3
      have HT8 := Lib.hid hcut
      obtain ⟨c2, c3, f2, f3⟩ := hcut.b2
      obtain ⟨c4, c5, f4, f5⟩ := hcut.b3
      rw [HSE.out] at c2 c3 f2 f3 c4 c5 f4 f5
      clear hcut
      go_wp2_with fail
      go_region
      all_goals
        have hT9 := HT8.out.putT (p : Int) (E : Int)
        rw [HSE.out] at hT9
        have hT10 := hT9.putY ya yc
        rw [HSE.out] at hT10
        have hT11 := hT10.drew
        go_wp2_with fail
        refine bodyPost_ret (v := .tuple #[valS ((p : Int), (E : Int)), valS (ya, yc)]) (res_spans rfl _ _ (s + 2) (s + 3) _ _ rfl rfl ?_ ?_) rfl ?_
        · have h9 := hT11.b2; rw [HSE.out] at h9; exact h9
        · have h9 := hT11.b3; rw [HSE.out] at h9; exact h9
        · refine ⟨?_, ?_, hT11.kept⟩
          · rw [← HEE.out] at HYA ⊢; rw [HYA.out]; rfl
          · rw [← HEE.out] at HYA ⊢; rw [HYA.out]; exact hT11.side
end Go.Proofs.Ytnmefomipldalaa
