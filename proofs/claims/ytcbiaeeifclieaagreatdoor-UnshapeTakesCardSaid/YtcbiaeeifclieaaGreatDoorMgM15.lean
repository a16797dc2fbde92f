/- Texts of one claim, one behind the other. -/
import Derived.Deep.RegionWith
import Derived.Deep.DeepCutAuto
import Derived.Deep.LoopGhost
import Derived.Laws.StructEq
import Derived.Test.YtcbiaeeifclieaaGreatDoorMgM3
import Derived.Test.YtcbiaeeifclieaaGreatDoorMgM13
import Derived.Test.YtcbiaeeifclieaaGreatDoorMgM14
/- cluster's take, walked. -/
namespace Go.Proofs.YtcbiaeeifclieaaGreatDoor
open Go.RowKit

/-- What take keeps: the side, its two arguments, the set so far, what belongs to it. -/
structure TkSt (w W : World) (b gA gE mB n : Nat) (r e : Nat → Nat) (M : Nat → Option Sp) (s o t y : Sp) : Prop where
  side : SideAt W b gA gE mB n r e M
  b0 : SpanBlk W w.heap.size s
  b1 : SpanBlk W (w.heap.size + 1) o
  b2 : SpanBlk W (w.heap.size + 2) t
  b3 : SpanBlk W (w.heap.size + 3) y
  kept : Kept w W [gA, gE, mB]
  lt : b < w.heap.size ∧ gA < w.heap.size ∧ gE < w.heap.size ∧ mB < w.heap.size
theorem span_of_heap {w w' : World} {g : Nat} {s : Sp} (h : SpanBlk w g s) (he : w'.heap[g]? = w.heap[g]?) : SpanBlk w' g s := by
  obtain ⟨h0, h1, h2, h3⟩ := h
  have hf : ∀ j, w'.frozen? ⟨g, j, none⟩ = w.frozen? ⟨g, j, none⟩ := fun j => by
    unfold World.frozen?
    rw [show w'.heap[(⟨g, j, none⟩ : Addr).block]? = w.heap[(⟨g, j, none⟩ : Addr).block]? from he]
  exact ⟨(cell_of_heap he 0).trans h0, (cell_of_heap he 1).trans h1, (hf 0).trans h2, (hf 1).trans h3⟩
section
variable {w W W' : World} {b gA gE mB n : Nat} {r e r' e' : Nat → Nat} {M M' : Nat → Option Sp} {s o t y : Sp}
theorem TkSt.drew (h : TkSt w W b gA gE mB n r e M s o t y) : TkSt w W.drew b gA gE mB n r e M s o t y :=
  ⟨h.side.heap rfl rfl rfl rfl, h.b0, h.b1, h.b2, h.b3, h.kept.drew, h.lt⟩
theorem TkSt.size (h : TkSt w W b gA gE mB n r e M s o t y) : w.heap.size + 3 < W.heap.size := cell_lt h.b3.1
theorem TkSt.step (h : TkSt w W b gA gE mB n r e M s o t y) (hs : SideAt W' b gA gE mB n r' e' M') {S : List Nat} (hk : Kept W W' S) (hS : ∀ x ∈ S, x ∈ [gA, gE, mB]) : TkSt w W' b gA gE mB n r' e' M' s o t y := by
  obtain ⟨l0, l1, l2, l3⟩ := h.lt
  have hsz := h.size
  have hno : ∀ k, w.heap.size ≤ k → k ∉ S := fun k hk' hm => by
    have := hS k hm
    simp only [List.mem_cons, List.not_mem_nil, or_false] at this
    omega
  refine ⟨hs, span_of_heap h.b0 (hk.block _ (by omega) (hno _ (by omega))), span_of_heap h.b1 (hk.block _ (by omega) (hno _ (by omega))), span_of_heap h.b2 (hk.block _ (by omega) (hno _ (by omega))), span_of_heap h.b3 (hk.block _ (by omega) (hno _ (by omega))), ?_, h.lt⟩
  exact h.kept.trans ⟨hk.os, hk.tape, hk.output, hk.size, fun i hi hn => hk.block i hi (fun hm => hn (hS i hm))⟩
theorem TkSt.alloc (h : TkSt w W b gA gE mB n r e M s o t y) (ob : Obj) : TkSt w (W.alloc ob) b gA gE mB n r e M s o t y := by
  obtain ⟨l0, l1, l2, l3⟩ := h.lt
  have hsz := h.size
  exact h.step (S := []) (h.side.heap (heap_alloc_old (h := by omega) ..) (heap_alloc_old (h := by omega) ..) (heap_alloc_old (h := by omega) ..) (heap_alloc_old (h := by omega) ..)) (Kept.of_below (below_new W ob) []) (fun _ h => absurd h (by simp))
theorem two_far {k g : Nat} (hne : k ≠ g) (u v : Value) : ((W.setCell ⟨g, 0, none⟩ u).setCell ⟨g, 1, none⟩ v).heap[k]? = W.heap[k]? := (heap_setCell_far hne _ _).trans (heap_setCell_far hne _ _)
theorem TkSt.two (h : TkSt w W b gA gE mB n r e M s o t y) {g : Nat} (hg : w.heap.size ≤ g) (u v : Value) : SideAt ((W.setCell ⟨g, 0, none⟩ u).setCell ⟨g, 1, none⟩ v) b gA gE mB n r e M ∧ Kept w ((W.setCell ⟨g, 0, none⟩ u).setCell ⟨g, 1, none⟩ v) [gA, gE, mB] := by
  obtain ⟨l0, l1, l2, l3⟩ := h.lt
  exact ⟨h.side.heap (two_far (by omega) _ _) (two_far (by omega) _ _) (two_far (by omega) _ _) (two_far (by omega) _ _), (h.kept.set (.inr hg) _ _).set (.inr hg) _ _⟩
theorem TkSt.putT (h : TkSt w W b gA gE mB n r e M s o t y) (x z : Int) : TkSt w ((W.setCell ⟨w.heap.size + 2, 0, none⟩ (.int .i64 x)).setCell ⟨w.heap.size + 2, 1, none⟩ (.int .i64 z)) b gA gE mB n r e M s o (x, z) y := by
  obtain ⟨h1, h2⟩ := h.two (g := w.heap.size + 2) (by omega) (.int .i64 x) (.int .i64 z)
  exact ⟨h1, span_of_heap h.b0 (two_far (by omega) _ _), span_of_heap h.b1 (two_far (by omega) _ _), h.b2.put x z, span_of_heap h.b3 (two_far (by omega) _ _), h2, h.lt⟩
theorem TkSt.putY (h : TkSt w W b gA gE mB n r e M s o t y) (x z : Int) : TkSt w ((W.setCell ⟨w.heap.size + 3, 0, none⟩ (.int .i64 x)).setCell ⟨w.heap.size + 3, 1, none⟩ (.int .i64 z)) b gA gE mB n r e M s o t (x, z) := by
  obtain ⟨h1, h2⟩ := h.two (g := w.heap.size + 3) (by omega) (.int .i64 x) (.int .i64 z)
  exact ⟨h1, span_of_heap h.b0 (two_far (by omega) _ _), span_of_heap h.b1 (two_far (by omega) _ _), span_of_heap h.b2 (two_far (by omega) _ _), h.b3.put x z, h2, h.lt⟩
theorem TkSt.putN (h : TkSt w W b gA gE mB n r e M s o t y) {g : Nat} (hg : w.heap.size + 3 < g) (u v : Value) : TkSt w ((W.setCell ⟨g, 0, none⟩ u).setCell ⟨g, 1, none⟩ v) b gA gE mB n r e M s o t y := by
  obtain ⟨h1, h2⟩ := h.two (g := g) (by omega) u v
  exact ⟨h1, span_of_heap h.b0 (two_far (by omega) _ _), span_of_heap h.b1 (two_far (by omega) _ _), span_of_heap h.b2 (two_far (by omega) _ _), span_of_heap h.b3 (two_far (by omega) _ _), h2, h.lt⟩
theorem tk_start (hS : SideAt w b gA gE mB n r e M) (s o : Sp) :
    TkSt w ((((w.alloc (.cells #[.int .i64 s.1, .int .i64 s.2] 39)).alloc (.cells #[.int .i64 o.1, .int .i64 o.2] 39)).alloc (.cells #[.int .i64 0, .int .i64 0] 39)).alloc (.cells #[.int .i64 0, .int .i64 0] 39)) b gA gE mB n r e M s o (0, 0) (0, 0) := by
  have s1 := SpanBlk.new_ w s.1 s.2 39
  have s2 := SpanBlk.new_ (w.alloc (.cells #[.int .i64 s.1, .int .i64 s.2] 39)) o.1 o.2 39
  have s3 := SpanBlk.new_ ((w.alloc (.cells #[.int .i64 s.1, .int .i64 s.2] 39)).alloc (.cells #[.int .i64 o.1, .int .i64 o.2] 39)) 0 0 39
  have s4 := SpanBlk.new_ (((w.alloc (.cells #[.int .i64 s.1, .int .i64 s.2] 39)).alloc (.cells #[.int .i64 o.1, .int .i64 o.2] 39)).alloc (.cells #[.int .i64 0, .int .i64 0] 39)) 0 0 39
  simp only [World.size_alloc] at s2 s3 s4
  have b1 := below_new w (.cells #[.int .i64 s.1, .int .i64 s.2] 39)
  have b2 := below_new (w.alloc (.cells #[.int .i64 s.1, .int .i64 s.2] 39)) (.cells #[.int .i64 o.1, .int .i64 o.2] 39)
  have b3 := below_new ((w.alloc (.cells #[.int .i64 s.1, .int .i64 s.2] 39)).alloc (.cells #[.int .i64 o.1, .int .i64 o.2] 39)) (.cells #[.int .i64 0, .int .i64 0] 39)
  have b4 := below_new (((w.alloc (.cells #[.int .i64 s.1, .int .i64 s.2] 39)).alloc (.cells #[.int .i64 o.1, .int .i64 o.2] 39)).alloc (.cells #[.int .i64 0, .int .i64 0] 39)) (.cells #[.int .i64 0, .int .i64 0] 39)
  have hall := below_self (below_self (below_self b1 b2) b3) b4
  obtain ⟨ah, en, hA, _, _⟩ := hS.ex
  have l0 : b < w.heap.size := cell_lt hA.c0
  have l1 := heap_lt hA.hA
  have l2 := heap_lt hA.hE
  have l3 := hS.map.lt
  exact ⟨hS.heap (hall.block b l0) (hall.block gA l1) (hall.block gE l2) (hall.block mB l3), ((s1.below b2).below b3).below b4, (s2.below b3).below b4, s3.below b4, s4, Kept.of_below hall _, l0, l1, l2, l3⟩
end
section
variable {w W W' : World} {b gA gE mB n : Nat} {r e : Nat → Nat} {M : Nat → Option Sp} {s o t y : Sp}
theorem TkSt.below (h : TkSt w W b gA gE mB n r e M s o t y) (hb : Below W.heap.size W W') : TkSt w W' b gA gE mB n r e M s o t y :=
  h.step (S := []) (h.side.kept (Kept.of_below hb []) (by simp) (by simp) (by simp) (by simp)) (Kept.of_below hb []) (fun _ h => absurd h (by simp))
end
theorem hull_two (W : World) (a m : Sp) (x : Sp) (hx : hullS [a, m] = x) :
    Calls Tryz.prog 122 #[.slice (some ⟨W.heap.size, 0, none⟩) 2 2] (W.alloc (.cells #[.int .i64 a.1, .int .i64 a.2, .int .i64 m.1, .int .i64 m.2] 39)).drew fun e' w' => e' = .returned (.agg #[.int .i64 x.1, .int .i64 x.2]) ∧ Below W.heap.size W w' := by
  have hr : Rd (W.alloc (.cells #[.int .i64 a.1, .int .i64 a.2, .int .i64 m.1, .int .i64 m.2] 39)).drew 2 (some ⟨W.heap.size, 0, none⟩) 2 (cellsS [a, m]) :=
    ⟨rfl, fun _ => ⟨_, rfl, by simp, cells_new W [.int .i64 a.1, .int .i64 a.2, .int .i64 m.1, .int .i64 m.2] 39⟩⟩
  refine (prHull_any _ 2 2 [a, m] _ hr (by unfold maxLen; omega)).mono ?_
  rintro e' w' ⟨rfl, hb⟩
  rw [hx]
  exact ⟨rfl, below_self (below_new W _).drew hb⟩
/-- A side whose map alone has turned. -/
theorem side_turn {W W' : World} {b gA gE mB n : Nat} {r e : Nat → Nat} {M M' : Nat → Option Sp} (h : SideAt W b gA gE mB n r e M) (hM : MapAt W' mB n M') (hk : Kept W W' [mB]) : SideAt W' b gA gE mB n r e M' := by
  obtain ⟨ah, en, hA, hF, hEn⟩ := h.ex
  have e0 : W'.heap[b]? = W.heap[b]? := hk.block b (cell_lt hA.c0) (by simp; exact fun e9 => h.ne3 e9.symm)
  have e1 : W'.heap[gA]? = W.heap[gA]? := hk.block gA (heap_lt hA.hA) (by simp; exact fun e9 => h.ne1 e9.symm)
  have e2 : W'.heap[gE]? = W.heap[gE]? := hk.block gE (heap_lt hA.hE) (by simp; exact fun e9 => h.ne2 e9.symm)
  exact ⟨⟨ah, en, ⟨(cell_of_heap e0 0).trans hA.c0, (cell_of_heap e0 1).trans hA.c1, e1.trans hA.hA, e2.trans hA.hE, hA.lA, hA.lE, hA.ne1, hA.ne2, hA.ne3⟩, hF, hEn⟩, (cell_of_heap e0 2).trans h.c2, hM, h.part, h.ne1, h.ne2, h.ne3⟩
theorem TkSt.turn {w W W' : World} {b gA gE mB n : Nat} {r e : Nat → Nat} {M M' : Nat → Option Sp} {s o t y : Sp} (h : TkSt w W b gA gE mB n r e M s o t y) (hM : MapAt W' mB n M') (ht : W.mapTurned W' mB) : TkSt w W' b gA gE mB n r e M' s o t y :=
  h.step (side_turn h.side hM (kept_turned ht)) (kept_turned ht) (by intro x hx; simp at hx ⊢; exact .inr (.inr hx))
/-- Two sets of a side made one. -/
theorem side_unite (b gA gE mB n p : Nat) (r e : Nat → Nat) (M : Nat → Option Sp) (hp : r p = p) (hpn : p < n) (hq : e p < n) (hn : n ≤ 100000000) (W : World) (hS : SideAt W b gA gE mB n r e M) :
    Calls Tryz.prog 123 #[.pointer (some ⟨b, 0, none⟩), .agg #[.int .i64 (p : Int), .int .i64 (e p : Int)], .agg #[.int .i64 (e p : Int), .int .i64 (e (e p) : Int)]] W fun e' W' => e' = .returned (.agg #[.int .i64 (p : Int), .int .i64 (e (e p) : Int)]) ∧ SideAt W' b gA gE mB n (uniR r e p) (uniE e p) M ∧ Kept W W' [gA, gE] := by
  obtain ⟨ah, en, hA, hF, hEn⟩ := hS.ex
  refine (unite_any b gA gE n ah en p (e p) (e p) (e (e p)) hpn hq hn W hA).mono ?_
  rintro e' W' ⟨rfl, hA', hk⟩
  refine ⟨rfl, ⟨⟨_, _, hA', hF.unite hS.part hp hpn hq, ends_unite hS.part hp hpn hq hA.lE hEn⟩, hk.cell hS.c2 ?_, hS.map.kept hk ?_, hS.part.unite hp hpn hq, hS.ne1, hS.ne2, hS.ne3⟩, hk⟩
  · simp only [List.mem_cons, List.not_mem_nil, or_false, not_or]
    exact ⟨fun e9 => hA.ne1 e9.symm, fun e9 => hA.ne2 e9.symm⟩
  · simp only [List.mem_cons, List.not_mem_nil, or_false, not_or]
    exact ⟨hS.ne1, hS.ne2⟩
/-- The set that a place is in, of a side. -/
theorem side_set (b gA gE mB n at0 : Nat) (r e : Nat → Nat) (M : Nat → Option Sp) (hat : at0 < n) (hn : n ≤ 100000000) (W : World) (hS : SideAt W b gA gE mB n r e M) :
    Calls Tryz.prog 121 #[.pointer (some ⟨b, 0, none⟩), .int .i64 (at0 : Int)] W fun e' W' => e' = .returned (.agg #[.int .i64 (r at0 : Nat), .int .i64 (e (r at0) : Nat)]) ∧ SideAt W' b gA gE mB n r e M ∧ Kept W W' [gA] := by
  obtain ⟨ah, en, hA, hF, hEn⟩ := hS.ex
  refine (set_kept b gA gE n ah en r e at0 hat hn W hA hF hEn).mono ?_
  rintro e' W' ⟨rfl, ah', hF', hA', hk⟩
  refine ⟨rfl, ⟨⟨ah', en, hA', hF', hEn⟩, hk.cell hS.c2 (by simp; exact fun e => hA.ne1 e.symm), hS.map.kept hk (by simp; exact hS.ne1), hS.part, hS.ne1, hS.ne2, hS.ne3⟩, hk⟩
theorem res_spans {fn : Func} {p q : Tmp} (hf : fn.results = #[.cell p 39, .cell q 39]) (tmps : Array Value) (w : World) (g k : Nat) (s o : Sp) (hp : tmps.getD p undef = .pointer (some ⟨g, 0, none⟩)) (hq : tmps.getD q undef = .pointer (some ⟨k, 0, none⟩))
    (hC : SpanBlk w g s) (hD : SpanBlk w k o) : (results fn tmps).run Tryz.prog w = .ok (.tuple #[valS s, valS o]) w := by
  obtain ⟨c0, c1, _, _⟩ := hC
  obtain ⟨c2, c3, _, _⟩ := hD
  have hp' : tmps[p]?.getD undef = .pointer (some ⟨g, 0, none⟩) := by simpa using hp
  have hq' : tmps[q]?.getD undef = .pointer (some ⟨k, 0, none⟩) := by simpa using hq
  unfold valS
  simp only [results, hf]
  clear hp hf hq
  go_simp
/-- How many places lie behind the set so far. -/
def tkLeft (n g : Nat) (wr : World) : Nat := match wr.cell? ⟨g, 1, none⟩ with
  | some v => n - (intOf v).toNat
  | none => 0
theorem tkLeft_at {n g : Nat} {wr : World} {x : Nat} (h : wr.cell? ⟨g, 1, none⟩ = some (.int .i64 (x : Int))) : tkLeft n g wr = n - x := by
  unfold tkLeft; rw [h]; simp [intOf]
set_option maxRecDepth 100000 in
set_option maxHeartbeats 4000000 in
theorem take_any (b gA gE mB n lo hi : Nat) (r e : Nat → Nat) (M : Nat → Option Sp) (other : Sp) (h1 : lo < hi) (h2 : hi ≤ n) (ho : rightB other = true) (hn : n ≤ 100000000) (w : World) (hS : SideAt w b gA gE mB n r e M) (hD : Doms n r M) :
    Calls Tryz.prog 103 #[.pointer (some ⟨b, 0, none⟩), valS ((lo : Int), (hi : Int)), valS other] w fun e' w' => e' = .returned (.tuple #[valS ((r lo : Nat), (e (r (hi - 1)) : Nat)), valS (hulT other M (r lo) (e (r (hi - 1)) - r lo))]) ∧
      SideAt w' b gA gE mB n (cutR r (r lo) (e (r (hi - 1)))) (cutE e (r lo) (e (r (hi - 1)))) (putM (cutM M (r lo) (e (r (hi - 1)))) (r lo) (hulT other M (r lo) (e (r (hi - 1)) - r lo))) ∧ Kept w w' [gA, gE, mB] := by
  obtain ⟨o1, o2⟩ := other
  have hP := hS.part
  have HP := Lib.hid hP
  have HD := Lib.hid hD
  have HO := Lib.hid ho
  have hT0 := tk_start hS ((lo : Int), (hi : Int)) (o1, o2)
  have HT0 := Lib.hid hT0
  obtain ⟨p, hp⟩ : ∃ p, r lo = p := ⟨_, rfl⟩
  have hpr : r p = p := by rw [← hp]; exact hP.root (by omega)
  have hpl : p ≤ lo := by rw [← hp]; exact hP.le lo (by omega)
  have HPR := Lib.hid hpr
  have HPL := Lib.hid hp
  rw [hp]
  obtain ⟨EF, hEF⟩ : ∃ EF, e (r (hi - 1)) = EF := ⟨_, rfl⟩
  rw [hEF]
  have HEF := Lib.hid hEF
  clear hS hD ho hT0 hP hpr hp hEF
  unfold valS
  go_enter Tryz.func103, Tryz.ntmps103
  go_wp2_with fail
  simp only [Nat.add_assoc, Nat.reduceAdd]
  have hT := HT0.out
  clear HT0
  generalize ((((w.alloc (.cells #[.int .i64 (lo : Int), .int .i64 (hi : Int)] 39)).alloc (.cells #[.int .i64 o1, .int .i64 o2] 39)).alloc (.cells #[.int .i64 0, .int .i64 0] 39)).alloc (.cells #[.int .i64 0, .int .i64 0] 39)) = W0 at *
  have HT0 := Lib.hid hT
  obtain ⟨s, hs⟩ : ∃ s, w.heap.size = s := ⟨_, rfl⟩
  have ⟨c0, c1, _, _⟩ := hT.b0
  simp only [hs] at c0 c1 ⊢
  have HSET := Lib.hid (side_set b gA gE mB n lo r e M (by omega) hn W0.drew hT.drew.side)
  rw [HPL.out] at HSET
  have HTD := Lib.hid hT.drew
  have HSE := Lib.hid hs
  clear hT hs
  go_region_with (go_at_call 121; refine HSET.out.mono ?_; rintro e' W1 ⟨rfl, hs1, hk1⟩; have hT1 := HTD.out.step hs1 hk1 (by intro x hx; simp at hx ⊢; exact .inl hx); obtain ⟨t0, t1, t2, t3⟩ := hT1.b2; rw [HSE.out] at t0 t1 t2 t3)
  have hT2 := hT1.putT (p : Int) (e p : Int)
  rw [HSE.out] at hT2
  clear t0 t1 t2 t3 hT1 hk1 hs1 HSET HTD c0 c1
  generalize ((W1.setCell ⟨s + 2, 0, none⟩ (.int .i64 (p : Int))).setCell ⟨s + 2, 1, none⟩ (.int .i64 (e p : Int))) = W2 at *
  obtain ⟨m, hm⟩ : ∃ m, (M p).getD (0, 0) = m := ⟨_, rfl⟩
  obtain ⟨m1, m2⟩ := m
  have hl := hT2.side.map.look (k := p) (by omega)
  have hld := hT2.drew.side.map.look (k := p) (by omega)
  rw [hm] at hl hld
  have HM := Lib.hid hm
  have HT2 := Lib.hid hT2
  obtain ⟨c4, c5, _, _⟩ := hT2.b1
  obtain ⟨c6, _, _, _⟩ := hT2.b2
  obtain ⟨_, _, f8, f9⟩ := hT2.b3
  have c7 := hT2.side.c2
  rw [HSE.out] at c4 c5 c6 f8 f9
  unfold valS at hl hld
  clear hT2 hm
  obtain ⟨y1, hy1⟩ : ∃ y1, hullS [(o1, o2), (m1, m2)] = y1 := ⟨_, rfl⟩
  obtain ⟨y1, y2⟩ := y1
  have HHU := Lib.hid (hull_two W2 (o1, o2) (m1, m2) _ hy1)
  have HHY := Lib.hid hy1
  clear hy1
  go_upto_region 2 with fail
  go_cut [] (fun wx => TkSt w wx b gA gE mB n r e M ((lo : Int), (hi : Int)) (o1, o2) ((p : Int), (e p : Int)) (y1, y2))
  case first =>
    go_region_with (go_at_call 122; refine HHU.out.mono ?_; rintro e' W3 ⟨rfl, hb3⟩; have hT3 := HT2.out.below hb3; obtain ⟨t0, t1, t2, t3⟩ := hT3.b3; rw [HSE.out] at t0 t1 t2 t3)
    all_goals
      have hT4 := hT3.putY y1 y2
      rw [HSE.out] at hT4
      go_wp2_with fail
      go_meet
      exact hT4
  case rest =>
  have hT4 := hcut
  clear HHU HT2 c4 c5 c6 c7 f8 f9 hl hld hcut
  have hrt : ∀ k q, M k = some q → rightB q = true := HD.out.right
  have hy : hulT (o1, o2) M p (e p - p) = (y1, y2) := by
    rw [hulT_first HP.out HD.out _ HPR.out (by omega), ← hullS_two HO.out (M p) (fun q hq => hrt p q hq), HM.out, HHY.out]
  have hcs := cut_start HP.out HPR.out (show p < n by omega)
  have hcm := cutM_start HP.out HD.out HPR.out (show p < n by omega)
  have hlt0 := HP.out.lt p (by omega)
  rw [HPR.out] at hlt0
  have HREL := Lib.hid (show TkSt w wc b gA gE mB n (cutR r p (e p)) (cutE e p (e p)) (cutM M p (e p)) ((lo : Int), (hi : Int)) (o1, o2) ((p : Int), (e p : Int)) (hulT (o1, o2) M p (e p - p)) by rw [hcs.1, hcs.2, hcm, hy]; exact hT4)
  clear hT4 hcs hcm hy HM HHY
  go_wp2_with fail
  go_loopg [8] (n - e p) (fun gh _ wr => ∃ E q : Nat, gh = n - E ∧ p < E ∧ r q = q ∧ q < n ∧ e q = E ∧ q < hi ∧ p ≤ q ∧ TkSt w wr b gA gE mB n (cutR r p E) (cutE e p E) (cutM M p E) ((lo : Int), (hi : Int)) (o1, o2) ((p : Int), (E : Int)) (hulT (o1, o2) M p (E - p)))
  case atStart => exact ⟨e p, p, rfl, hlt0, HPR.out, by omega, rfl, by omega, Nat.le_refl _, HREL.out⟩
  case round =>
    obtain ⟨E, q, hgh, hpE, hqr, hqn, hqE, hqh, hpq, hT⟩ := hrel
    have HT := Lib.hid hT
    obtain ⟨c0, c1, _, _⟩ := hT.b0
    obtain ⟨c2, c3, f2, f3⟩ := hT.b2
    rw [HSE.out] at c0 c1 c2 c3 f2 f3
    have hEn : E ≤ n := by have := HP.out.top q hqn; rw [hqr, hqE] at this; exact this
    by_cases hlt : E < hi
    · have hEr : r E = E := by rw [← hqE]; exact HP.out.next hqr hqn (by omega)
      have hEe : E < e E := by have := HP.out.lt E (by omega); rw [hEr] at this; exact this
      have HQ := Lib.hid (show r E = E ∧ e q = E from ⟨hEr, hqE⟩)
      have hs := fun (W : World) (hW : SideAt W b gA gE mB n (cutR r p E) (cutE e p E) (cutM M p E)) => side_set b gA gE mB n E _ _ _ (by omega) hn W hW
      rw [show cutR r p E E = E by unfold cutR; rw [if_neg (by omega)]; exact hEr, show cutE e p E E = e E from if_neg (by omega)] at hs
      have HSET := Lib.hid hs
      obtain ⟨z, hz⟩ : ∃ z, e E = z := ⟨_, rfl⟩
      rw [hz] at HSET hEe
      have HZ := Lib.hid hz
      clear hs hT hEr hqr hqE hz
      have d3 := cell_below (below_new wr (.cells #[.int .i64 0, .int .i64 0] 39)) c3
      go_upto_region 4 with fail
      go_cut [8] (fun s8 wx => ∃ g, s8 = .pointer (some ⟨g, 0, none⟩) ∧ s + 3 < g ∧ SpanBlk wx g ((E : Int), (z : Int)) ∧ TkSt w wx b gA gE mB n (cutR r p E) (cutE e p E) (cutM M p E) ((lo : Int), (hi : Int)) (o1, o2) ((p : Int), (E : Int)) (hulT (o1, o2) M p (E - p)))
      case first =>
        go_region_with (go_at_call 121; refine (HSET.out _ (by first | exact HT.out.drew.side | exact (HT.out.alloc _).drew.side)).mono ?_; rintro e' W1 ⟨rfl, hs1, hk1⟩; try (have hbn := span_of_heap (show SpanBlk (wr.alloc (.cells #[.int .i64 0, .int .i64 0] 39)).drew wr.heap.size (0, 0) from SpanBlk.new_ wr 0 0 _) (hk1.block wr.heap.size (by simp) (by have := HT.out.lt; have := HT.out.size; simp; omega)); have hbm := hbn; obtain ⟨u0, u1, u2, u3⟩ := hbn))
        all_goals
          go_wp2_with fail
          go_meet
          first
            | (have hTn := ((HT.out.alloc _).drew.step hs1 hk1 (by intro x hx; simp at hx ⊢; exact .inl hx)).putN (g := wr.heap.size) HT.out.size (.int .i64 (E : Int)) (.int .i64 (z : Int)); exact ⟨wr.heap.size, rfl, by rw [← HSE.out]; exact HT.out.size, hbm.put _ _, hTn⟩)
            | (have hTn := (HT.out.drew.step hs1 hk1 (by intro x hx; simp at hx ⊢; exact .inl hx)); have hTa := hTn.alloc (.cells #[.int .i64 (E : Int), .int .i64 (z : Int)] 39); exact ⟨W1.heap.size, rfl, by rw [← HSE.out]; exact hTn.size, SpanBlk.new_ W1 _ _ _, hTa⟩)
            | (trace_state; fail)
      case rest =>
      obtain ⟨g, rfl, hgs, hN, hT5⟩ := hcut
      obtain ⟨ya, hya⟩ : ∃ ya, hulT (o1, o2) M p (E - p) = ya := ⟨_, rfl⟩
      have hME : cutM M p E E = M E := if_neg (by omega)
      obtain ⟨m, hm⟩ : ∃ m, (M E).getD (0, 0) = m := ⟨_, rfl⟩
      obtain ⟨yb, hyb⟩ : ∃ yb, hullS [ya, m] = yb := ⟨_, rfl⟩
      have hnext : hulT (o1, o2) M p (z - p) = yb := by
        rw [← HZ.out, hulT_next HP.out HD.out _ hpE HQ.out.1 (by omega), hya, ← hyb, ← hm]
        refine (hullS_two ?_ (M E) (fun q' hq => HD.out.right E q' hq)).symm
        rw [← hya]
        exact hulT_right HO.out HD.out.right p _
      rw [hya] at hT5
      obtain ⟨ya, yc⟩ := ya
      obtain ⟨yb, yd⟩ := yb
      obtain ⟨m1, m2⟩ := m
      have hl := hT5.side.map.look (k := E) (by omega)
      have hld := hT5.drew.side.map.look (k := E) (by omega)
      rw [hME, hm] at hl hld
      unfold valS at hl hld
      have HHU := Lib.hid (hull_two wc (ya, yc) (m1, m2) _ hyb)
      have HT5 := Lib.hid hT5
      have HN5 := Lib.hid hN
      have HNX := Lib.hid hnext
      obtain ⟨c4, c5, f8, f9⟩ := hT5.b3
      obtain ⟨c6, _, _, _⟩ := hN
      have c7 := hT5.side.c2
      have hgw : g < wc.heap.size := cell_lt c6
      rw [HSE.out] at c4 c5 f8 f9
      clear hT5 hm hyb hya hME hnext HSET d3 c0 c1 c2 c3 f2 f3 HT
      go_upto_region 5 with fail
      go_cut [] (fun wx => SpanBlk wx g ((E : Int), (z : Int)) ∧ TkSt w wx b gA gE mB n (cutR r p E) (cutE e p E) (cutM M p E) ((lo : Int), (hi : Int)) (o1, o2) ((p : Int), (E : Int)) (yb, yd))
      case first =>
        go_region_with (go_at_call 122; refine HHU.out.mono ?_; rintro e' W3 ⟨rfl, hb3⟩; have hT3 := HT5.out.below hb3; have hN3 := HN5.out.below hb3; obtain ⟨t0, t1, t2, t3⟩ := hT3.b3; rw [HSE.out] at t0 t1 t2 t3)
        all_goals
          have hT4 := hT3.putY yb yd
          have hN4 := span_of_heap hN3 (two_far (g := s + 3) (by omega) (.int .i64 yb) (.int .i64 yd))
          rw [HSE.out] at hT4
          go_wp2_with fail
          go_meet
          exact ⟨hN4, hT4⟩
      case rest =>
      obtain ⟨hN6, hT6⟩ := hcut
      clear HHU HT5 HN5 c4 c5 c6 c7 f8 f9 hl hld hgw
      have HT6 := Lib.hid hT6
      have HN6 := Lib.hid hN6
      obtain ⟨W6, hrun, hM6, hturn⟩ := hT6.drew.side.map.drop (k := E) (by omega) (by omega) 0
      have HM6 := Lib.hid hM6
      have HTU := Lib.hid hturn
      obtain ⟨c6, _, _, _⟩ := hN6
      have c7 := hT6.side.c2
      clear hT6 hM6 hturn
      go_upto_region 6 with fail
      go_cut [] (fun wx => SpanBlk wx g ((E : Int), (z : Int)) ∧ TkSt w wx b gA gE mB n (cutR r p E) (cutE e p E) (delM (cutM M p E) E) ((lo : Int), (hi : Int)) (o1, o2) ((p : Int), (E : Int)) (yb, yd))
      case first =>
        go_region
        all_goals
          have hT7 := HT6.out.drew.turn HM6.out HTU.out
          have hN7 := span_of_heap (show SpanBlk _ g ((E : Int), (z : Int)) from HN6.out) ((kept_turned HTU.out).block g (show g < _ from cell_lt HN6.out.1) (by have := HT6.out.lt; have := HSE.out; simp; omega))
          go_wp2_with fail
          go_meet
          exact ⟨hN7, hT7⟩
      case rest =>
      obtain ⟨hN8, hT8⟩ := hcut
      clear HT6 HN6 HM6 HTU hrun c6 c7
      rw [cutM_next HP.out HD.out hpE HQ.out.1 (by omega), HZ.out] at hT8
      have HT8 := Lib.hid hT8
      have HN8 := Lib.hid hN8
      obtain ⟨c6, c7, _, _⟩ := hN8
      obtain ⟨c8, c9, _, _⟩ := hT8.b2
      rw [HSE.out] at c8 c9
      have hpe : cutR r p E p = p := cutR_root hpE
      have hpE' : cutE e p E p = E := if_pos rfl
      have hEz : cutE e p E E = z := by rw [← HZ.out]; exact if_neg (by omega)
      have hun := side_unite b gA gE mB n p (cutR r p E) (cutE e p E) (cutM M p z) hpe (by omega) (by rw [hpE']; omega) hn wc.drew hT8.drew.side
      have hcu := cut_unite (r := r) (e := e) (p := p) (E := E) hpE HQ.out.1 (by rw [HZ.out]; exact hEe)
      rw [hcu.1, hcu.2, hpE', hEz, HZ.out] at hun
      have HUN := Lib.hid hun
      clear hT8 hpe hpE' hEz hun hcu
      go_upto_region 7 with fail
      go_region_with (go_at_call 123; refine HUN.out.mono ?_; rintro e' W9 ⟨rfl, hs9, hk9⟩; have hT9 := HT8.out.drew.step hs9 hk9 (by intro x hx; simp at hx ⊢; omega); obtain ⟨t0, t1, t2, t3⟩ := hT9.b2; rw [HSE.out] at t0 t1 t2 t3)
      all_goals
        have hT10 := hT9.putT (p : Int) (z : Int)
        rw [HSE.out] at hT10
        go_wp2_with fail
        go_roundg (n - z)
        case rel => exact ⟨z, E, rfl, by omega, HQ.out.1, by omega, HZ.out, by omega, by omega, by rw [HNX.out]; exact hT10⟩
        case measure => omega
    · have hq2 := HP.out.same q (hi - 1) hqn (by rw [hqr]; omega) (by rw [hqr, hqE]; omega)
      have hEE : E = EF := by rw [← HEF.out, hq2, hqr, hqE]
      obtain ⟨ya, hya⟩ : ∃ ya, hulT (o1, o2) M p (E - p) = ya := ⟨_, rfl⟩
      have HYA := Lib.hid (show hulT (o1, o2) M p (EF - p) = ya by rw [← hEE]; exact hya)
      rw [hya] at hT
      obtain ⟨ya, yc⟩ := ya
      obtain ⟨W6, hrun, hM6, hturn⟩ := hT.drew.side.map.store (k := p) (by omega) (by omega) (ya, yc)
      unfold valS at hrun
      have HT6 := Lib.hid hT
      have HM6 := Lib.hid hM6
      have HTU := Lib.hid hturn
      have HEE := Lib.hid hEE
      obtain ⟨c4, c5, _, _⟩ := hT.b3
      have c7 := hT.side.c2
      rw [HSE.out] at c4 c5
      clear hT hM6 hturn hq2 hEE hya HT hqr hqE
      go_upto_region 8 with fail
      go_cut [] (fun wx => TkSt w wx b gA gE mB n (cutR r p E) (cutE e p E) (putM (cutM M p E) p (ya, yc)) ((lo : Int), (hi : Int)) (o1, o2) ((p : Int), (E : Int)) (ya, yc))
      case first =>
        go_region
        all_goals
          have hT7 := HT6.out.drew.turn HM6.out HTU.out
          go_wp2_with fail
          go_meet
          exact hT7
      case rest =>
      clear HT6 HM6 HTU hrun c4 c5 c7 c0 c1 c2 c3 f2 f3
      have HT8 := Lib.hid hcut
      obtain ⟨c2, c3, f2, f3⟩ := hcut.b2
      obtain ⟨c4, c5, f4, f5⟩ := hcut.b3
      rw [HSE.out] at c2 c3 f2 f3 c4 c5 f4 f5
      clear hcut
      go_wp2_with fail
      go_region
      all_goals
        have hT9 := HT8.out.putT (p : Int) (E : Int)
        rw [HSE.out] at hT9
        have hT10 := hT9.putY ya yc
        rw [HSE.out] at hT10
        have hT11 := hT10.drew
        go_wp2_with fail
        refine bodyPost_ret (v := .tuple #[valS ((p : Int), (E : Int)), valS (ya, yc)]) (res_spans rfl _ _ (s + 2) (s + 3) _ _ rfl rfl ?_ ?_) rfl ?_
        · have h9 := hT11.b2; rw [HSE.out] at h9; exact h9
        · have h9 := hT11.b3; rw [HSE.out] at h9; exact h9
        · refine ⟨?_, ?_, hT11.kept⟩
          · rw [← HEE.out] at HYA ⊢; rw [HYA.out]; rfl
          · rw [← HEE.out] at HYA ⊢; rw [HYA.out]; exact hT11.side
end Go.Proofs.YtcbiaeeifclieaaGreatDoor
/- cluster's link: what it keeps. -/
namespace Go.Proofs.YtcbiaeeifclieaaGreatDoor
open Go.RowKit

theorem eqlS_any (a1 a2 b1 b2 : Int) (w : World) : (binOp .eql 39 (.agg #[.int .i64 a1, .int .i64 a2]) (.agg #[.int .i64 b1, .int .i64 b2])).run Tryz.prog w = .ok (.bool (decide (a1 = b1 ∧ a2 = b2))) w := by
  have u3 := Tryz.underlying3
  have a3 := Tryz.isAgg3
  have z3 := Tryz.sizeOf3
  have hS : Tryz.prog.underlying 39 = some (.struct (Tryz.prog.fieldsOf 39)) := by kernel_rfl
  have hp : Tryz.prog.stoodInHeld 39 = false := by kernel_rfl
  rw [run_eql_struct, show (10000 : Nat) = 9999 + 1 from rfl, run_equalIn_agg w 9999 39 _ _ hS hp]
  simp only [Program.fieldsOf, Tryz.underlying39]
  go_simp
  by_cases h1 : a1 = b1 <;> by_cases h2 : a2 = b2 <;> simp [h1, h2]
theorem guardSp : Tryz.prog.eqGuardType Tryz.prog.depth 39 = false := by kernel_rfl
/-- The blocks of a side. -/
structure Blk where
  b : Nat
  gA : Nat
  gE : Nat
  mB : Nat
def Blk.wr (B : Blk) : List Nat := [B.gA, B.gE, B.mB]
def SdAt (W : World) (B : Blk) (n : Nat) (S : Sd) : Prop := SideAt W B.b B.gA B.gE B.mB n S.r S.e S.M
/-- The blocks of two sides are apart. -/
structure BlkApart (B C : Blk) : Prop where
  bc : C.b ∉ B.wr ∧ C.gA ∉ B.wr ∧ C.gE ∉ B.wr ∧ C.mB ∉ B.wr
  cb : B.b ∉ C.wr ∧ B.gA ∉ C.wr ∧ B.gE ∉ C.wr ∧ B.mB ∉ C.wr
theorem BlkApart.turn {B C : Blk} (h : BlkApart B C) : BlkApart C B := ⟨h.cb, h.bc⟩
theorem SdAt.lt {W : World} {B : Blk} {n : Nat} {S : Sd} (h : SdAt W B n S) : B.b < W.heap.size ∧ B.gA < W.heap.size ∧ B.gE < W.heap.size ∧ B.mB < W.heap.size := by
  obtain ⟨ah, en, hA, _, _⟩ := h.ex
  exact ⟨cell_lt hA.c0, heap_lt hA.hA, heap_lt hA.hE, h.map.lt⟩
theorem SdAt.kept {W W' : World} {B : Blk} {n : Nat} {S : Sd} (h : SdAt W B n S) {L : List Nat} (hk : Kept W W' L) (hb : B.b ∉ L ∧ B.gA ∉ L ∧ B.gE ∉ L ∧ B.mB ∉ L) : SdAt W' B n S :=
  SideAt.kept h hk hb.1 hb.2.1 hb.2.2.1 hb.2.2.2
theorem SdAt.old {W W' : World} {B : Blk} {n : Nat} {S : Sd} (h : SdAt W B n S) (hk : Kept W W' []) : SdAt W' B n S := h.kept hk (by simp)
theorem Kept.more {a b : World} {S T : List Nat} (h : Kept a b S) (hs : ∀ x ∈ S, x ∈ T) : Kept a b T := ⟨h.os, h.tape, h.output, h.size, fun i hi hn => h.block i hi (fun hm => hn (hs i hm))⟩
/-- A span taken at a side. -/
theorem take_sd (B : Blk) (n m lo hi a b : Nat) (S : Sd) (hO : Ok n m S) (h1 : lo < hi) (h2 : hi ≤ n) (h3 : a < b) (h4 : b ≤ m) (hn : n ≤ 100000000) : ∃ c d : Nat, Took n m S (S.r lo) (S.e (S.r (hi - 1))) a b c d ∧ S.r lo ≤ lo ∧ hi ≤ S.e (S.r (hi - 1)) ∧ ∀ w, SdAt w B n S →
    Calls Tryz.prog 103 #[.pointer (some ⟨B.b, 0, none⟩), .agg #[.int .i64 (lo : Int), .int .i64 (hi : Int)], .agg #[.int .i64 (a : Int), .int .i64 (b : Int)]] w fun e' w' => e' = .returned (.tuple #[.agg #[.int .i64 (S.r lo : Int), .int .i64 (S.e (S.r (hi - 1)) : Int)], .agg #[.int .i64 (c : Int), .int .i64 (d : Int)]]) ∧
      SdAt w' B n (takeS S (S.r lo) (S.e (S.r (hi - 1))) ((c : Int), (d : Int))) ∧ Kept w w' B.wr := by
  obtain ⟨c, d, e1, e2, e3, e4⟩ := took hO h1 h2 h3 h4
  refine ⟨c, d, e2, e3, e4, fun w hS => ?_⟩
  refine (take_any B.b B.gA B.gE B.mB n lo hi S.r S.e S.M ((a : Int), (b : Int)) h1 h2 (by unfold rightB; simp; omega) hn w hS hO.doms).mono ?_
  rintro e' w' ⟨rfl, hs, hk⟩
  rw [e1] at hs ⊢
  exact ⟨rfl, hs, hk⟩
/-- What holds at each turn. -/
structure LkAt (L : List NC) (w W : World) (B1 B2 : Blk) (n m : Nat) (X : Nat → Nat → Nat → Nat → Prop) (g : Nat) (s : Bool) (BN BF : Blk) (nn nf : Nat) (N F : Sd) (p y z : Nat) : Prop where
  which : (s = false ∧ BN = B1 ∧ BF = B2 ∧ nn = n ∧ nf = m) ∨ (s = true ∧ BN = B2 ∧ BF = B1 ∧ nn = m ∧ nf = n)
  atN : SdAt W BN nn N
  atF : SdAt W BF nf F
  fro : Fro nn nf N F p y z
  sN : Sound L s nn N
  sF : Sound L (!s) nf F
  lies : ∀ a b c d, X a b c d → Lies (if s = true then F else N) a b c d
  c8 : SpanBlk W g ((p : Int), (N.e p : Int))
  c9 : SpanBlk W (g + 1) ((y : Int), (z : Int))
  kept : Kept w W (B1.wr ++ B2.wr)
  low : w.heap.size ≤ g ∧ B1.b < w.heap.size ∧ B1.gA < w.heap.size ∧ B1.gE < w.heap.size ∧ B1.mB < w.heap.size ∧ B2.b < w.heap.size ∧ B2.gA < w.heap.size ∧ B2.gE < w.heap.size ∧ B2.mB < w.heap.size
  apart : BlkApart B1 B2
section
variable {L : List NC} {w W W' : World} {B1 B2 : Blk} {n m : Nat} {X : Nat → Nat → Nat → Nat → Prop} {g : Nat} {s : Bool} {BN BF : Blk} {nn nf : Nat} {N F : Sd} {p y z c d : Nat}
theorem LkAt.size (h : LkAt L w W B1 B2 n m X g s BN BF nn nf N F p y z) : nn ≤ max n m ∧ nf ≤ max n m := by
  rcases h.which with ⟨_, _, _, e1, e2⟩ | ⟨_, _, _, e1, e2⟩ <;> omega
theorem LkAt.nums (h : LkAt L w W B1 B2 n m X g s BN BF nn nf N F p y z) : y < z ∧ z ≤ nf ∧ p < N.e p ∧ N.e p ≤ nn := by
  obtain ⟨a, b, e1, e2, e3⟩ := h.fro.okN.val _ _ h.fro.at_
  injection e1 with e4 e5
  obtain ⟨q1, q2, q3⟩ := matched_key h.fro.okN h.fro.at_
  have := h.fro.okN.part.top p q2
  rw [q1] at this
  omega
theorem LkAt.sides (h : LkAt L w W B1 B2 n m X g s BN BF nn nf N F p y z) : (BN.b ∉ BF.wr ∧ BN.gA ∉ BF.wr ∧ BN.gE ∉ BF.wr ∧ BN.mB ∉ BF.wr) ∧ (∀ x ∈ BF.wr, x ∈ B1.wr ++ B2.wr) ∧ (∀ x ∈ BF.wr, x < w.heap.size) := by
  obtain ⟨l0, l1, l2, l3, l4, l5, l6, l7, l8⟩ := h.low
  rcases h.which with ⟨_, rfl, rfl, _, _⟩ | ⟨_, rfl, rfl, _, _⟩
  · exact ⟨h.apart.cb, fun x hx => List.mem_append_right _ hx, fun x hx => by simp [Blk.wr] at hx; omega⟩
  · exact ⟨h.apart.bc, fun x hx => List.mem_append_left _ hx, fun x hx => by simp [Blk.wr] at hx; omega⟩
/-- The far side took it: its set and what belongs to it are the next to go on from. -/
theorem LkAt.turn {P E' : Nat} (h : LkAt L w W B1 B2 n m X g s BN BF nn nf N F p y z) (hPe : P = F.r y) (hEe : E' = F.e (F.r (z - 1))) (hP : P ≤ y) (hE : z ≤ E') (ht : Took nf nn F P E' p (N.e p) c d) (hn1 : SdAt W' BF nf (takeS F P E' ((c : Int), (d : Int)))) (hn2 : SdAt W' BN nn N) (hk : Kept w W' (B1.wr ++ B2.wr)) (h8 : SpanBlk W' g ((P : Int), (E' : Int))) (h9 : SpanBlk W' (g + 1) ((c : Int), (d : Int))) :
    LkAt L w W' B1 B2 n m X g (!s) BF BN nf nn (takeS F P E' ((c : Int), (d : Int))) N P c d := by
  obtain ⟨t1, t2⟩ := sound_set h.fro.okN h.sN h.fro.at_
  obtain ⟨k1, k2, k3, k4⟩ := h.nums
  subst hPe hEe
  have hs := take_sound h.fro.okF h.sF k1 k2 ht t1 (by rw [Bool.not_not]; exact t2) k3 (h.sN.keys _ _ _ h.fro.at_).2 (by rw [Bool.not_not]; exact (h.sN.keys _ _ _ h.fro.at_).1)
  refine ⟨?_, hn1, hn2, h.fro.turn hP hE ht, hs, by rw [Bool.not_not]; exact h.sN, fun a b c' d' hx => ?_, ?_, h9, hk, h.low, h.apart⟩
  · rcases h.which with ⟨rfl, rfl, rfl, rfl, rfl⟩ | ⟨rfl, rfl, rfl, rfl, rfl⟩
    · exact .inr ⟨rfl, rfl, rfl, rfl, rfl⟩
    · exact .inl ⟨rfl, rfl, rfl, rfl, rfl⟩
  · have hl := h.lies a b c' d' hx
    cases s with
    | false => exact hl
    | true => exact take_lies h.fro.okF ht hl
  · rw [(take_at _).2]; exact h8
end
/-- What a link leaves. -/
structure LkDone (L : List NC) (w W : World) (B1 B2 : Blk) (n m : Nat) (X : Nat → Nat → Nat → Nat → Prop) (A B : Sd) : Prop where
  both : Both n m A B
  sA : Sound L false n A
  sB : Sound L true m B
  lies : ∀ a b c d, X a b c d → Lies A a b c d
  atA : SdAt W B1 n A
  atB : SdAt W B2 m B
  kept : Kept w W (B1.wr ++ B2.wr)
theorem LkAt.done {L : List NC} {w W W' : World} {B1 B2 : Blk} {n m : Nat} {X : Nat → Nat → Nat → Nat → Prop} {g : Nat} {s : Bool} {BN BF : Blk} {nn nf : Nat} {N F : Sd} {p y z : Nat} (h : LkAt L w W B1 B2 n m X g s BN BF nn nf N F p y z) (hPe : y = F.r y) (hEe : z = F.e (F.r (z - 1))) (ht : Took nf nn F y z p (N.e p) p (N.e p)) (hn1 : SdAt W' BF nf (takeS F y z ((p : Int), (N.e p : Int)))) (hn2 : SdAt W' BN nn N) (hk : Kept w W' (B1.wr ++ B2.wr)) : ∃ A B, LkDone L w W' B1 B2 n m X A B := by
  obtain ⟨t1, t2⟩ := sound_set h.fro.okN h.sN h.fro.at_
  obtain ⟨k1, k2, k3, k4⟩ := h.nums
  have hs := take_sound h.fro.okF h.sF k1 k2 (by rw [← hEe, ← hPe]; exact ht) t1 (by rw [Bool.not_not]; exact t2) k3 (h.sN.keys _ _ _ h.fro.at_).2 (by rw [Bool.not_not]; exact (h.sN.keys _ _ _ h.fro.at_).1)
  rw [← hEe, ← hPe] at hs
  have hb := h.fro.done ht
  rcases h.which with ⟨rfl, rfl, rfl, rfl, rfl⟩ | ⟨rfl, rfl, rfl, rfl, rfl⟩
  · exact ⟨N, _, hb, h.sN, hs, fun a b c d hx => h.lies a b c d hx, hn2, hn1, hk⟩
  · exact ⟨_, N, hb.turn, hs, h.sN, fun a b c d hx => take_lies h.fro.okF ht (h.lies a b c d hx), hn1, hn2, hk⟩
end Go.Proofs.YtcbiaeeifclieaaGreatDoor
/- cluster's clusters, walked. -/
namespace Go.Proofs.YtcbiaeeifclieaaGreatDoor
open Go.RowKit

def NC.cl (x : NC) : Cl := (((x.a : Int), (x.b : Int)), ((x.c : Int), (x.d : Int)))
theorem clusL_some {M : Nat → Option Sp} {m : Nat} (hv : ∀ k s, M k = some s → ∃ a b : Nat, s = ((a : Int), (b : Int)) ∧ a < b ∧ b ≤ m) {k y z : Nat} (h : M k = some ((y : Int), (z : Int))) : clusL M (k + 1) = clusL M k ++ [⟨if clusL M k = [] then 0 else k, k + 1, y, z⟩] := by
  obtain ⟨h1, h2⟩ := clus_inv hv k
  have e : clusAt M (k + 1) = ((clusAt M k).1 ++ (clusAt M k).2.toList, some ⟨if (clusAt M k).2 = none then 0 else k, k + 1, y, z⟩) := by
    rw [clusAt, h]; simp
  unfold clusL
  rw [e]
  rcases ho : (clusAt M k).2 with _ | x
  · rw [(h1 ho).1]; simp
  · simp
theorem clusL_none {M : Nat → Option Sp} {m : Nat} (hv : ∀ k s, M k = some s → ∃ a b : Nat, s = ((a : Int), (b : Int)) ∧ a < b ∧ b ≤ m) {k : Nat} (h : M k = none) : (clusL M k = [] ∧ clusL M (k + 1) = []) ∨ ∃ D x, clusL M k = D ++ [x] ∧ clusL M (k + 1) = D ++ [{ x with b := k + 1 }] := by
  obtain ⟨h1, h2⟩ := clus_inv hv k
  have e : clusAt M (k + 1) = ((clusAt M k).1, (clusAt M k).2.map fun x => { x with b := k + 1 }) := by rw [clusAt, h]
  unfold clusL
  rw [e]
  rcases ho : (clusAt M k).2 with _ | x
  · left; rw [(h1 ho).1]; simp
  · right; exact ⟨(clusAt M k).1, x, by simp, by simp⟩
theorem clusL_len (M : Nat → Option Sp) : ∀ k, (clusL M k).length ≤ k
  | 0 => by simp [clusL, clusAt]
  | k + 1 => by
    have h := clusL_len M k
    unfold clusL at h ⊢
    rw [clusAt]
    rcases hM : M k with _ | s
    · rcases ho : (clusAt M k).2 with _ | x
      · rw [ho] at h; simp at h ⊢; omega
      · rw [ho] at h; simp at h ⊢; omega
    · rcases ho : (clusAt M k).2 with _ | x
      · rw [ho] at h; simp at h ⊢; omega
      · rw [ho] at h; simp at h ⊢; omega
theorem cellsC_hi (D : List Cl) (x : Cl) (b : Int) : (cellsC (D ++ [x])).set (D.length * 4 + 1) (.int .i64 b) = cellsC (D ++ [((x.1.1, b), x.2)]) := by
  rw [cellsC_snoc, cellsC_snoc, List.set_append_right _ _ (by rw [cellsC_len]; omega), cellsC_len]
  rw [show D.length * 4 + 1 - D.length * 4 = 1 by omega]
  rfl
theorem MapAt.len {w : World} {m n : Nat} {M : Nat → Option Sp} (h : MapAt w m n M) (ty : TypeId) : (Builtin.len_ #[170] ty #[.map (some m)]).run Tryz.prog w = .ok (.int .i64 (cntM M n : Nat)) w := by
  obtain ⟨D, h1, h2, _⟩ := h
  rw [h1.len map_type ty, h2]
set_option maxRecDepth 100000 in
set_option maxHeartbeats 2000000 in
theorem clusters_any (B : Blk) (n m : Nat) (A : Sd) (hn : n ≤ 100000000) (hO : Ok n m A) (w : World) (hA : SdAt w B n A) :
    Calls Tryz.prog 73 #[.pointer (some ⟨B.b, 0, none⟩), .int .i64 (n : Int)] w fun e' w' => ∃ v, e' = .returned v ∧ w'.ownsRow w.heap.size 41 4 v (clusL A.M n).length (cellsC ((clusL A.M n).map NC.cl)) ∧ Below w.heap.size w w' := by
  have HV := Lib.hid hO.val
  have HA := Lib.hid hA
  have hlen := hA.map.len
  have c2 := hA.c2
  have hcl := cntM_le A.M n
  clear hA hO
  obtain ⟨cn, hcn⟩ : ∃ cn, cntM A.M n = cn := ⟨_, rfl⟩
  rw [hcn] at hcl
  simp only [hcn] at hlen
  clear hcn
  go_enter Tryz.func73, Tryz.ntmps73
  go_wp2_with (at_make; refine wpList_mk rfl _ _ _ rfl clusSlice (base := w.heap.size) _ cn rfl rfl rfl (by omega) (by unfold maxLen; omega) (Nat.le_refl _) ?_; intro v0 w3 hown0 hg0)
  have hb3 := below_make hg0
  clear hlen c2 hg0
  go_loopw [5, 6, 17] (fun v z i wr => ∃ k : Nat, k ≤ n ∧ i = .int .i64 (k : Int) ∧ z = .int .i64 ((if clusL A.M k = [] then 0 else k : Nat) : Int) ∧ wr.ownsRow w.heap.size 41 4 v (clusL A.M k).length (cellsC ((clusL A.M k).map NC.cl)) ∧ Below w.heap.size w wr) (fun _ _ i _ => n - (intOf i).toNat)
  case atStart => exact ⟨0, Nat.zero_le _, rfl, rfl, hown0, hb3⟩
  case round =>
    obtain ⟨k, hk, rfl, rfl, hown, hb⟩ := hrel
    have hA := HA.out.old (Kept.of_below hb [])
    have c2 := hA.c2
    have hlk := hA.map.look_ok (k := k) (by omega)
    clear hA
    obtain ⟨bg, hbg⟩ : ∃ bg : Nat, (if clusL A.M k = [] then 0 else k) = bg := ⟨_, rfl⟩
    simp only [hbg]
    have hbgn : bg ≤ k := by rw [← hbg]; split <;> omega
    by_cases hlt : k < n
    · rcases hM : A.M k with _ | s
      · rw [hM] at hlk
        unfold valS at hlk
        simp only [Option.getD_none, Option.isSome_none] at hlk
        have hown1 := hown.alloc (.cells #[.int .i64 0, .int .i64 0] 39)
        have hb1 := hb.alloc hb.size (.cells #[.int .i64 0, .int .i64 0] 39)
        rcases clusL_none HV.out hM with ⟨e1, e2⟩ | ⟨D, x, e1, e2⟩
        · rw [e1] at hown1
          have HE := Lib.hid (And.intro e1 e2)
          have hl0 : (clusL A.M k).length = 0 := by rw [e1]; rfl
          have hb0 : bg = 0 := by rw [← hbg, if_pos e1]
          obtain ⟨L0, c0, hu, _⟩ := own_form hown1
          subst hu
          clear e1 e2 hM hown hbg
          subst hb0
          go_wp2_with fail
          go_roundw
          case rel => exact ⟨k + 1, by omega, by go_num, by rw [HE.out.2]; rfl, by rw [HE.out.2]; exact hown1, hb1⟩
          case measure => simp [intOf]; omega
        · rw [e1] at hown1
          obtain ⟨q, hq⟩ : ∃ q, D.length = q := ⟨_, rfl⟩
          have HE := Lib.hid (And.intro e2 hq)
          simp only [List.length_append, List.length_cons, List.length_nil, Nat.zero_add, hq] at hown1
          obtain ⟨g, c0, rfl, hbg2, hgl⟩ := hown1.form (by omega)
          obtain ⟨⟨u, hu⟩, hfz⟩ := own_slot hown1 (j := q * 4 + 1) (by omega)
          have hst := (hown1.stored (q * 4 + 1) (.int .i64 ((k : Int) + 1))).1
          have hq2 : q ≤ 100000000 := by
            have := clusL_len A.M k
            rw [e1, List.length_append, hq] at this
            simp at this
            omega
          have h9 := cellsC_hi (D.map NC.cl) x.cl ((k : Int) + 1)
          rw [List.length_map, hq] at h9
          rw [List.map_append, show List.map NC.cl [x] = [x.cl] from rfl, h9] at hst
          have e3 : (clusL A.M (k + 1)).map NC.cl = D.map NC.cl ++ [((x.cl.1.1, (k : Int) + 1), x.cl.2)] := by rw [e2, List.map_append]; rfl
          have e4 : (clusL A.M (k + 1)).length = q + 1 := by rw [e2, List.length_append, hq]; rfl
          rw [← e3] at hst
          have HST := Lib.hid hst
          have HL4 := Lib.hid e4
          have hb2 := hb1.setCell (p := ⟨g, q * 4 + 1, none⟩) hbg2 (.int .i64 ((k : Int) + 1))
          have hne : ¬(clusL A.M (k + 1) = []) := by rw [e2]; simp
          have HNE := Lib.hid hne
          clear e1 e2 e3 e4 h9 hM hown hown1 hst hq hbg hne
          go_wp2_with fail
          go_roundw
          case rel => exact ⟨k + 1, by omega, by go_num, by rw [if_neg HNE.out]; go_num, by rw [HL4.out]; exact HST.out, hb2⟩
          case measure => simp [intOf]; omega
      · obtain ⟨y, z, rfl, _, _⟩ := HV.out _ _ hM
        rw [hM] at hlk
        unfold valS at hlk
        simp only [Option.getD_some, Option.isSome_some] at hlk
        have hsm := clusL_some HV.out hM
        rw [hbg] at hsm
        obtain ⟨q, hq⟩ : ∃ q, (clusL A.M k).length = q := ⟨_, rfl⟩
        have hq2 : q ≤ 100000000 := by have := clusL_len A.M k; omega
        have HSM := Lib.hid hsm
        have HQ := Lib.hid hq
        rw [hq] at hown
        have hown' := (hown.alloc (.cells #[.int .i64 (y : Int), .int .i64 (z : Int)] 39)).alloc (.cells #[.int .i64 (bg : Int), .int .i64 0, .int .i64 (y : Int), .int .i64 (z : Int)] 41)
        have hb2 := (hb.alloc hb.size (.cells #[.int .i64 (y : Int), .int .i64 (z : Int)] 39)).alloc (Nat.le_trans hb.size (by simp)) (.cells #[.int .i64 (bg : Int), .int .i64 0, .int .i64 (y : Int), .int .i64 (z : Int)] 41)
        have hnw := cells_new (wr.alloc (.cells #[.int .i64 (y : Int), .int .i64 (z : Int)] 39)) [.int .i64 (bg : Int), .int .i64 0, .int .i64 (y : Int), .int .i64 (z : Int)] 41
        rw [World.size_alloc] at hnw
        have HW := Lib.hid hnw
        clear hsm hq hM hnw hown hbg
        go_wp2_with (at_builtin; refine wpList_app rfl _ _ _ rfl clusSlice (by decide) u5 q _ rfl hown' ⟨wr.heap.size + 1, 0, none⟩ 1 1 _ rfl rfl HW.out (oneInt4 _ _ _ _ _) (by omega) (by unfold maxLen; omega) hb2.size ?_; intro v1 w1 hown1 hg1 hat1; have hb3 := below_app hb2 hg1 hown' hb2.size; obtain ⟨g, c0, rfl, hbg2, hgl⟩ := hown1.form (by omega); obtain ⟨⟨u, hu⟩, hfz⟩ := own_slot hown1 (j := q * 4 + 1) (by omega))
        have hst := (hown1.stored (q * 4 + 1) (.int .i64 ((k : Int) + 1))).1
        have h9 := cellsC_hi ((clusL A.M k).map NC.cl) (((bg : Int), 0), ((y : Int), (z : Int))) ((k : Int) + 1)
        rw [cellsC_snoc, List.length_map, HQ.out] at h9
        rw [h9] at hst
        have e3 : (clusL A.M (k + 1)).map NC.cl = (clusL A.M k).map NC.cl ++ [(((bg : Int), (k : Int) + 1), ((y : Int), (z : Int)))] := by rw [HSM.out, List.map_append]; rfl
        have e4 : (clusL A.M (k + 1)).length = q + 1 := by rw [HSM.out, List.length_append, HQ.out]; rfl
        have hne : ¬(clusL A.M (k + 1) = []) := by rw [HSM.out]; simp
        rw [← e3] at hst
        have hb4 := hb3.setCell (p := ⟨g, q * 4 + 1, none⟩) hbg2 (.int .i64 ((k : Int) + 1))
        go_roundw
        case rel => exact ⟨k + 1, by omega, by go_num, by rw [if_neg hne]; go_num, by rw [e4]; exact hst, hb4⟩
        case measure => simp [intOf]; omega
    · have HKN := Lib.hid (show k = n by omega)
      go_wp2_with fail
      go_ret
      exact ⟨u5, rfl, by rw [← HKN.out]; exact hown, hb⟩
end Go.Proofs.YtcbiaeeifclieaaGreatDoor
/- cluster's link, walked. -/
namespace Go.Proofs.YtcbiaeeifclieaaGreatDoor
open Go.RowKit

theorem LkAt.start {L : List NC} {w W' : World} {B1 B2 : Blk} {n m : Nat} {X : Nat → Nat → Nat → Nat → Prop} {g : Nat} {A B : Sd} {a b c d p E c0 d0 : Nat} (hb : Both n m A B) (sA : Sound L false n A) (sB : Sound L true m B) (hl : ∀ a b c d, X a b c d → Lies A a b c d) (hx : (⟨a, b, c, d⟩ : NC) ∈ L) (h1 : a < b) (h2 : b ≤ n) (h3 : c < d) (hp : p = A.r a) (hE : E = A.e (A.r (b - 1))) (ht : Took n m A p E c d c0 d0) (g1 : p ≤ a) (g2 : b ≤ E) (hA : SdAt W' B1 n (takeS A p E ((c0 : Int), (d0 : Int)))) (hB : SdAt W' B2 m B)
    (h8 : SpanBlk W' g ((p : Int), (E : Int))) (h9 : SpanBlk W' (g + 1) ((c0 : Int), (d0 : Int))) (hk : Kept w W' (B1.wr ++ B2.wr)) (low : w.heap.size ≤ g ∧ B1.b < w.heap.size ∧ B1.gA < w.heap.size ∧ B1.gE < w.heap.size ∧ B1.mB < w.heap.size ∧ B2.b < w.heap.size ∧ B2.gA < w.heap.size ∧ B2.gE < w.heap.size ∧ B2.mB < w.heap.size) (hap : BlkApart B1 B2) :
    LkAt L w W' B1 B2 n m (fun a' b' c' d' => X a' b' c' d' ∨ (a' = a ∧ b' = b ∧ c' = c ∧ d' = d)) g false B1 B2 n m (takeS A p E ((c0 : Int), (d0 : Int))) B p c0 d0 := by
  have hs := sA
  subst hp hE
  refine ⟨.inl ⟨rfl, rfl, rfl, rfl, rfl⟩, hA, hB, hb.start h3 ht, take_sound hb.okA sA h1 h2 ht (fun i h4 h5 => .link _ _ _ hx ?_ ?_) (fun j h4 h5 => .link _ _ _ hx ?_ ?_) h3 ⟨_, hx, ⟨h1, h3⟩, rfl⟩ ⟨_, hx, ⟨h1, h3⟩, rfl⟩, sB, fun a' b' c' d' hh => ?_, ?_, h9, hk, low, hap⟩
  · show a ≤ a ∧ a < b; omega
  · show a ≤ i ∧ i < b; omega
  · show a ≤ a ∧ a < b; omega
  · show c ≤ j ∧ j < d; omega
  · rcases hh with hh | ⟨rfl, rfl, rfl, rfl⟩
    · exact take_lies hb.okA ht (hl _ _ _ _ hh)
    · exact took_lies ht g1 g2
  · rw [(take_at _).2]; exact h8
theorem span_drew {w : World} {g : Nat} {s : Sp} (h : SpanBlk w g s) : SpanBlk w.drew g s := h
theorem LkAt.lows {L : List NC} {w W : World} {B1 B2 : Blk} {n m : Nat} {X : Nat → Nat → Nat → Nat → Prop} {g : Nat} {s : Bool} {BN BF : Blk} {nn nf : Nat} {N F : Sd} {p y z : Nat} (h : LkAt L w W B1 B2 n m X g s BN BF nn nf N F p y z) : (BN.b < g ∧ BN.gA < g ∧ BN.gE < g ∧ BN.mB < g) ∧ (BF.b < g ∧ BF.gA < g ∧ BF.gE < g ∧ BF.mB < g) ∧ nn + nf = n + m := by
  obtain ⟨l0, l1, l2, l3, l4, l5, l6, l7, l8⟩ := h.low
  rcases h.which with ⟨_, rfl, rfl, rfl, rfl⟩ | ⟨_, rfl, rfl, rfl, rfl⟩ <;> omega
theorem LkAt.next {L : List NC} {w W wx : World} {B1 B2 : Blk} {n m : Nat} {X : Nat → Nat → Nat → Nat → Prop} {g : Nat} {s : Bool} {BN BF : Blk} {nn nf : Nat} {N F : Sd} {p y z P E' c d : Nat} (h : LkAt L w W B1 B2 n m X g s BN BF nn nf N F p y z) (hP : F.r y = P) (hE : F.e (F.r (z - 1)) = E') (f1 : P ≤ y) (f2 : z ≤ E') (ht : Took nf nn F P E' p (N.e p) c d) (hF : SdAt wx BF nf (takeS F P E' ((c : Int), (d : Int)))) (hN : SdAt wx BN nn N) (hK : Kept w wx (B1.wr ++ B2.wr)) {u v : Sp} (h8 : SpanBlk wx g u) (h9 : SpanBlk wx (g + 1) v) :
    LkAt L w ((((wx.setCell ⟨g, 0, none⟩ (.int .i64 (P : Int))).setCell ⟨g, 1, none⟩ (.int .i64 (E' : Int))).setCell ⟨g + 1, 0, none⟩ (.int .i64 (c : Int))).setCell ⟨g + 1, 1, none⟩ (.int .i64 (d : Int))).drew B1 B2 n m X g (!s) BF BN nf nn (takeS F P E' ((c : Int), (d : Int))) N P c d := by
  obtain ⟨⟨l1, l2, l3, l4⟩, ⟨l5, l6, l7, l8⟩, _⟩ := h.lows
  have hlw := h.low.1
  have s1 : g ∈ [g, g + 1] := by simp
  have s2 : g + 1 ∈ [g, g + 1] := by simp
  have j1 := (Kept.refl wx [g, g + 1]).set (g := g) (.inl s1) 0 (.int .i64 (P : Int))
  have j2 := j1.set (g := g) (.inl s1) 1 (.int .i64 (E' : Int))
  have j3 := j2.set (g := g + 1) (.inl s2) 0 (.int .i64 (c : Int))
  have K4 := (j3.set (g := g + 1) (.inl s2) 1 (.int .i64 (d : Int))).drew
  have i1 := hK.set (g := g) (.inr hlw) 0 (.int .i64 (P : Int))
  have i2 := i1.set (g := g) (.inr hlw) 1 (.int .i64 (E' : Int))
  have i3 := i2.set (g := g + 1) (.inr (by omega)) 0 (.int .i64 (c : Int))
  have I4 := (i3.set (g := g + 1) (.inr (by omega)) 1 (.int .i64 (d : Int))).drew
  have hb8 := h8.put (P : Int) (E' : Int)
  have hb9 := h9.far (b' := g) (by omega) (.int .i64 (P : Int)) (.int .i64 (E' : Int))
  have hc8 := hb8.far (b' := g + 1) (by omega) (.int .i64 (c : Int)) (.int .i64 (d : Int))
  have hc9 := hb9.put (c : Int) (d : Int)
  have hno : ∀ k, k < g → k ∉ [g, g + 1] := fun k hk hm => by simp at hm; omega
  have hF' := hF.kept K4 ⟨hno _ l5, hno _ l6, hno _ l7, hno _ l8⟩
  have hN' := hN.kept K4 ⟨hno _ l1, hno _ l2, hno _ l3, hno _ l4⟩
  exact h.turn hP.symm hE.symm f1 f2 ht hF' hN' I4 (span_drew hc8) (span_drew hc9)
set_option maxRecDepth 100000 in
set_option maxHeartbeats 2000000 in
theorem link_any (B1 B2 : Blk) (n m a b c d : Nat) (A B : Sd) (L : List NC) (X : Nat → Nat → Nat → Nat → Prop) (hn : n ≤ 100000000) (hm : m ≤ 100000000) (h1 : a < b) (h2 : b ≤ n) (h3 : c < d) (h4 : d ≤ m) (hx : (⟨a, b, c, d⟩ : NC) ∈ L)
    (hb : Both n m A B) (sA : Sound L false n A) (sB : Sound L true m B) (hl : ∀ a b c d, X a b c d → Lies A a b c d) (hap : BlkApart B1 B2) (w : World) (hA : SdAt w B1 n A) (hB : SdAt w B2 m B) :
    Calls Tryz.prog 72 #[.pointer (some ⟨B1.b, 0, none⟩), .pointer (some ⟨B2.b, 0, none⟩), .agg #[.int .i64 (a : Int), .int .i64 (b : Int), .int .i64 (c : Int), .int .i64 (d : Int)]] w fun e' w' => e' = .returned (.tuple #[]) ∧ ∃ A' B', LkDone L w w' B1 B2 n m (fun a' b' c' d' => X a' b' c' d' ∨ (a' = a ∧ b' = b ∧ c' = c ∧ d' = d)) A' B' := by
  obtain ⟨c0, d0, ht, g1, g2, htk⟩ := take_sd B1 n m a b c d A hb.okA h1 h2 h3 h4 hn
  obtain ⟨p, hp⟩ : ∃ p, A.r a = p := ⟨_, rfl⟩
  obtain ⟨E, hE⟩ : ∃ E, A.e (A.r (b - 1)) = E := ⟨_, rfl⟩
  rw [hp, hE] at ht htk
  rw [hp] at g1
  rw [hE] at g2
  have low := hA.lt
  have low2 := hB.lt
  have HST := Lib.hid (fun (W' : World) (g : Nat) (hA' : SdAt W' B1 n (takeS A p E ((c0 : Int), (d0 : Int)))) (hB' : SdAt W' B2 m B) (h8 : SpanBlk W' g ((p : Int), (E : Int))) (h9 : SpanBlk W' (g + 1) ((c0 : Int), (d0 : Int))) (hk : Kept w W' (B1.wr ++ B2.wr)) (hg : w.heap.size ≤ g) =>
    LkAt.start (L := L) (w := w) (W' := W') (X := X) (g := g) hb sA sB hl hx h1 h2 h3 hp.symm hE.symm ht g1 g2 hA' hB' h8 h9 hk (by omega) hap)
  have HTK := Lib.hid (fun W hW => htk W (SdAt.old hA hW))
  have HB := Lib.hid (fun W (hW : Kept w W B1.wr) => hB.kept hW hap.bc)
  clear hb sA sB hl hx hp hE ht htk hA hB hap low low2
  go_enter Tryz.func72, Tryz.ntmps72
  go_wp2_with (go_at_call 103; refine (HTK.out _ (by first | exact Kept.of_below (below_new w _) _ | exact Kept.drew (Kept.of_below (below_new w _) _))).mono ?_; rintro e' W1 ⟨rfl, hs1, hk1⟩)
  have hb1 := below_new W1 (.cells #[.int .i64 (p : Int), .int .i64 (E : Int)] 39)
  have hb2 := below_new (W1.alloc (.cells #[.int .i64 (p : Int), .int .i64 (E : Int)] 39)) (.cells #[.int .i64 (c0 : Int), .int .i64 (d0 : Int)] 39)
  have b8 := (SpanBlk.new_ W1 (p : Int) (E : Int) 39).below hb2
  have b9 := SpanBlk.new_ (W1.alloc (.cells #[.int .i64 (p : Int), .int .i64 (E : Int)] 39)) (c0 : Int) (d0 : Int) 39
  simp only [World.size_alloc] at b9
  have hkw : Kept w W1 B1.wr := (Kept.of_below (below_new w _) _).trans hk1
  have hall := below_self hb1 hb2
  have hgw : w.heap.size ≤ W1.heap.size := hkw.size
  have HREL := Lib.hid (HST.out _ W1.heap.size (hs1.old (Kept.of_below hall [])) ((HB.out W1 hkw).old (Kept.of_below hall [])) b8 b9 ((hkw.more (fun x hx => List.mem_append_left _ hx)).trans (Kept.of_below hall _)) hgw)
  clear b8 b9 hb1 hb2 hkw hall hgw hs1 hk1 HST HTK HB
  generalize hW2 : ((W1.alloc (.cells #[.int .i64 (p : Int), .int .i64 (E : Int)] 39)).alloc (.cells #[.int .i64 (c0 : Int), .int .i64 (d0 : Int)] 39)) = W2 at *
  clear hW2
  obtain ⟨g, hg⟩ : ∃ g, W1.heap.size = g := ⟨_, rfl⟩
  rw [hg] at HREL
  simp only [hg]
  clear hg
  go_loopg [6, 7] (n + m - ((E - p) + (d0 - c0))) (fun gh s6 s7 wr => ∃ s BN BF nn nf N F p y z, gh = n + m - ((N.e p - p) + (z - y)) ∧ s6 = .pointer (some ⟨BN.b, 0, none⟩) ∧ s7 = .pointer (some ⟨BF.b, 0, none⟩) ∧ LkAt L w wr B1 B2 n m (fun a' b' c' d' => X a' b' c' d' ∨ (a' = a ∧ b' = b ∧ c' = c ∧ d' = d)) g s BN BF nn nf N F p y z)
  case atStart => exact ⟨false, B1, B2, n, m, _, B, p, c0, d0, by rw [(take_at _).2], rfl, rfl, HREL.out⟩
  case round =>
    obtain ⟨s, BN, BF, nn, nf, N, F, p, y, z, hgh, rfl, rfl, hT⟩ := hrel
    obtain ⟨k1, k2, k3, k4⟩ := hT.nums
    obtain ⟨k5, k6⟩ := hT.size
    obtain ⟨c1, d1, ht, f1, f2, htk⟩ := take_sd BF nf nn y z p (N.e p) F hT.fro.okF k1 k2 k3 k4 (by omega)
    obtain ⟨P, hP⟩ : ∃ P, F.r y = P := ⟨_, rfl⟩
    obtain ⟨E', hE⟩ : ∃ E', F.e (F.r (z - 1)) = E' := ⟨_, rfl⟩
    obtain ⟨Q, hQ⟩ : ∃ Q, N.e p = Q := ⟨_, rfl⟩
    rw [hP, hE] at ht htk
    rw [hQ] at htk
    rw [hP] at f1
    rw [hE] at f2
    have h8 := hT.c8
    have h9 := hT.c9
    rw [hQ] at h8
    have HT := Lib.hid hT
    have HTK := Lib.hid htk
    have HTT := Lib.hid ht
    have HH8 := Lib.hid h8
    have HH9 := Lib.hid h9
    have HP := Lib.hid hP
    have HE := Lib.hid hE
    have HQ := Lib.hid hQ
    obtain ⟨u0, u1, _, _⟩ := h8
    obtain ⟨u2, u3, _, _⟩ := h9
    clear hT ht htk hP hE hQ
    go_upto_region 3 with fail
    go_cut [10, 11] (fun s10 s11 wx => ∃ g10 g11, s10 = .pointer (some ⟨g10, 0, none⟩) ∧ s11 = .pointer (some ⟨g11, 0, none⟩) ∧ g + 1 < g10 ∧ g11 = g10 + 1 ∧ SpanBlk wx g10 ((P : Int), (E' : Int)) ∧ SpanBlk wx g11 ((c1 : Int), (d1 : Int)) ∧ SpanBlk wx g ((p : Int), (Q : Int)) ∧ SpanBlk wx (g + 1) ((y : Int), (z : Int)) ∧ SdAt wx BF nf (takeS F P E' ((c1 : Int), (d1 : Int))) ∧ SdAt wx BN nn N ∧ Kept w wx (B1.wr ++ B2.wr))
    case first =>
      go_wp2_with (go_at_call 103; refine (HTK.out _ (by first | exact HT.out.atF | exact SdAt.old HT.out.atF (Kept.drew (Kept.refl _ _)))).mono ?_; rintro e' W1 ⟨rfl, hs1, hk1⟩)
      have hS := HT.out.sides
      have hlw := HT.out.low
      have hq1 : Kept wr W1 BF.wr := by first | exact hk1 | exact (Kept.drew (Kept.refl _ _)).trans hk1
      have hn8 : g ∉ BF.wr := fun hm => by have := hS.2.2 g hm; omega
      have hn9 : g + 1 ∉ BF.wr := fun hm => by have := hS.2.2 (g + 1) hm; omega
      have hl8 : g < wr.heap.size := cell_lt u0
      have hl9 : g + 1 < wr.heap.size := cell_lt u2
      have hb1 := below_new W1 (.cells #[.int .i64 (P : Int), .int .i64 (E' : Int)] 39)
      have hb2 := below_new (W1.alloc (.cells #[.int .i64 (P : Int), .int .i64 (E' : Int)] 39)) (.cells #[.int .i64 (c1 : Int), .int .i64 (d1 : Int)] 39)
      have b8 := (SpanBlk.new_ W1 (P : Int) (E' : Int) 39).below hb2
      have b9 := SpanBlk.new_ (W1.alloc (.cells #[.int .i64 (P : Int), .int .i64 (E' : Int)] 39)) (c1 : Int) (d1 : Int) 39
      simp only [World.size_alloc] at b9
      have hall := below_self hb1 hb2
      go_meet
      exact ⟨W1.heap.size, W1.heap.size + 1, rfl, rfl, Nat.lt_of_lt_of_le hl9 hq1.size, rfl, b8, b9, (span_of_heap HH8.out (hq1.block g hl8 hn8)).below hall, (span_of_heap HH9.out (hq1.block (g + 1) hl9 hn9)).below hall, hs1.old (Kept.of_below hall []), (HT.out.atN.kept hq1 hS.1).old (Kept.of_below hall []), (HT.out.kept.trans (hq1.more hS.2.1)).trans (Kept.of_below hall _)⟩
    case rest =>
    obtain ⟨g10, g11, rfl, rfl, hg1, rfl, b10, b11, b8, b9, hF, hN, hK⟩ := hcut
    clear HTK HH8 HH9 u0 u1 u2 u3
    have B8 := Lib.hid b8
    obtain ⟨u0, u1, v0, v1⟩ := b8
    have B9 := Lib.hid b9
    obtain ⟨u2, u3, v2, v3⟩ := b9
    obtain ⟨u4, u5, _, _⟩ := b10
    obtain ⟨u6, u7, _, _⟩ := b11
    have hgd := guardSp
    have HF := Lib.hid hF
    have HN := Lib.hid hN
    have HK := Lib.hid hK
    clear hF hN hK
    by_cases q1 : ((P : Int) = (y : Int) ∧ (E' : Int) = (z : Int))
    · by_cases q2 : ((c1 : Int) = (p : Int) ∧ (d1 : Int) = (Q : Int))
      · have he1 : ∀ w, (binOp .eql 39 (.agg #[.int .i64 (P : Int), .int .i64 (E' : Int)]) (.agg #[.int .i64 (y : Int), .int .i64 (z : Int)])).run Tryz.prog w = .ok (.bool true) w := fun w => by rw [eqlS_any, decide_eq_true q1]
        have he2 : ∀ w, (binOp .eql 39 (.agg #[.int .i64 (c1 : Int), .int .i64 (d1 : Int)]) (.agg #[.int .i64 (p : Int), .int .i64 (Q : Int)])).run Tryz.prog w = .ok (.bool true) w := fun w => by rw [eqlS_any, decide_eq_true q2]
        have HQ1 := Lib.hid q1
        have HQ2 := Lib.hid q2
        clear q1 q2
        have e1 : P = y := by have := HQ1.out; omega
        have e2 : E' = z := by have := HQ1.out; omega
        have e3 : c1 = p := by have := HQ2.out; omega
        have e4 : d1 = N.e p := by have := HQ2.out; have := HQ.out; omega
        have hd := HT.out.done (by rw [HP.out, e1]) (by rw [HE.out, e2]) (by have h9 := HTT.out; rw [e1, e2, e3, e4] at h9; exact h9) (by have h9 := HF.out; rw [e1, e2, e3, e4] at h9; exact h9) HN.out HK.out
        have HD := Lib.hid hd
        clear hd e1 e2 e3 e4
        go_wp2_with fail
        exact bodyPost_ret (v := .tuple #[]) (by simp [results, go_sem]) rfl ⟨rfl, HD.out⟩
      · have he1 : ∀ w, (binOp .eql 39 (.agg #[.int .i64 (P : Int), .int .i64 (E' : Int)]) (.agg #[.int .i64 (y : Int), .int .i64 (z : Int)])).run Tryz.prog w = .ok (.bool true) w := fun w => by rw [eqlS_any, decide_eq_true q1]
        have he2 : ∀ w, (binOp .eql 39 (.agg #[.int .i64 (c1 : Int), .int .i64 (d1 : Int)]) (.agg #[.int .i64 (p : Int), .int .i64 (Q : Int)])).run Tryz.prog w = .ok (.bool false) w := fun w => by rw [eqlS_any, decide_eq_false q2]
        have HQ2 := Lib.hid (show ¬(P = y ∧ E' = z ∧ c1 = p ∧ d1 = Q) from fun hh => q2 (by omega))
        clear q1 q2
        go_wp2_with fail
        go_region
        all_goals
          go_wp2_with fail
          have hnx := HT.out.next HP.out HE.out f1 f2 HTT.out HF.out HN.out HK.out B8.out B9.out
          have hlo := HTT.out.lo
          have hhi := HTT.out.hi
          have htp := HTT.out.top
          have hle := HTT.out.cut.le
          have hnm := HT.out.lows.2.2
          have hnq := HQ2.out
          have hqq := HQ.out
          go_roundg (n + m - ((E' - P) + (d1 - c1)))
          case rel => exact ⟨_, BF, BN, nf, nn, _, N, P, c1, d1, by rw [(take_at _).2], rfl, rfl, hnx⟩
          case measure => omega
    · have he1 : ∀ w, (binOp .eql 39 (.agg #[.int .i64 (P : Int), .int .i64 (E' : Int)]) (.agg #[.int .i64 (y : Int), .int .i64 (z : Int)])).run Tryz.prog w = .ok (.bool false) w := fun w => by rw [eqlS_any, decide_eq_false q1]
      have HQ2 := Lib.hid (show ¬(P = y ∧ E' = z ∧ c1 = p ∧ d1 = Q) from fun hh => q1 (by omega))
      clear q1
      go_wp2_with fail
      go_region
      all_goals
        go_wp2_with fail
        have hnx := HT.out.next HP.out HE.out f1 f2 HTT.out HF.out HN.out HK.out B8.out B9.out
        have hlo := HTT.out.lo
        have hhi := HTT.out.hi
        have htp := HTT.out.top
        have hle := HTT.out.cut.le
        have hnm := HT.out.lows.2.2
        have hnq := HQ2.out
        have hqq := HQ.out
        go_roundg (n + m - ((E' - P) + (d1 - c1)))
        case rel => exact ⟨_, BF, BN, nf, nn, _, N, P, c1, d1, by rw [(take_at _).2], rfl, rfl, hnx⟩
        case measure => omega
end Go.Proofs.YtcbiaeeifclieaaGreatDoor
