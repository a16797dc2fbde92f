/- Texts of one claim, one behind the other. -/
import Derived.RangeFuncBox
import Derived.RangeFuncLeaves
import Derived.RangeFuncNested
import Derived.Shelf.Abstract
import Derived.WalkKit
import Derived.OwnWalkIn
import Derived.TacticsInMore
import Derived.LoopNIn
import Derived.LoopIn
import Derived.Test.YtdgomaoikeffhaaGreatMgAp1
import Derived.Test.YtdgomaoikeffhaaGreatMgAp2
import Derived.Test.YtdgomaoikeffhaaGreatMgAp3
import Derived.Test.YtdgomaoikeffhaaGreatMgAp4
import Derived.Test.YtdgomaoikeffhaaGreatMgAp15
/- slices.Backward at []int: the body may write whatever is not the slice itself, and knows that each place is one of the slice. -/
namespace Go.Proofs.YtdgomaoikeffhaaGreat
open Go.RowKit Go.Shelf

attribute [local go_sem] Oper.semAt_some

/-- What the body must leave as it lay: the iterator's box, and what K says. -/
def KpV (Bs : Nat) (K : Nat → Prop) (W W' : World) : Prop := W'.heap[Bs]? = W.heap[Bs]? ∧ ∀ k, K k → W'.heap[k]? = W.heap[k]?
theorem KpV.refl (Bs : Nat) (K : Nat → Prop) (W : World) : KpV Bs K W W := ⟨rfl, fun _ _ => rfl⟩
theorem KpV.trans {Bs : Nat} {K : Nat → Prop} {A B C : World} (h : KpV Bs K A B) (k : KpV Bs K B C) : KpV Bs K A C := ⟨k.1.trans h.1, fun i hi => (k.2 i hi).trans (h.2 i hi)⟩
theorem KpV.put {Bs : Nat} {K : Nat → Prop} {w : World} (h1 : Bs < w.heap.size) (h2 : ∀ k, K k → k < w.heap.size) (W : World) (l : Nat) (o o' : Obj) (hl : w.heap.size ≤ l) (_ : W.heap[l]? = some o) (_ : o.isCells = false) (_ : o.isWalk = false) : KpV Bs K W (W.putObj l o') :=
  ⟨World.putObj_heap_other (by omega), fun k hk => World.putObj_heap_other (by have := h2 k hk; omega)⟩
theorem KpV.cell {Bs : Nat} {K : Nat → Prop} {p : Addr} (h1 : p.block ≠ Bs) (h2 : ¬ K p.block) (W : World) (v : Value) : KpV Bs K W (W.setCell p v) :=
  ⟨Below.heap_setCell W p v Bs (fun e => h1 e.symm), fun k hk => Below.heap_setCell W p v k (fun e => h2 (by rw [← e]; exact hk))⟩
abbrev Plc (len : Nat) := { k : Nat // k < len }
set_option maxRecDepth 100000 in
set_option maxHeartbeats 2000000 in
theorem backV1_in (F : Fence) (n : Nat) (hf : F.fn 30) (hro : F.round = none) (hn : 1 ≤ n) (l Bs : Nat) (K : Nat → Prop) (len cap : Nat) (A : Option Addr) (zs : List Int) (hlen : len ≤ 1000000) (hz : zs.length = len) (hgk : ∀ ad, A = some ad → 0 < len → K ad.block) (J Jx : List (Plc len) → World → Prop)
    (hY : ∀ pre x W, J pre W → pre.length < len → YieldAt F (n - 1) Tryz.prog l #[.int .i64 (x.1 : Int), .int .i64 (zs.getD x.1 0)] W fun e W' =>
      (e = .returned (.bool true) ∧ J (pre ++ [x]) W' ∧ KpV Bs K W W') ∨ (e = .returned (.bool false) ∧ Jx (pre ++ [x]) W'))
    (W : World) (hBs : W.cell? ⟨Bs, 0, none⟩ = some (.slice A len cap)) (hc : ∀ j u, zs[j]? = some u → ∃ ad, A = some ad ∧ W.cell? (ad.add j) = some (.int .i64 u)) (h0 : J [] W) :
    CallsIn F n Tryz.prog 30 #[.func (.yield l) #[] #[], .pointer (some ⟨Bs, 0, none⟩)] W fun e W' => (∃ v, e = .returned v) ∧
      ((∃ ys : List (Plc len), ys.map (·.1) = fromEnd len len ∧ J ys W') ∨ (∃ pre : List (Plc len), (∃ k, k ≤ len ∧ pre.map (·.1) = fromEnd len k) ∧ Jx pre W')) := by
  refine callsIn_of_wp Tryz.func30 rfl hf ?_ hro
  simp only [Tryz.ntmps30, List.size_toArray, List.length_cons, List.length_nil, Nat.reduceAdd, Nat.reduceSub, Array.replicate_succ, Array.replicate_zero, List.push_toArray, List.append_toArray, List.nil_append, List.cons_append]
  gi_wp2
  gi_loopw [3] (fun i wr => ∃ m k : Nat, m + k = len ∧ i = .int .i64 ((m : Int) - 1) ∧ (∃ pre : List (Plc len), pre.map (·.1) = fromEnd len k ∧ J pre wr) ∧ KpV Bs K W wr)
    (fun i _ => (intOf i + 1).toNat)
  case atStart => exact ⟨len, 0, rfl, rfl, ⟨[], rfl, h0⟩, KpV.refl _ _ _⟩
  case round =>
    obtain ⟨m, k, hk, rfl, ⟨pre, hpre, hJs⟩, hnx⟩ := hrel
    have hBr : wr.cell? ⟨Bs, 0, none⟩ = some (.slice A len cap) := (World.cell?_of_block hnx.1).trans hBs
    have hpl : pre.length = k := by have := congrArg List.length hpre; rwa [List.length_map, fromEnd_len] at this
    have HPL := Lib.hid hpl
    have HPRE := Lib.hid hpre
    clear hpl hpre
    cases m with
    | succ m =>
      obtain ⟨x, hx⟩ : ∃ x, zs[m]? = some x := ⟨_, List.getElem?_eq_getElem (by omega)⟩
      obtain ⟨ad, rfl, hcx0⟩ := hc m x hx
      have hcx : wr.cell? (ad.add m) = some (.int .i64 x) := (World.cell?_of_block (a := ad.add m) (by rw [blockAdd]; exact hnx.2 _ (hgk ad rfl (by omega)))).trans hcx0
      have hml : m < len := by omega
      obtain ⟨fn, tmps, assign, body, hy, hR⟩ := hY pre ⟨m, hml⟩ wr hJs (by rw [HPL.out]; omega)
      have hgx : zs.getD m 0 = x := by rw [List.getD_eq_getElem?_getD, hx]; rfl
      dsimp only at hy hR
      rw [hgx] at hy
      have e1 : ((m + 1 : Nat) : Int) - 1 = (m : Int) := by omega
      have HE2 := Lib.hid (show (pre ++ [(⟨m, hml⟩ : Plc len)]).map (·.1) = fromEnd len (k + 1) by
        rw [List.map_append, HPRE.out, fromEnd_succ, show len - 1 - k = m by omega]
        rfl)
      rw [e1]
      clear e1 hx hcx0 hgx
      gi_wp2
      refine hR.mono ?_
      rintro e W3 (⟨rfl, hJ3, hk3⟩ | ⟨rfl, hJx3⟩)
      · gi_wp2
        go_roundw
        case rel => exact ⟨m, k + 1, by omega, by go_num, ⟨_, HE2.out, hJ3⟩, hnx.trans hk3⟩
        case measure => simp [intOf] <;> omega
      · gi_wp2
        refine bodyPost_ret (results_none rfl _ _ _) rfl ?_
        exact ⟨⟨_, rfl⟩, .inr ⟨_, ⟨k + 1, by omega, HE2.out⟩, hJx3⟩⟩
    | zero =>
      obtain rfl : k = len := by omega
      gi_wp2
      go_end0
      exact ⟨⟨_, rfl⟩, .inl ⟨_, HPRE.out, hJs⟩⟩
set_option maxHeartbeats 1000000 in
theorem bvBack_in (F : Fence) (n : Nat) (hf : F.fn 15) (hro : F.round = none) (a : Option Addr) (len cap : Nat) (w : World) :
    CallsIn F n Tryz.prog 15 #[.slice a len cap] w fun e w' => e = .returned (.func (.func 30) #[] #[.pointer (some ⟨w.heap.size, 0, none⟩)]) ∧ w' = w.alloc (.cells #[.slice a len cap] 22) := by
  refine callsIn_of_wp Tryz.func15 rfl hf ?_ hro
  simp only [Tryz.ntmps15, List.size_toArray, List.length_cons, List.length_nil, Nat.reduceAdd, Nat.reduceSub, Array.replicate_succ, Array.replicate_zero, List.push_toArray, List.append_toArray, List.nil_append, List.cons_append]
  gi_wp2
  go_ret
  exact ⟨rfl, rfl⟩
theorem backV_stops (F : Fence) (n : Nat) (hf : F.fn 30) (hro : F.round = none) (hn : 1 ≤ n) (Bs : Nat) (K : Nat → Prop) (len cap : Nat) (A : Option Addr) (zs : List Int) (hlen : len ≤ 1000000) (hz : zs.length = len) (hgk : ∀ ad, A = some ad → 0 < len → K ad.block) (w : World) (hBl : Bs < w.heap.size) (hgl : ∀ k, K k → k < w.heap.size)
    (hBs : w.cell? ⟨Bs, 0, none⟩ = some (.slice A len cap)) (hc : ∀ j u, zs[j]? = some u → ∃ ad, A = some ad ∧ w.cell? (ad.add j) = some (.int .i64 u)) :
    SeqStopsK F n Tryz.prog 30 #[.pointer (some ⟨Bs, 0, none⟩)] (fun x : Plc len => #[Value.int .i64 (x.1 : Int), Value.int .i64 (zs.getD x.1 0)]) (KpV Bs K) (fun ys => ys.map (·.1) = fromEnd len len)
      (fun pre => ∃ k, k ≤ len ∧ pre.map (·.1) = fromEnd len k) len w := fun l J Jx W hW _ _ hY h0 =>
  backV1_in F n hf hro hn l Bs K len cap A zs hlen hz hgk J Jx hY W ((hW.cell (p := ⟨Bs, 0, none⟩) hBl).trans hBs) (fun j u hj => by
    obtain ⟨ad, e, h⟩ := hc j u hj
    exact ⟨ad, e, (hW.cell (p := ad.add j) (by rw [blockAdd]; exact hgl _ (hgk ad e (by have := (List.getElem?_eq_some_iff.1 hj).1; omega)))).trans h⟩) h0
end Go.Proofs.YtdgomaoikeffhaaGreat
/- resolve.Line, walked. -/
namespace Go.Proofs.YtdgomaoikeffhaaGreat
open Go.RowKit Go.Shelf

attribute [local go_sem] Oper.semAt_some

theorem rd_partF {w : World} {ad : Addr} {n lo hi : Nat} {xs : List Int} (h : Rd w 1 (some ad) n (xs.map (Value.int .i64))) (hlh : lo < hi) (hhn : hi ≤ n) : Rd w 1 (some (ad.add lo)) (hi - lo) ((partF xs lo hi).map (Value.int .i64)) := by
  have hl : xs.length = n := by simpa using h.len1
  refine ⟨by rw [List.length_map, partF_len _ _ _ (by omega)]; omega, fun _ => ?_⟩
  obtain ⟨ad', e, hb, hc⟩ := h.2 (by omega)
  obtain rfl := Option.some.inj e
  refine ⟨_, rfl, by rw [blockAdd]; exact hb, fun j u hu => ?_⟩
  unfold partF at hu
  rw [List.getElem?_map, List.getElem?_take] at hu
  split at hu
  · rw [List.getElem?_drop] at hu
    have := hc (lo + j) u (by rw [List.getElem?_map]; exact hu)
    rwa [addAdd]
  · simp at hu
theorem own_turn {w w' : World} {base : Nat} {e : TypeId} {size : Nat} {v : Value} {n : Nat} {xs : List Value} (h : w.ownsRow base e size v n xs) {row : Option Nat} (hg : w.grownBy w' row) (hr : ∀ r, row = some r → ∃ o : Obj, w.heap[r]? = some o ∧ o.isCells = false) : w'.ownsRow base e size v n xs := by
  refine h.kept hg ?_
  rcases row with _ | r
  · rcases hv : v.ownBlock with _ | g
    · exact .inl rfl
    · exact .inr (fun e => by cases e)
  · obtain ⟨o, ho, hc⟩ := hr r rfl
    rcases h.2 with ⟨rfl, _⟩ | ⟨g, cap, cur, rfl, _, hg', _⟩
    · exact .inl rfl
    · refine .inr fun e => ?_
      obtain rfl : g = r := by injection e
      rw [hg'] at ho
      cases ho
      cases hc
/-- What lies in memory between two rounds. -/
structure IvV (w : World) (b6 g n c B9 : Nat) (base : Int) (W : World) (L : List Int) (e : Bool) : Prop where
  b7 : Boxed W (b6 + 1) 3 (.int .i64 base)
  b9 : Boxed W B9 22 (.slice (some ⟨g, 0, none⟩) n c)
  b10 : Boxed W (B9 + 1) 4 (.bool e)
  row : W.ownsRow b6 3 1 (.slice (some ⟨g, 0, none⟩) n c) n (L.map (Value.int .i64))
  bel : Below b6 w W
theorem ivV_own (w : World) (b6 g n c B9 B : Nat) (base : Int) (cs ls : List Int) (len : Nat) (hB : b6 ≤ w.heap.size) (hbB : b6 ≤ B) :
    OwnFrom B (fun (pre : List (Plc len)) W => IvV w b6 g n c B9 base W (foldV base cs ls (pre.map (·.1))).1 (foldV base cs ls (pre.map (·.1))).2) := by
  rintro s X Y row G hg hr
  have hr' : ∀ r, row = some r → ∃ o : Obj, X.heap[r]? = some o ∧ o.isCells = false := fun r e => (hr r e).2
  have hne : ∀ {k : Nat} {t : TypeId} {u : Value}, Boxed X k t u → some k ≠ row := fun {k t u} hk e => by
    obtain ⟨o, ho, hc⟩ := hr' k e.symm
    rw [show X.heap[k]? = _ from hk] at ho; cases ho; cases hc
  exact ⟨G.b7.kept hg (hne G.b7), G.b9.kept hg (hne G.b9), G.b10.kept hg (hne G.b10), own_turn G.row hg hr', G.bel.grown hg (Nat.le_trans hB G.bel.size) (fun k e => by have := (hr k e).1; omega)⟩
theorem IvV.put {w : World} {b6 g n c B9 : Nat} {base : Int} {W : World} {L : List Int} {e : Bool} (h : IvV w b6 g n c B9 base W L e) (h1 : b6 + 1 < g) (h2 : g < B9) (h3 : b6 ≤ w.heap.size) (k : Nat) (x : Int) : IvV w b6 g n c B9 base (W.setCell ⟨g, k, none⟩ (.int .i64 x)) (L.set k x) e where
  b7 := (hp_far (by omega) k _).trans h.b7
  b9 := (hp_far (by omega) k _).trans h.b9
  b10 := (hp_far (by omega) k _).trans h.b10
  row := by rw [List.map_set]; exact (h.row.stored k _).1
  bel := h.bel.setCell (p := ⟨g, k, none⟩) (by simp; omega) _
theorem IvV.say {w : World} {b6 g n c B9 : Nat} {base : Int} {W : World} {L : List Int} {e : Bool} (h : IvV w b6 g n c B9 base W L e) (h1 : b6 + 1 < g) (h2 : g < B9) (h3 : b6 ≤ w.heap.size) (e' : Bool) : IvV w b6 g n c B9 base (W.setCell ⟨B9 + 1, 0, none⟩ (.bool e')) L e' where
  b7 := (hp_far (by omega) 0 _).trans h.b7
  b9 := (hp_far (by omega) 0 _).trans h.b9
  b10 := h.b10.set _
  row := own_set_far h.row (by simp [Value.ownBlock]; omega)
  bel := h.bel.setCell (p := ⟨B9 + 1, 0, none⟩) (by simp; omega) _
set_option maxRecDepth 100000 in
set_option maxHeartbeats 2000000 in
theorem rvLine_in (A B : Option Addr) (n c d : Nat) (cs ls : List Int) (lo hi : Nat) (base : Int) (w : World) (hr : Rd w 1 A n (cs.map (Value.int .i64))) (hs : Rd w 1 B n (ls.map (Value.int .i64))) (hn : n ≤ 100000) (hnc : n ≤ c) (hnd : n ≤ d) (hlh : lo < hi) (hhn : hi ≤ n) :
    CallsIn Fence.wide 5 Tryz.prog 9 #[.slice A n c, .slice B n d, .agg #[.int .i64 (lo : Int), .int .i64 (hi : Int)], .int .i64 base] w fun e w' => ∃ v, e = .returned v ∧ w'.ownsRow w.heap.size 3 1 v (lineF base (partF cs lo hi) (partF ls lo hi)).length ((lineF base (partF cs lo hi) (partF ls lo hi)).map (Value.int .i64)) ∧ Below w.heap.size w w' := by
  have hl : cs.length = n := by simpa using hr.len1
  have hl2 : ls.length = n := by simpa using hs.len1
  have HW := Lib.hid (rvWithin_any lo hi n)
  rw [show withB lo hi n = true by unfold withB; simp; omega] at HW
  obtain ⟨ad, rfl, hab, -⟩ := hr.2 (by omega)
  obtain ⟨bd, rfl, hbb, -⟩ := hs.2 (by omega)
  obtain ⟨cs', hcs'⟩ : ∃ cs', partF cs lo hi = cs' := ⟨_, rfl⟩
  obtain ⟨ls', hls'⟩ : ∃ ls', partF ls lo hi = ls' := ⟨_, rfl⟩
  have hc1 : cs'.length = hi - lo := by rw [← hcs', partF_len _ _ _ (by omega)]
  have hl1 : ls'.length = hi - lo := by rw [← hls', partF_len _ _ _ (by omega)]
  have HRC := Lib.hid (rd_partF hr hlh hhn)
  have HRL := Lib.hid (rd_partF hs hlh hhn)
  rw [hcs'] at HRC ⊢
  rw [hls'] at HRL ⊢
  obtain ⟨b6, hb6⟩ : ∃ b6, w.heap.size = b6 := ⟨_, rfl⟩
  obtain ⟨W7, hW7⟩ : ∃ W7, (w.alloc (.cells #[.int .i64 (lo : Int), .int .i64 (hi : Int)] 33)).alloc (.cells #[.int .i64 base] 3) = W7 := ⟨_, rfl⟩
  have HX := Lib.hid (show Below w.heap.size w W7 by rw [← hW7]; exact (below_new w _).alloc (by simp) _)
  have hs7 : W7.heap.size = b6 + 2 := by rw [← hW7, ← hb6]; simp
  have b60 : W7.cell? ⟨b6, 0, none⟩ = some (.int .i64 (lo : Int)) := by rw [← hW7, ← hb6]; exact cell_below (below_new _ _) (cells_new w [.int .i64 (lo : Int), .int .i64 (hi : Int)] _ 0 _ rfl)
  have b61 : W7.cell? ⟨b6, 1, none⟩ = some (.int .i64 (hi : Int)) := by rw [← hW7, ← hb6]; exact cell_below (below_new _ _) (cells_new w [.int .i64 (lo : Int), .int .i64 (hi : Int)] _ 1 _ rfl)
  have b7 : Boxed W7 (b6 + 1) 3 (.int .i64 base) := by
    have := Boxed.new (w.alloc (.cells #[.int .i64 (lo : Int), .int .i64 (hi : Int)] 33)) 3 (.int .i64 base)
    rw [hW7] at this
    simpa [← hb6] using this
  have HCL := Lib.hid (fun W (hB : Below w.heap.size w W) => cloneInt_any (some (bd.add lo)) (hi - lo) (d - lo) (ls'.map (Value.int .i64)) W (HRL.out.below hB) (oneInts _ _) (by omega))
  rw [hb6] at HX HCL ⊢
  refine callsIn_of_wp_marks Tryz.func9 rfl trivial ?_ rfl
  simp only [Tryz.ntmps9, List.size_toArray, List.length_cons, List.length_nil, Nat.reduceAdd, Nat.reduceSub, Array.replicate_succ, Array.replicate_zero, List.push_toArray, List.append_toArray, List.nil_append, List.cons_append]
  gi_wp2_with (first
    | (refine ⟨trivial, ?_⟩; gi_at_call 14; refine (callsIn_wide.2 (HW.out _ (by omega))).mono ?_; rintro e w1 ⟨rfl, hb1⟩; have c1 := cell_below hb1 b60; have c2 := cell_below hb1 b61)
    | (refine ⟨trivial, ?_⟩; gi_at_call 6; refine (callsIn_wide.2 (HCL.out _ (HX.out.trans (hb1.mono (by omega))))).mono ?_; rintro e w2 ⟨v2, rfl, hown2, hb2⟩; obtain ⟨g, cg, rfl, hgc, hgl, hgb, -⟩ := own_at hown2 (by omega); have c3 := cell_below (hb2.trans (((below_new w2 (.cells #[.slice (some ⟨g, 0, none⟩) (hi - lo) cg] 22)).alloc (by simp) (.cells #[.bool true] 4)).mono hb2.size)) c1; have c4 := cell_below (hb2.trans (((below_new w2 (.cells #[.slice (some ⟨g, 0, none⟩) (hi - lo) cg] 22)).alloc (by simp) (.cells #[.bool true] 4)).mono hb2.size)) c2)
    | (refine ⟨trivial, ?_⟩; gi_at_call 15; refine (bvBack_in Fence.wide (5 - 1) trivial rfl _ _ _ _).mono ?_; rintro e w' ⟨rfl, rfl⟩)
    | fail)
  have hb12 := hb1.trans (hb2.mono hb1.size)
  have hs1 := hb1.size
  have hs2 := hb2.size
  obtain ⟨B9, hB9⟩ : ∃ B9, w2.heap.size = B9 := ⟨_, rfl⟩
  obtain ⟨W9, hW9⟩ : ∃ W9, (w2.alloc (.cells #[.slice (some ⟨g, 0, none⟩) (hi - lo) cg] 22)).alloc (.cells #[.bool true] 4) = W9 := ⟨_, rfl⟩
  have hw9 : Below w2.heap.size w2 W9 := by rw [← hW9]; exact (below_new w2 _).alloc (by simp) _
  have n9 : Boxed W9 B9 22 (.slice (some ⟨g, 0, none⟩) (hi - lo) cg) := by rw [← hW9, ← hB9]; exact (Boxed.new w2 _ _).alloc _
  have n10 : Boxed W9 (B9 + 1) 4 (.bool true) := by
    have := Boxed.new (w2.alloc (.cells #[.slice (some ⟨g, 0, none⟩) (hi - lo) cg] 22)) 4 (.bool true)
    rw [hW9] at this
    simpa [hB9] using this
  have hs9 : W9.heap.size = B9 + 2 := by rw [← hW9, ← hB9]; simp
  have hW7X := HX.out.trans ((hb12.trans (hw9.mono (by omega))).mono (by omega))
  have n7 : Boxed W9 (b6 + 1) 3 (.int .i64 base) := ((hb12.trans (hw9.mono (by omega))).block _ (by omega)).trans b7
  have hrow9 : W9.ownsRow b6 3 1 (.slice (some ⟨g, 0, none⟩) (hi - lo) cg) (hi - lo) (ls'.map (Value.int .i64)) := own_base (own_below hown2 hw9) (by omega)
  have nS := Boxed.new W9 22 (.slice (some (ad.add lo)) (hi - lo) (c - lo))
  obtain ⟨W0, hW0⟩ : ∃ W0, W9.alloc (.cells #[.slice (some (ad.add lo)) (hi - lo) (c - lo)] 22) = W0 := ⟨_, rfl⟩
  have hs0 : W0.heap.size = B9 + 3 := by rw [← hW0]; simp [hs9]
  have hB0 : Below b6 w W0 := by rw [← hW0]; exact hW7X.alloc (by omega) _
  have hI0 : IvV w b6 g (hi - lo) cg B9 base W0 ls' true := by
    rw [← hW0]
    exact ⟨n7.alloc _, n9.alloc _, n10.alloc _, hrow9.alloc _, hW7X.alloc (by omega) _⟩
  rw [hW0, hs9] at nS
  have hb6w : b6 ≤ w.heap.size := by omega
  have hgb2 : b6 + 1 < g := by omega
  have hgl2 : g < B9 := by omega
  simp only [hB9, hW9, hW0, hs9]
  have hcs0 : ∀ (j : Nat) (u : Int), cs'[j]? = some u → ∃ a, (some (ad.add lo)) = some a ∧ W0.cell? (a.add j) = some (.int .i64 u) := fun j u hj => by
    have hj' := (List.getElem?_eq_some_iff.1 hj).1
    obtain ⟨a, e, hlt, hcell⟩ := HRC.out.2 (by omega)
    exact ⟨a, e, (hB0.cell (p := a.add j) (by rw [blockAdd, ← hb6]; exact hlt)).trans (hcell j _ (by rw [List.getElem?_map, hj]; rfl))⟩
  refine wpIn_rangeFunc_ownG rfl (by omega) (gf := 30) (lb := #[.pointer (some ⟨B9 + 2, 0, none⟩)]) rfl trivial (enters_of Tryz.func30 (by kernel_rfl) rfl)
    (backV_stops Fence.wide (5 - 1) trivial rfl (by omega) (B9 + 2) (fun k => k < b6) (hi - lo) (c - lo) (some (ad.add lo)) cs' (by omega) hc1 (fun a e _ => by cases e; rw [blockAdd]; omega) W0 (by omega) (fun k hk => by omega) nS.cell hcs0) KpV.trans (KpV.put (by omega) (fun k hk => by omega)) (Below.refl _ _) (fun _ => rfl)
    (fun pre W => IvV w b6 g (hi - lo) cg B9 base W (foldV base cs' ls' (pre.map (·.1))).1 (foldV base cs' ls' (pre.map (·.1))).2)
    (fun _ _ _ => False)
    (ivV_own w b6 g (hi - lo) cg B9 _ base cs' ls' (hi - lo) hb6w (by omega))
    (fun _ _ _ _ _ hs _ _ => hs)
    hI0
    (fun x => { tmps := #[.slice (some ad) n c, .slice (some bd) n d, .agg #[.int .i64 lo, .int .i64 hi], .int .i64 base, undef, undef, .pointer (some ⟨b6, 0, none⟩), .pointer (some ⟨b6 + 1, 0, none⟩), .slice none 0 0, .pointer (some ⟨B9, 0, none⟩), .pointer (some ⟨B9 + 1, 0, none⟩), .int .i64 (x.1 : Int), .int .i64 (cs'.getD x.1 0), .slice (some ad) n c, .int .i64 n, .slice (some bd) n d, .int .i64 n, .bool false, .bool false, .agg #[.int .i64 lo, .int .i64 hi], .slice (some bd) n d, .int .i64 n, .bool true, .bool false, .bool false, .slice (some bd) n d, .pointer (some ⟨b6, 0, none⟩), .int .i64 lo, .pointer (some ⟨b6, 1, none⟩), .int .i64 hi, .slice (some (bd.add lo)) (hi - lo) (d - lo), .slice (some ⟨g, 0, none⟩) (hi - lo) cg, .slice (some ad) n c, .pointer (some ⟨b6, 0, none⟩), .int .i64 lo, .pointer (some ⟨b6, 1, none⟩), .int .i64 hi, .slice (some (ad.add lo)) (hi - lo) (c - lo), .func (.func 30) #[] #[.pointer (some ⟨B9 + 2, 0, none⟩)], .int .i64 (x.1 : Int), .int .i64 (cs'.getD x.1 0), undef, undef, undef, undef, undef, undef, undef, undef, undef, undef, undef, undef], defers := [] }) ?assign ?body ?done ?stop
  case assign =>
    intro l x W K hK
    gi_wp2
    exact hK
  case body =>
    rintro l pre ⟨k, hk⟩ W G hpl
    obtain ⟨z, hz⟩ : ∃ z, cs'.getD k 0 = z := ⟨_, rfl⟩
    have HF := Lib.hid (show foldV base cs' ls' ((pre ++ [(⟨k, hk⟩ : Plc (hi - lo))]).map (·.1)) = (if nowE z (foldV base cs' ls' (pre.map (·.1))).2 = true then (foldV base cs' ls' (pre.map (·.1))).1.set k base else (foldV base cs' ls' (pre.map (·.1))).1, nowE z (foldV base cs' ls' (pre.map (·.1))).2) by
      rw [List.map_append]
      show foldV base cs' ls' (pre.map (·.1) ++ [k]) = _
      rw [foldV_snoc, stepV, hz])
    have hLl : (foldV base cs' ls' (pre.map (·.1))).1.length = hi - lo := by rw [foldV_len, hl1]
    obtain ⟨L, hL⟩ : ∃ L, (foldV base cs' ls' (pre.map (·.1))).1 = L := ⟨_, rfl⟩
    obtain ⟨e0, he0⟩ : ∃ e0, (foldV base cs' ls' (pre.map (·.1))).2 = e0 := ⟨_, rfl⟩
    simp only [hL, he0] at G HF hLl
    have HG := Lib.hid G
    have HFIN : Hid (∀ W', IvV w b6 g (hi - lo) cg B9 base W' (if nowE z e0 = true then L.set k base else L) (nowE z e0) → IvV w b6 g (hi - lo) cg B9 base W' (foldV base cs' ls' ((pre ++ [(⟨k, hk⟩ : Plc (hi - lo))]).map (·.1))).1 (foldV base cs' ls' ((pre ++ [(⟨k, hk⟩ : Plc (hi - lo))]).map (·.1))).2) := Lib.hid fun W' h => by rw [HF.out]; exact h
    dsimp only
    rw [hz]
    have c7 := G.b7.cell
    have c9 := G.b9.cell
    have c10 := G.b10.cell
    have f10 := G.b10.frozen
    obtain ⟨⟨u, hu⟩, hfu⟩ := own_slot G.row (j := k) (by omega)
    clear hL he0 HF hz G
    obtain ⟨q, hq⟩ : ∃ q, endK z = q := ⟨_, rfl⟩
    have HE := Lib.hid (rvEnd_any z)
    rw [hq] at HE
    have HQ := Lib.hid hq
    have hki : (k : Int) < ((hi - lo : Nat) : Int) := by omega
    by_cases q2 : q = 2
    · have g2 : (q == 2) = true := by simp [q2]
      have HN := Lib.hid (show nowE z e0 = true by unfold nowE; rw [HQ.out, if_pos q2])
      clear hq q2
      have HS := HG.out.say hgb2 hgl2 hb6w true
      have d7 := HS.b7.cell
      have d9 := HS.b9.cell
      have d10 := HS.b10.cell
      obtain ⟨⟨u2, hu2⟩, hfu2⟩ := own_slot HS.row (j := k) (by omega)
      have G2 := Lib.hid (HS.put hgb2 hgl2 hb6w k base)
      clear HS
      gi_wp2_with (first
        | (refine ⟨trivial, ?_⟩; gi_at_call 16; refine (CallsIn.inRound l (callsIn_wide.2 (HE.out _))).mono ?_; rintro e w' ⟨rfl, rfl⟩)
        | fail)
      refine ⟨((KeepsOthers.setCell _ _ _).trans (KeepsOthers.setCell _ _ _)).from _, (KpV.cell (by simp <;> omega) (by simp <;> omega) _ _).trans (KpV.cell (by simp <;> omega) (by simp <;> omega) _ _), HFIN.out _ ?_⟩
      rw [HN.out, if_pos rfl]
      exact G2.out
    · by_cases q0 : q = 0
      · have g2 : (q == 2) = false := by simp [q2]
        have g0 : (q == 0) = true := by simp [q0]
        have HN := Lib.hid (show nowE z e0 = false by unfold nowE; rw [HQ.out, if_neg q2, if_pos q0])
        clear hq q2 q0
        have HS := HG.out.say hgb2 hgl2 hb6w false
        have d10 := HS.b10.cell
        have G2 := Lib.hid HS
        clear HS
        gi_wp2_with (first
          | (refine ⟨trivial, ?_⟩; gi_at_call 16; refine (CallsIn.inRound l (callsIn_wide.2 (HE.out _))).mono ?_; rintro e w' ⟨rfl, rfl⟩)
          | fail)
        refine ⟨(KeepsOthers.setCell _ _ _).from _, KpV.cell (by simp <;> omega) (by simp <;> omega) _ _, HFIN.out _ ?_⟩
        rw [HN.out, if_neg (by decide)]
        exact G2.out
      · have g2 : (q == 2) = false := by simp [q2]
        have g0 : (q == 0) = false := by simp [q0]
        have HN := Lib.hid (show nowE z e0 = e0 by unfold nowE; rw [HQ.out, if_neg q2, if_neg q0])
        clear hq q2 q0
        cases e0 with
        | true =>
          have G2 := Lib.hid (HG.out.put hgb2 hgl2 hb6w k base)
          gi_wp2_with (first
            | (refine ⟨trivial, ?_⟩; gi_at_call 16; refine (CallsIn.inRound l (callsIn_wide.2 (HE.out _))).mono ?_; rintro e w' ⟨rfl, rfl⟩)
            | fail)
          refine ⟨(KeepsOthers.setCell _ _ _).from _, KpV.cell (by simp <;> omega) (by simp <;> omega) _ _, HFIN.out _ ?_⟩
          rw [HN.out, if_pos rfl]
          exact G2.out
        | false =>
          gi_wp2_with (first
            | (refine ⟨trivial, ?_⟩; gi_at_call 16; refine (CallsIn.inRound l (callsIn_wide.2 (HE.out _))).mono ?_; rintro e w' ⟨rfl, rfl⟩)
            | fail)
          refine ⟨KeepsFrom.refl _ _, KpV.refl _ _ _, HFIN.out _ ?_⟩
          rw [HN.out, if_neg (by decide)]
          exact HG.out
  case done =>
    rintro D ys W hD hys G hK
    rw [hys, foldV_all base hc1 hl1] at G
    have HG := Lib.hid G
    have c9 := G.b9.cell
    clear G
    gi_wp2
    have hgD := grownBy_putObj' W D (.deferred none)
    refine ⟨by simp, .inl ⟨_, _, rfl, run_takeDeferred hK, ?_⟩⟩
    refine ⟨_, results_tmp rfl _ _ _, _, rfl, ?_, ?_⟩
    · rw [lineF_len _ _ _ (by omega), hl1]
      exact own_turn HG.out.row hgD (fun r e => by cases e; exact ⟨_, hK, rfl⟩)
    · exact HG.out.bel.grown hgD (Nat.le_trans (by omega) HG.out.bel.size) (fun k e => by cases e; omega)
  case stop =>
    rintro D c pre W _ _ h _
    exact h.elim
set_option maxRecDepth 100000 in
set_option maxHeartbeats 2000000 in
theorem rvLine_any (A B : Option Addr) (n c m d : Nat) (cs ls : List Int) (x y base : Int) (w : World) (hr : Rd w 1 A n (cs.map (Value.int .i64))) (hs : Rd w 1 B m (ls.map (Value.int .i64))) (hn : n ≤ 100000) (hm : m ≤ 100000) (hnc : n ≤ c) (hmd : m ≤ d) :
    Calls Tryz.prog 9 #[.slice A n c, .slice B m d, .agg #[.int .i64 x, .int .i64 y], .int .i64 base] w fun e w' => ∃ v, e = .returned v ∧ w'.ownsRow w.heap.size 3 1 v (lineA cs ls (x, y) base).length ((lineA cs ls (x, y) base).map (Value.int .i64)) ∧ Below w.heap.size w w' := by
  have hl : cs.length = n := by simpa using hr.len1
  have hl2 : ls.length = m := by simpa using hs.len1
  by_cases hok : n = m ∧ 0 ≤ x ∧ x < y ∧ y ≤ m
  · obtain ⟨rfl, hx0, hxy, hyn⟩ := hok
    obtain ⟨lo, rfl⟩ : ∃ lo : Nat, x = (lo : Int) := ⟨x.toNat, by omega⟩
    obtain ⟨hi, rfl⟩ : ∃ hi : Nat, y = (hi : Int) := ⟨y.toNat, by omega⟩
    have HA : lineA cs ls ((lo : Int), (hi : Int)) base = lineF base (partF cs lo hi) (partF ls lo hi) := by unfold lineA; rw [if_pos (by rw [hl, hl2]; exact ⟨rfl, hx0, hxy, hyn⟩)]; simp
    rw [HA]
    exact callsIn_wide.1 (rvLine_in A B n c d cs ls lo hi base w hr hs hn hnc hmd (by omega) (by omega))
  · rw [lineA_no (by rw [hl, hl2]; exact hok)]
    have HB : Hid (Below w.heap.size w ((w.alloc (.cells #[.int .i64 x, .int .i64 y] 33)).alloc (.cells #[.int .i64 base] 3))) := Lib.hid ((below_new w _).alloc (by simp) _)
    have hbx : ((w.alloc (.cells #[.int .i64 x, .int .i64 y] 33)).alloc (.cells #[.int .i64 base] 3)).cell? ⟨w.heap.size, 0, none⟩ = some (.int .i64 x) := cell_below (below_new _ _) (cells_new w [.int .i64 x, .int .i64 y] _ 0 _ rfl)
    have hby : ((w.alloc (.cells #[.int .i64 x, .int .i64 y] 33)).alloc (.cells #[.int .i64 base] 3)).cell? ⟨w.heap.size, 1, none⟩ = some (.int .i64 y) := cell_below (below_new _ _) (cells_new w [.int .i64 x, .int .i64 y] _ 1 _ rfl)
    by_cases hnm : n = m
    · subst hnm
      have HW := Lib.hid (rvWithin_any x y n)
      rw [show withB x y n = false by
        unfold withB
        simp only [Bool.and_eq_false_iff, decide_eq_false_iff_not]
        omega] at HW
      clear hok hl hl2 hr hs
      go_enter Tryz.func9, Tryz.ntmps9
      go_wp2_with (first
        | (go_at_call 14; refine (HW.out _ (by omega)).mono ?_; rintro e w1 ⟨rfl, hb1⟩; have HB1 := Lib.hid (below_self HB.out hb1); clear hb1)
        | fail)
      go_ret
      exact ⟨_, rfl, ⟨rfl, .inl ⟨rfl, rfl⟩⟩, HB1.out⟩
    · have g1 : ((n : Int) != (m : Int)) = true := by simp; omega
      have g1' : (n != m) = true := by simp [hnm]
      clear hok hl hl2 hr hs hnm
      go_enter Tryz.func9, Tryz.ntmps9
      go_wp2_with fail
      go_ret
      exact ⟨_, rfl, ⟨rfl, .inl ⟨rfl, rfl⟩⟩, HB.out⟩
end Go.Proofs.YtdgomaoikeffhaaGreat
/- naskhlaw27.awake. -/
namespace Go.Proofs.YtdgomaoikeffhaaGreat
open Go.RowKit

theorem rv_awake : lineA [1, 12] [1, 1] (0, 2) 0 = [1, 0] := by decide +kernel
set_option maxRecDepth 100000 in
set_option maxHeartbeats 2000000 in
theorem awakeRv_any (w : World) : Calls Tryz.prog 4 #[] w fun e w' => e = .returned (.bool true) ∧ Below w.heap.size w w' := by
  obtain ⟨W1, hW1⟩ : ∃ W1, w.alloc (.cells #[.int .i64 1, .int .i64 12] 3) = W1 := ⟨_, rfl⟩
  have h1 : Rd W1 1 (some ⟨w.heap.size, 0, none⟩) 2 (([1, 12] : List Int).map (Value.int .i64)) := by rw [← hW1]; exact Rd.new_ w [.int .i64 1, .int .i64 12] _
  have hb1 : Below w.heap.size w W1 := by rw [← hW1]; exact below_new w _
  have hsz : W1.heap.size = w.heap.size + 1 := by rw [← hW1, World.size_alloc]
  have h2 : Rd (W1.alloc (.cells #[.int .i64 1, .int .i64 1] 3)) 1 (some ⟨w.heap.size + 1, 0, none⟩) 2 (([1, 1] : List Int).map (Value.int .i64)) := by rw [← hsz]; exact Rd.new_ W1 [.int .i64 1, .int .i64 1] _
  have hb2 := below_new W1 (.cells #[.int .i64 1, .int .i64 1] 3)
  have HN := Lib.hid (rvLine_any (some ⟨w.heap.size, 0, none⟩) (some ⟨w.heap.size + 1, 0, none⟩) 2 2 2 2 [1, 12] [1, 1] 0 2 0 _ (h1.below hb2) h2 (by omega) (by omega) (by omega) (by omega))
  rw [rv_awake] at HN
  have HB2 := Lib.hid (below_self hb1 hb2)
  rw [← hW1] at HN HB2
  clear h1 hb1 h2 hb2 hsz hW1
  go_enter Tryz.func4, Tryz.ntmps4
  go_wp2_with (first
    | (go_at_call 9; refine HN.out.mono ?_; rintro e w3 ⟨v3, rfl, hv3, hb3⟩; obtain ⟨A3, c3, he3, _⟩ := own_form hv3; subst he3; have HV3 := Lib.hid hv3; have HB3 := Lib.hid (below_self HB2.out hb3); clear hv3 hb3)
    | (go_at_call 8; refine (equalInt_b A3 (some ⟨w3.heap.size, 0, none⟩) 2 2 c3 2 [1, 0] [1, 0] (w3.alloc (.cells #[.int .i64 1, .int .i64 0] 3)) ((Rd.of_own HV3.out).alloc _) (Rd.new_ w3 [.int .i64 1, .int .i64 0] _) (by unfold maxLen; omega) (by unfold maxLen; omega)).mono ?_; rintro e w5 ⟨rfl, hb5⟩; have HB5 := Lib.hid (below_self HB3.out (below_self (below_new w3 _) hb5)); clear hb5)
    | fail)
  go_ret
  exact ⟨rfl, HB5.out⟩
end Go.Proofs.YtdgomaoikeffhaaGreat
/- brack's ahead, walked: the side of what is ahead of a place. -/
namespace Go.Proofs.YtdgomaoikeffhaaGreat
open Go.RowKit Go.Shelf

attribute [local go_sem] Oper.semAt_some

/-- The side of what is ahead of a place, of the beginning, or of the level. -/
def ahdV (o : List Int) (a : Nat) (level sos : Int) : Int := if 0 ≤ ahdF o a then ahdF o a else if 0 ≤ sideF sos then sideF sos else ofL level
theorem ahd_skip {o : List Int} {a : Nat} : ∀ {k : Nat}, k ≤ a → (∀ j, a - k ≤ j → j < a → sideF (o.getD j 0) = -1) → ahdF o a = ahdF o (a - k)
  | 0, _, _ => rfl
  | k + 1, hk, h => by
    rw [ahd_skip (k := k) (by omega) (fun j h1 h2 => h j (by omega) h2), show a - k = (a - (k + 1)) + 1 by omega, ahdF, if_neg (by rw [h _ (by omega) (by omega)]; decide)]
theorem ahd_seen {o : List Int} {a k : Nat} (hk : k ≤ a) (_ha : a ≤ o.length) (h : ∀ p ∈ bkUpto (o.take a) a k, sideF p.2 = -1) : ∀ j, a - k ≤ j → j < a → sideF (o.getD j 0) = -1 := by
  intro j h1 h2
  have := h (a - 1 - (a - 1 - j), (o.take a).getD (a - 1 - (a - 1 - j)) 0) (by
    simp only [bkUpto, List.mem_map, List.mem_range]
    exact ⟨a - 1 - j, by omega, rfl⟩)
  rw [show a - 1 - (a - 1 - j) = j by omega] at this
  rw [List.getD_eq_getElem?_getD, List.getElem?_take_of_lt h2] at this
  rw [List.getD_eq_getElem?_getD]
  exact this
theorem ahd_none {o : List Int} {a : Nat} (ha : a ≤ o.length) (h : ∀ p ∈ bkUpto (o.take a) a a, sideF p.2 = -1) : ahdF o a = -1 := by
  rw [ahd_skip (Nat.le_refl a) (ahd_seen (Nat.le_refl _) ha h), Nat.sub_self]
  rfl
theorem ahd_hit {o : List Int} {a k : Nat} (hk : k < a) (ha : a ≤ o.length) (h : ∀ p ∈ bkUpto (o.take a) a k, sideF p.2 = -1) (hs : sideF ((o.take a).getD (a - 1 - k) 0) ≠ -1) : ahdF o a = sideF ((o.take a).getD (a - 1 - k) 0) := by
  have e : (o.take a).getD (a - 1 - k) 0 = o.getD (a - 1 - k) 0 := by rw [List.getD_eq_getElem?_getD, List.getElem?_take_of_lt (by omega), List.getD_eq_getElem?_getD]
  rw [e] at hs ⊢
  have := side_in (o.getD (a - 1 - k) 0)
  rw [ahd_skip (Nat.le_of_lt hk) (ahd_seen (Nat.le_of_lt hk) ha h), show a - k = (a - 1 - k) + 1 by omega, ahdF, if_pos (by omega)]
set_option maxRecDepth 100000 in
set_option maxHeartbeats 2000000 in
theorem bkAhead_in (sb : Nat) (ad : Addr) (D : Option Addr) (n c m d a : Nat) (o : List Int) (level sos v : Int) (w : World) (hv : ahdV o a level sos = v)
    (hbox : w.heap[sb]? = some (.cells #[.slice (some ad) n c, .slice D m d, .int .i64 level, .int .i64 sos] 124 (0, 0))) (hr : Rd w 1 (some ad) n (o.map (Value.int .i64))) (ha : a < n) (hnc : n ≤ c) (hn : n ≤ 1000000) (hab : ad.block < w.heap.size) :
    CallsIn Fence.wide 5 Tryz.prog 100 #[.pointer (some ⟨sb, 0, none⟩), .int .i64 (a : Int)] w fun e W' => e = .returned (.int .i64 v) ∧ Below w.heap.size w W' := by
  have hlen : o.length = n := by simpa using hr.len1
  obtain ⟨zs, hzs⟩ : ∃ zs, o.take a = zs := ⟨_, rfl⟩
  have hz : zs.length = a := by rw [← hzs, List.length_take]; omega
  have hcs : ∀ (j : Nat) (u : Int), zs[j]? = some u → w.cell? (ad.add j) = some (.int .i64 u) := fun j u hj => hr.news j _ (by
    have hj' := (List.getElem?_eq_some_iff.1 hj).1
    rw [← hzs, List.getElem?_take_of_lt (by omega)] at hj
    rw [List.getElem?_map, hj]; rfl)
  have c0 : w.cell? ⟨sb, 0, none⟩ = some (.slice (some ad) n c) := hp_cell (j := 0) hbox rfl
  have c2 : w.cell? ⟨sb, 2, none⟩ = some (.int .i64 level) := hp_cell (j := 2) hbox rfl
  have c3 : w.cell? ⟨sb, 3, none⟩ = some (.int .i64 sos) := hp_cell (j := 3) hbox rfl
  have hsb := hp_lt hbox
  have hb1 := below_new w (.cells #[.int .i64 0] 3)
  have c0' := cell_below hb1 c0
  refine callsIn_of_wp_marks Tryz.func100 rfl trivial ?_ rfl
  simp only [Tryz.ntmps100, List.size_toArray, List.length_cons, List.length_nil, Nat.reduceAdd, Nat.reduceSub, Array.replicate_succ, Array.replicate_zero, List.push_toArray, List.append_toArray, List.nil_append, List.cons_append]
  gi_wp2_with (first
    | (refine ⟨trivial, ?_⟩; gi_at_call 15; refine (back_in Fence.wide (5 - 1) trivial rfl _ _ _ _).mono ?_; rintro e w' ⟨rfl, rfl⟩)
    | fail)
  have bR := (Boxed.new w 3 (.int .i64 0)).alloc (.cells #[.slice (some ad) a c] 22)
  have bN := Boxed.new (w.alloc (.cells #[.int .i64 0] 3)) 22 (.slice (some ad) a c)
  rw [World.size_alloc] at bN
  have hB0 : Below w.heap.size w ((w.alloc (.cells #[.int .i64 0] 3)).alloc (.cells #[.slice (some ad) a c] 22)) := ((Below.refl _ w).alloc (Nat.le_refl _) _).alloc (by simp) _
  have hsz : ((w.alloc (.cells #[.int .i64 0] 3)).alloc (.cells #[.slice (some ad) a c] 22)).heap.size = w.heap.size + 2 := by simp
  obtain ⟨W0, hW0⟩ : ∃ W0, (w.alloc (.cells #[.int .i64 0] 3)).alloc (.cells #[.slice (some ad) a c] 22) = W0 := ⟨_, rfl⟩
  rw [hW0] at bR bN hB0 hsz ⊢
  clear hW0 hb1 c0'
  refine wpIn_rangeFunc_ownH rfl (by omega) (gf := 30) (lb := #[.pointer (some ⟨w.heap.size + 1, 0, none⟩)]) rfl trivial (enters_of Tryz.func30 (by kernel_rfl) rfl)
    (back_stops Fence.wide (5 - 1) trivial rfl (by omega) (w.heap.size + 1) (w.heap.size + 2) a c ad zs (by omega) hz (by omega) (by omega) W0 (by omega) bN.cell (fun j u hj => (hB0.cell (p := ad.add j) (by rw [blockAdd]; exact hab)).trans (hcs j u hj))) belowK_t (belowK_b (by omega)) (Below.refl _ _) (fun _ => rfl)
    (fun pre W => ((∀ p ∈ pre, sideF p.2 = -1) ∧ Boxed W w.heap.size 3 (.int .i64 0)) ∧ Below w.heap.size W0 W)
    (fun c pre W => ∃ ini last, ((c = .ret ∧ pre = ini ++ [last] ∧ (∀ p ∈ ini, sideF p.2 = -1) ∧ sideF last.2 ≠ -1) ∧ Boxed W w.heap.size 3 (.int .i64 (sideF last.2))) ∧ Below w.heap.size W0 W)
    (OwnFrom.and (OwnFrom.and (ownFrom_pure _ _) (Own.from (boxed_own _ _ _) _)) (ownFrom_below (by omega) (by omega)))
    (fun c => fun s X Y row hs hg hr => by
      obtain ⟨ini, last, ⟨h1, h2⟩, h3⟩ := hs
      exact ⟨ini, last, ⟨h1, boxed_own _ _ (fun (_ : Unit) => Value.int .i64 (sideF last.2)) () X Y row h2 hg (fun r e => (hr r e).2)⟩, ownFrom_below (β := Unit) (w₀ := W0) (by omega) (show w.heap.size ≤ W0.heap.size by omega) () X Y row h3 hg hr⟩)
    ⟨⟨by simp, bR⟩, Below.refl _ _⟩
    (fun x a' _ => a' = { tmps := #[.pointer (some ⟨sb, 0, none⟩), .int .i64 (a : Int), undef, undef, .pointer (some ⟨w.heap.size, 0, none⟩), undef, .int .i64 x.2, undef, undef, .pointer (some ⟨sb, 0, none⟩), .pointer (some ⟨sb, 0, none⟩), .pointer (some ⟨sb, 0, none⟩), .slice (some ad) n c, .int .i64 (a : Int), .slice (some ad) a c, .func (.func 30) #[] #[.pointer (some ⟨w.heap.size + 1, 0, none⟩)], .int .i64 (x.1 : Int), .int .i64 x.2, undef, undef, undef, undef, undef, undef, undef, undef, undef, undef, undef, undef, undef, undef, undef, undef, undef, undef], defers := [] })
    (fun _ _ _ _ _ _ hs _ _ => hs)
    ?assign ?body ?done ?stop
  case assign =>
    rintro l pre ⟨x1, x2⟩ W K hi hK
    gi_wp2
    exact hK _ _ (KeepsFrom.refl _ _) (Below.refl _ _) hi rfl
  case body =>
    rintro l pre ⟨x1, x2⟩ a' W hl _ ⟨⟨hp, bR1⟩, hB1⟩ rfl hlt
    have cR := bR1.cell
    have fR := bR1.frozen
    obtain ⟨s, hs⟩ : ∃ s, sideF x2 = s := ⟨_, rfl⟩
    by_cases hx : s = -1
    · subst hx
      gi_wp2_with (first
        | (refine ⟨trivial, ?_⟩; gi_at_call 118; refine (CallsIn.inRound l (callsIn_wide.2 (bkSide_any x2 _ hs W))).mono ?_; rintro e w' ⟨rfl, rfl⟩)
        | fail)
      exact ⟨KeepsFrom.refl _ _, Below.refl _ _, ⟨fun p hp' => (List.mem_append.1 hp').elim (hp p) (fun e => by simp at e; subst e; exact hs), bR1⟩, hB1⟩
    · have g1 : (s != -1) = true := by simp [hx]
      gi_wp2_with (first
        | (refine ⟨trivial, ?_⟩; gi_at_call 118; refine (CallsIn.inRound l (callsIn_wide.2 (bkSide_any x2 _ hs W))).mono ?_; rintro e w' ⟨rfl, rfl⟩)
        | fail)
      exact ⟨(KeepsOthers.setCell _ _ _).from _, pre, (x1, x2), ⟨⟨rfl, rfl, hp, by rw [hs]; exact hx⟩, by rw [hs]; exact bR1.set _⟩, hB1.setCell (p := ⟨w.heap.size, 0, none⟩) (Nat.le_refl _) _⟩
  case done =>
    rintro D ys W hD rfl ⟨⟨hne, bR1⟩, hB⟩ hK
    have cR := bR1.cell
    have fR := bR1.frozen
    have hB9 := hB0.trans hB
    have d2 := cell_below hB9 c2
    have d3 := cell_below hB9 c3
    have ha1 : ahdF o a = -1 := ahd_none (by omega) (by rw [hzs]; exact hne)
    unfold ahdV at hv
    rw [ha1, if_neg (by decide)] at hv
    obtain ⟨s, hs⟩ : ∃ s, sideF sos = s := ⟨_, rfl⟩
    have hs3 := side_in sos
    rw [hs] at hs3 hv
    by_cases hx : s = -1
    · subst hx
      rw [if_neg (by decide)] at hv
      gi_wp2_with (first
        | (refine ⟨trivial, ?_⟩; gi_at_call 118; refine (callsIn_wide.2 (bkSide_any sos _ hs W)).mono ?_; rintro e w' ⟨rfl, rfl⟩)
        | (refine ⟨trivial, ?_⟩; gi_at_call 99; refine (callsIn_wide.2 (bkSideOf_any level v hv W)).mono ?_; rintro e w' ⟨rfl, rfl⟩)
        | fail)
      have hK' := (KeepsOthers.setCell W ⟨w.heap.size, 0, none⟩ (.int .i64 v)).same D _ hK rfl
      refine ⟨by simp, .inl ⟨_, _, rfl, run_takeDeferred hK', ?_⟩⟩
      have hc5 := cell_kept (World.cell?_setCell_same' W ⟨w.heap.size, 0, none⟩ (.int .i64 v) (by rw [cR]; rfl)) (grownBy_putObj' _ D (.deferred none)) (fun r e => by cases e; exact ⟨_, hK', rfl⟩)
      refine ⟨.int .i64 v, ?_, rfl, hB0.trans ((hB.setCell (p := ⟨w.heap.size, 0, none⟩) (Nat.le_refl _) _).trans (belowK_b (w := w) (Nat.le_refl _) _ D _ _ (by omega) hK' rfl rfl))⟩
      simp [results, Tryz.f100, go_sem, hc5]
    · have g1 : (s != -1) = true := by simp [hx]
      rw [if_pos (by omega)] at hv
      subst hv
      gi_wp2_with (first
        | (refine ⟨trivial, ?_⟩; gi_at_call 118; refine (callsIn_wide.2 (bkSide_any sos _ hs W)).mono ?_; rintro e w' ⟨rfl, rfl⟩)
        | fail)
      have hK' := (KeepsOthers.setCell W ⟨w.heap.size, 0, none⟩ (.int .i64 s)).same D _ hK rfl
      refine ⟨by simp, .inl ⟨_, _, rfl, run_takeDeferred hK', ?_⟩⟩
      have hc5 := cell_kept (World.cell?_setCell_same' W ⟨w.heap.size, 0, none⟩ (.int .i64 s) (by rw [cR]; rfl)) (grownBy_putObj' _ D (.deferred none)) (fun r e => by cases e; exact ⟨_, hK', rfl⟩)
      refine ⟨.int .i64 s, ?_, rfl, hB0.trans ((hB.setCell (p := ⟨w.heap.size, 0, none⟩) (Nat.le_refl _) _).trans (belowK_b (w := w) (Nat.le_refl _) _ D _ _ (by omega) hK' rfl rfl))⟩
      simp [results, Tryz.f100, go_sem, hc5]
  case stop =>
    rintro D c pre W hD ⟨k, hk', rfl⟩ ⟨ini, last, ⟨⟨rfl, e1, e2, e3⟩, bR1⟩, hB⟩ hK
    have cR := bR1.cell
    gi_wp2
    refine ⟨by simp, .inl ⟨_, _, rfl, run_takeDeferred hK, ?_⟩⟩
    have hc5 := cell_kept cR (grownBy_putObj' _ D (.deferred none)) (fun r e => by cases e; exact ⟨_, hK, rfl⟩)
    obtain ⟨k', rfl⟩ : ∃ k', k = k' + 1 := by
      cases k with
      | zero => simp [bkUpto] at e1
      | succ k' => exact ⟨k', rfl⟩
    rw [bkUpto_succ] at e1
    obtain ⟨rfl, e5⟩ := List.append_inj' e1 rfl
    obtain rfl : (a - 1 - k', zs.getD (a - 1 - k') 0) = last := by simpa using e5
    have hv' : v = sideF (zs.getD (a - 1 - k') 0) := by
      rw [← hzs] at e2 e3 ⊢
      have h := ahd_hit (by omega) (by omega) e2 e3
      have := side_in ((o.take a).getD (a - 1 - k') 0)
      rw [← hv, ahdV, h, if_pos (by simp only at e3; omega)]
    refine ⟨.int .i64 (sideF (zs.getD (a - 1 - k') 0)), ?_, by rw [hv'], hB0.trans (hB.trans (belowK_b (w := w) (Nat.le_refl _) W D _ _ (by omega) hK rfl rfl))⟩
    simp [results, Tryz.f100, go_sem, hc5]
end Go.Proofs.YtdgomaoikeffhaaGreat
/- brack's last: which is the last one of a stack that knows a bracket. -/
namespace Go.Proofs.YtdgomaoikeffhaaGreat
open Go.RowKit Go.Shelf

attribute [local go_sem] Oper.semAt_some

theorem lastB_skip {v : Int} {r : List Sp} : ∀ {a : List Sp}, (∀ t ∈ a, t.2 ≠ v) → lastB v (a ++ r) = lastB v r
  | [], _ => rfl
  | t :: a, h => by
    rw [List.cons_append, lastB, if_neg (h t (by simp))]
    exact lastB_skip fun u hu => h u (by simp [hu])
theorem bg_seen {zs : List Sp} {len k : Nat} {v : Int} (hz : zs.length = len) (hk : k ≤ len) (h : ∀ p ∈ bgUpto zs len k, p.2.2 ≠ v) : ∀ t ∈ zs.reverse.take k, t.2 ≠ v := by
  intro t ht
  obtain ⟨i, hi⟩ := List.getElem?_of_mem ht
  have hik : i < k := by
    have := (List.getElem?_eq_some_iff.1 hi).1
    rw [List.length_take, List.length_reverse] at this
    omega
  rw [List.getElem?_take_of_lt hik, List.getElem?_reverse (by omega), hz] at hi
  have := h (len - 1 - i, zs.getD (len - 1 - i) (0, 0)) (List.mem_map.2 ⟨i, by simpa using hik, rfl⟩)
  simp only [List.getD_eq_getElem?_getD, hi] at this
  exact this
theorem bg_none {zs : List Sp} {len : Nat} {v : Int} (hz : zs.length = len) (h : ∀ p ∈ bgUpto zs len len, p.2.2 ≠ v) : lastB v zs.reverse = -1 := by
  have := lastB_skip (r := []) (bg_seen hz (Nat.le_refl _) h)
  rw [List.append_nil, List.take_of_length_le (by rw [List.length_reverse]; omega)] at this
  rw [this]
  rfl
theorem bg_hit {zs : List Sp} {len k : Nat} {v : Int} (hz : zs.length = len) (hk : k < len) (h : ∀ p ∈ bgUpto zs len k, p.2.2 ≠ v) (hv : (zs.getD (len - 1 - k) (0, 0)).2 = v) : lastB v zs.reverse = ((len - 1 - k : Nat) : Int) := by
  rw [← List.take_append_drop k zs.reverse, lastB_skip (bg_seen hz (Nat.le_of_lt hk) h), List.drop_eq_getElem_cons (by rw [List.length_reverse]; omega), lastB, if_pos, List.length_drop, List.length_reverse, hz]
  · congr 1
    omega
  · rw [List.getElem_reverse]
    rw [List.getD_eq_getElem?_getD, List.getElem?_eq_getElem (by omega)] at hv
    simp only [hz]
    exact hv
set_option maxRecDepth 100000 in
set_option maxHeartbeats 2000000 in
theorem bkLast_in (A : Option Addr) (m c : Nat) (zs : List Sp) (v r : Int) (w : World) (hv : lastB v zs.reverse = r) (hr : Rd w 2 A m (cellsS zs)) (hm : m ≤ 1000000) :
    CallsIn Fence.wide 5 Tryz.prog 94 #[.slice A m c, .int .i64 v] w fun e W' => e = .returned (.int .i64 r) ∧ Below w.heap.size w W' := by
  have hlen : zs.length = m := by have := hr.1; rw [cellsS_len] at this; omega
  refine callsIn_of_wp_marks Tryz.func94 rfl trivial ?_ rfl
  simp only [Tryz.ntmps94, List.size_toArray, List.length_cons, List.length_nil, Nat.reduceAdd, Nat.reduceSub, Array.replicate_succ, Array.replicate_zero, List.push_toArray, List.append_toArray, List.nil_append, List.cons_append]
  gi_wp2_with (first
    | (refine ⟨trivial, ?_⟩; gi_at_call 113; refine (bgck_in Fence.wide (5 - 1) trivial rfl _ _ _ _).mono ?_; rintro e w' ⟨rfl, rfl⟩)
    | fail)
  have bC := ((Boxed.new w 3 (.int .i64 v)).alloc (.cells #[.int .i64 0] 3)).alloc (.cells #[.slice A m c] 141)
  have bR := (Boxed.new (w.alloc (.cells #[.int .i64 v] 3)) 3 (.int .i64 0)).alloc (.cells #[.slice A m c] 141)
  have bN := Boxed.new ((w.alloc (.cells #[.int .i64 v] 3)).alloc (.cells #[.int .i64 0] 3)) 141 (.slice A m c)
  simp only [World.size_alloc] at bR bN
  have hB0 : Below w.heap.size w (((w.alloc (.cells #[.int .i64 v] 3)).alloc (.cells #[.int .i64 0] 3)).alloc (.cells #[.slice A m c] 141)) := (((Below.refl _ w).alloc (Nat.le_refl _) _).alloc (by simp) _).alloc (by simp; omega) _
  have hsz : (((w.alloc (.cells #[.int .i64 v] 3)).alloc (.cells #[.int .i64 0] 3)).alloc (.cells #[.slice A m c] 141)).heap.size = w.heap.size + 3 := by simp
  obtain ⟨W0, hW0⟩ : ∃ W0, ((w.alloc (.cells #[.int .i64 v] 3)).alloc (.cells #[.int .i64 0] 3)).alloc (.cells #[.slice A m c] 141) = W0 := ⟨_, rfl⟩
  rw [hW0] at bC bR bN hB0 hsz ⊢
  clear hW0
  have hcs : ∀ j u, zs[j]? = some u → ∃ ad, A = some ad ∧ ad.block < w.heap.size ∧ W0.cell? (ad.add (j * 2)) = some (.int .i64 u.1) ∧ W0.cell? ⟨(ad.add (j * 2)).block, (ad.add (j * 2)).off + 1, none⟩ = some (.int .i64 u.2) := by
    intro j u hj
    obtain ⟨ad, e, hb, d1, d2⟩ := hr.span hj
    exact ⟨ad, e, hb, cell_below hB0 d1, cell_below hB0 d2⟩
  refine wpIn_rangeFunc_ownH rfl (by omega) (gf := 124) (lb := #[.pointer (some ⟨w.heap.size + 1 + 1, 0, none⟩)]) rfl trivial (enters_of Tryz.func124 (by kernel_rfl) rfl)
    (bgck_stops Fence.wide (5 - 1) trivial rfl (by omega) (w.heap.size + 1 + 1) (w.heap.size + 3) m c A zs hm hlen (by omega) W0 (by omega) bN.cell (fun j u hj => by obtain ⟨ad, e, hb, d⟩ := hcs j u hj; exact ⟨ad, e, by omega, d⟩)) belowK_t (belowK_b (by omega)) (Below.refl _ _) (fun _ => rfl)
    (fun pre W => (((∀ p ∈ pre, p.2.2 ≠ v) ∧ Boxed W (w.heap.size + 1) 3 (.int .i64 0)) ∧ Boxed W w.heap.size 3 (.int .i64 v)) ∧ Below w.heap.size W0 W)
    (fun c pre W => ∃ ini last, ((c = .ret ∧ pre = ini ++ [last] ∧ (∀ p ∈ ini, p.2.2 ≠ v) ∧ last.2.2 = v) ∧ Boxed W (w.heap.size + 1) 3 (.int .i64 (last.1 : Int))) ∧ Below w.heap.size W0 W)
    (OwnFrom.and (OwnFrom.and (OwnFrom.and (ownFrom_pure _ _) (Own.from (boxed_own _ _ _) _)) (Own.from (boxed_own _ _ _) _)) (ownFrom_below (by omega) (by omega)))
    (fun c => fun s X Y row hs hg hr => by
      obtain ⟨ini, last, ⟨h1, h2⟩, h3⟩ := hs
      exact ⟨ini, last, ⟨h1, boxed_own _ _ (fun (_ : Unit) => Value.int .i64 (last.1 : Int)) () X Y row h2 hg (fun r e => (hr r e).2)⟩, ownFrom_below (β := Unit) (w₀ := W0) (by omega) (show w.heap.size ≤ W0.heap.size by omega) () X Y row h3 hg hr⟩)
    ⟨⟨⟨by simp, bR⟩, bC⟩, Below.refl _ _⟩
    (fun x a' W => ∃ Bx, w.heap.size + 1 < Bx ∧ W.cell? ⟨Bx, 1, none⟩ = some (.int .i64 x.2.2) ∧ a' = { tmps := #[.slice A m c, .int .i64 v, undef, .pointer (some ⟨w.heap.size, 0, none⟩), .pointer (some ⟨w.heap.size + 1, 0, none⟩), .int .i64 (x.1 : Int), .pointer (some ⟨Bx, 0, none⟩), .slice A m c, .func (.func 124) #[] #[.pointer (some ⟨w.heap.size + 1 + 1, 0, none⟩)], .int .i64 (x.1 : Int), .agg #[.int .i64 x.2.1, .int .i64 x.2.2], undef, undef, undef, undef, undef], defers := [] })
    (fun x a' _ X Y row hs hg hr => by obtain ⟨Bx, e1, e2, e3⟩ := hs; exact ⟨Bx, e1, cell_kept e2 hg (fun r e => (hr r e).2), e3⟩)
    ?assign ?body ?done ?stop
  case assign =>
    rintro l pre ⟨x1, x2, x3⟩ W K ⟨⟨⟨hp, bR1⟩, bB1⟩, hB1⟩ hK
    gi_wp2
    have hsW := hB1.size
    have hnew : (W.alloc (.cells #[.int .i64 x2, .int .i64 x3] 143)).cell? ⟨W.heap.size, 1, none⟩ = some (.int .i64 x3) := by go_simp
    exact hK _ _ ((KeepsOthers.alloc _ _).from _) ((Below.refl _ W).alloc (by omega) _) ⟨⟨⟨hp, bR1.alloc _⟩, bB1.alloc _⟩, hB1.alloc (by omega) _⟩ ⟨W.heap.size, by omega, hnew, rfl⟩
  case body =>
    rintro l pre ⟨x1, x2, x3⟩ a' W hl ⟨r, hr⟩ ⟨⟨⟨hp, bR1⟩, bB1⟩, hB1⟩ ⟨Bx, hBx, bX, rfl⟩ hlt
    have cB := bB1.cell
    have cR := bR1.cell
    have fR := bR1.frozen
    simp only at bX
    by_cases hx : x3 = v
    · have g1 : (x3 == v) = true := by simp [hx]
      gi_wp2
      exact ⟨(KeepsOthers.setCell _ _ _).from _, pre, (x1, x2, x3), ⟨⟨rfl, rfl, hp, hx⟩, bR1.set _⟩, hB1.setCell (p := ⟨w.heap.size + 1, 0, none⟩) (by simp) _⟩
    · have g1 : (x3 == v) = false := by simp [hx]
      gi_wp2
      exact ⟨KeepsFrom.refl _ _, Below.refl _ _, ⟨⟨fun p hp' => (List.mem_append.1 hp').elim (hp p) (fun e => by simp at e; subst e; exact hx), bR1⟩, bB1⟩, hB1⟩
  case done =>
    rintro D ys W hD rfl ⟨⟨⟨hne, bR1⟩, bB1⟩, hB⟩ hK
    have cR := bR1.cell
    have fR := bR1.frozen
    gi_wp2
    have hK' := (KeepsOthers.setCell W ⟨w.heap.size + 1, 0, none⟩ (.int .i64 (-1))).same D _ hK rfl
    refine ⟨by simp, .inl ⟨_, _, rfl, run_takeDeferred hK', ?_⟩⟩
    have hc5 := cell_kept (World.cell?_setCell_same' W ⟨w.heap.size + 1, 0, none⟩ (.int .i64 (-1)) (by rw [cR]; rfl)) (grownBy_putObj' _ D (.deferred none)) (fun r e => by cases e; exact ⟨_, hK', rfl⟩)
    have hv' : r = -1 := by rw [← hv, bg_none hlen hne]
    refine ⟨.int .i64 (-1), ?_, by rw [hv'], hB0.trans ((hB.setCell (p := ⟨w.heap.size + 1, 0, none⟩) (by simp) _).trans (belowK_b (w := w) (Nat.le_refl _) _ D _ _ (by omega) hK' rfl rfl))⟩
    simp [results, Tryz.f94, go_sem, hc5]
  case stop =>
    rintro D c pre W hD ⟨k, hk', rfl⟩ ⟨ini, last, ⟨⟨rfl, e1, e2, e3⟩, bR1⟩, hB⟩ hK
    have cR := bR1.cell
    gi_wp2
    refine ⟨by simp, .inl ⟨_, _, rfl, run_takeDeferred hK, ?_⟩⟩
    have hc5 := cell_kept cR (grownBy_putObj' _ D (.deferred none)) (fun r e => by cases e; exact ⟨_, hK, rfl⟩)
    obtain ⟨k', rfl⟩ : ∃ k', k = k' + 1 := by
      cases k with
      | zero => simp [bgUpto] at e1
      | succ k' => exact ⟨k', rfl⟩
    rw [bgUpto_succ] at e1
    obtain ⟨rfl, e5⟩ := List.append_inj' e1 rfl
    obtain rfl : (m - 1 - k', zs.getD (m - 1 - k') (0, 0)) = last := by simpa using e5
    have hv' : r = ((m - 1 - k' : Nat) : Int) := by rw [← hv, bg_hit hlen (by omega) e2 e3]
    refine ⟨.int .i64 ((m - 1 - k' : Nat) : Int), ?_, by rw [hv'], hB0.trans (hB.trans (belowK_b (w := w) (Nat.le_refl _) W D _ _ (by omega) hK rfl rfl))⟩
    simp [results, Tryz.f94, go_sem, hc5]
theorem bkLast_any (A : Option Addr) (m c : Nat) (zs : List Sp) (v r : Int) (hv : lastB v zs.reverse = r) (hm : m ≤ 1000000) (w : World) (hr : Rd w 2 A m (cellsS zs)) :
    Calls Tryz.prog 94 #[.slice A m c, .int .i64 v] w fun e W' => e = .returned (.int .i64 r) ∧ Below w.heap.size w W' := callsIn_wide.1 (bkLast_in A m c zs v r w hv hr hm)
end Go.Proofs.YtdgomaoikeffhaaGreat
