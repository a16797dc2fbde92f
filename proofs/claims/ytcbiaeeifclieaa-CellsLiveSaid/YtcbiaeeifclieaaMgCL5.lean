/- Texts of one claim, one behind the other. -/
import Derived.RangeFuncBox
import Derived.RangeFuncLeaves
import Derived.Shelf.Abstract
import Derived.WalkKit
import Derived.OwnWalkIn
import Derived.TacticsInMore
import Derived.LoopNIn
import Derived.LoopIn
import Derived.Maps.AppendAt
import Derived.Test.YtcbiaeeifclieaaMgCL1
import Derived.Test.YtcbiaeeifclieaaMgCL2
/- slices.Backward at []int where the body may write whatever is not the slice itself. -/
namespace Go.Proofs.Ytcbiaeeifclieaa
open Go.RowKit Go.Shelf

attribute [local go_sem] Oper.semAt_some

/-- What has come when k rounds are over. -/
def bgUpto (zs : List Int) (len k : Nat) : List (Nat × Int) := (List.range k).map fun j => (len - 1 - j, zs.getD (len - 1 - j) 0)
theorem bgUpto_succ (zs : List Int) (len k : Nat) : bgUpto zs len (k + 1) = bgUpto zs len k ++ [(len - 1 - k, zs.getD (len - 1 - k) 0)] := by simp [bgUpto, List.range_succ]
theorem bgUpto_len (zs : List Int) (len k : Nat) : (bgUpto zs len k).length = k := by simp [bgUpto]
/-- What the body must leave as it lay: the iterator's box, the slice's block. -/
def KpB (Bs : Nat) (K : Nat → Prop) (W W' : World) : Prop := W'.heap[Bs]? = W.heap[Bs]? ∧ ∀ k, K k → W'.heap[k]? = W.heap[k]?
theorem KpB.refl (Bs : Nat) (K : Nat → Prop) (W : World) : KpB Bs K W W := ⟨rfl, fun _ _ => rfl⟩
theorem KpB.trans {Bs : Nat} {K : Nat → Prop} {A B C : World} (h : KpB Bs K A B) (k : KpB Bs K B C) : KpB Bs K A C := ⟨k.1.trans h.1, fun i hi => (k.2 i hi).trans (h.2 i hi)⟩
theorem KpB.put {Bs : Nat} {K : Nat → Prop} {w : World} (h1 : Bs < w.heap.size) (h2 : ∀ k, K k → k < w.heap.size) (W : World) (l : Nat) (o o' : Obj) (hl : w.heap.size ≤ l) (_ : W.heap[l]? = some o) (_ : o.isCells = false) (_ : o.isWalk = false) : KpB Bs K W (W.putObj l o') :=
  ⟨World.putObj_heap_other (by omega), fun k hk => World.putObj_heap_other (by have := h2 k hk; omega)⟩
set_option maxRecDepth 100000 in
set_option maxHeartbeats 2000000 in
theorem backG1_in (F : Fence) (n : Nat) (hf : F.fn 81) (hro : F.round = none) (hn : 1 ≤ n) (l Bs : Nat) (K : Nat → Prop) (len cap : Nat) (A : Option Addr) (zs : List Int) (hlen : len ≤ 1000000) (hz : zs.length = len) (hgk : ∀ ad, A = some ad → 0 < len → K ad.block) (J Jx : List (Nat × Int) → World → Prop)
    (hY : ∀ pre x W, J pre W → pre.length < len → YieldAt F (n - 1) Try.prog l #[.int .i64 (x.1 : Int), .int .i64 x.2] W fun e W' =>
      (e = .returned (.bool true) ∧ J (pre ++ [x]) W' ∧ KpB Bs K W W') ∨ (e = .returned (.bool false) ∧ Jx (pre ++ [x]) W'))
    (W : World) (hBs : W.cell? ⟨Bs, 0, none⟩ = some (.slice A len cap)) (hc : ∀ j u, zs[j]? = some u → ∃ ad, A = some ad ∧ W.cell? (ad.add j) = some (.int .i64 u)) (h0 : J [] W) :
    CallsIn F n Try.prog 81 #[.func (.yield l) #[] #[], .pointer (some ⟨Bs, 0, none⟩)] W fun e W' => (∃ v, e = .returned v) ∧
      ((∃ ys, ys = bgUpto zs len len ∧ J ys W') ∨ (∃ pre, (∃ k, k ≤ len ∧ pre = bgUpto zs len k) ∧ Jx pre W')) := by
  refine callsIn_of_wp Try.func81 rfl hf ?_ hro
  simp only [Try.ntmps81, List.size_toArray, List.length_cons, List.length_nil, Nat.reduceAdd, Nat.reduceSub, Array.replicate_succ, Array.replicate_zero, List.push_toArray, List.append_toArray, List.nil_append, List.cons_append]
  gi_wp2
  gi_loopw [3] (fun i wr => ∃ m k : Nat, m + k = len ∧ i = .int .i64 ((m : Int) - 1) ∧ J (bgUpto zs len k) wr ∧ KpB Bs K W wr)
    (fun i _ => (intOf i + 1).toNat)
  case atStart => exact ⟨len, 0, rfl, rfl, h0, KpB.refl _ _ _⟩
  case round =>
    obtain ⟨m, k, hk, rfl, hJs, hnx⟩ := hrel
    have hBr : wr.cell? ⟨Bs, 0, none⟩ = some (.slice A len cap) := (World.cell?_of_block hnx.1).trans hBs
    cases m with
    | succ m =>
      obtain ⟨x, hx⟩ : ∃ x, zs[m]? = some x := ⟨_, List.getElem?_eq_getElem (by omega)⟩
      obtain ⟨ad, rfl, hcx0⟩ := hc m x hx
      have hcx : wr.cell? (ad.add m) = some (.int .i64 x) := (World.cell?_of_block (a := ad.add m) (by rw [blockAdd]; exact hnx.2 _ (hgk ad rfl (by omega)))).trans hcx0
      obtain ⟨fn, tmps, assign, body, hy, hR⟩ := hY _ (m, x) wr hJs (by rw [bgUpto_len]; omega)
      dsimp only at hy
      have e1 : ((m + 1 : Nat) : Int) - 1 = (m : Int) := by omega
      have e2 : bgUpto zs len (k + 1) = bgUpto zs len k ++ [(m, x)] := by
        rw [bgUpto_succ, show len - 1 - k = m by omega]
        simp [hx]
      rw [e1]
      rw [← e2] at hR
      clear e1 hx hcx0
      gi_wp2
      refine hR.mono ?_
      rintro e W3 (⟨rfl, hJ3, hk3⟩ | ⟨rfl, hJx3⟩)
      · gi_wp2
        go_roundw
        case rel => exact ⟨m, k + 1, by omega, by go_num, hJ3, hnx.trans hk3⟩
        case measure => simp [intOf] <;> omega
      · gi_wp2
        refine bodyPost_ret (results_none rfl _ _ _) rfl ?_
        exact ⟨⟨_, rfl⟩, .inr ⟨_, ⟨k + 1, by omega, rfl⟩, hJx3⟩⟩
    | zero =>
      obtain rfl : k = len := by omega
      gi_wp2
      go_end0
      exact ⟨⟨_, rfl⟩, .inl ⟨_, rfl, hJs⟩⟩
set_option maxHeartbeats 1000000 in
theorem bgBack_in (F : Fence) (n : Nat) (hf : F.fn 60) (hro : F.round = none) (a : Option Addr) (len cap : Nat) (w : World) :
    CallsIn F n Try.prog 60 #[.slice a len cap] w fun e w' => e = .returned (.func (.func 81) #[] #[.pointer (some ⟨w.heap.size, 0, none⟩)]) ∧ w' = w.alloc (.cells #[.slice a len cap] 31) := by
  refine callsIn_of_wp Try.func60 rfl hf ?_ hro
  simp only [Try.ntmps60, List.size_toArray, List.length_cons, List.length_nil, Nat.reduceAdd, Nat.reduceSub, Array.replicate_succ, Array.replicate_zero, List.push_toArray, List.append_toArray, List.nil_append, List.cons_append]
  gi_wp2
  go_ret
  exact ⟨rfl, rfl⟩
theorem backG_stops (F : Fence) (n : Nat) (hf : F.fn 81) (hro : F.round = none) (hn : 1 ≤ n) (Bs : Nat) (K : Nat → Prop) (len cap : Nat) (A : Option Addr) (zs : List Int) (hlen : len ≤ 1000000) (hz : zs.length = len) (hgk : ∀ ad, A = some ad → 0 < len → K ad.block) (w : World) (hBl : Bs < w.heap.size) (hgl : ∀ k, K k → k < w.heap.size)
    (hBs : w.cell? ⟨Bs, 0, none⟩ = some (.slice A len cap)) (hc : ∀ j u, zs[j]? = some u → ∃ ad, A = some ad ∧ w.cell? (ad.add j) = some (.int .i64 u)) :
    SeqStopsK F n Try.prog 81 #[.pointer (some ⟨Bs, 0, none⟩)] (fun x : Nat × Int => #[Value.int .i64 (x.1 : Int), Value.int .i64 x.2]) (KpB Bs K) (fun ys => ys = bgUpto zs len len)
      (fun pre => ∃ k, k ≤ len ∧ pre = bgUpto zs len k) len w := fun l J Jx W hW _ _ hY h0 =>
  backG1_in F n hf hro hn l Bs K len cap A zs hlen hz hgk J Jx hY W ((hW.cell (p := ⟨Bs, 0, none⟩) hBl).trans hBs) (fun j u hj => by
    obtain ⟨ad, e, h⟩ := hc j u hj
    exact ⟨ad, e, (hW.cell (p := ad.add j) (by rw [blockAdd]; exact hgl _ (hgk ad e (by have := (List.getElem?_eq_some_iff.1 hj).1; omega)))).trans h⟩) h0
theorem bgUpto_snd {zs : List Int} {len : Nat} (hz : zs.length = len) : (bgUpto zs len len).map (·.2) = zs.reverse := by
  apply List.ext_getElem?
  intro i
  by_cases h : i < len
  · simp only [bgUpto, List.map_map, List.getElem?_map, List.getElem?_range h, Option.map_some, Function.comp]
    rw [List.getElem?_reverse (by omega), hz, List.getD_eq_getElem?_getD, List.getElem?_eq_getElem (by omega)]
    rfl
  · rw [List.getElem?_eq_none (by simp [bgUpto]; omega), List.getElem?_eq_none (by simp; omega)]
end Go.Proofs.Ytcbiaeeifclieaa
/- What an append onto what lies ahead, and its store, leave of the cells. -/
namespace Go.Proofs.Ytcbiaeeifclieaa
open Go.RowKit

section
variable {w : World} {base b gc n : Nat} {R : List RC} {va : Value} {ah : List Int}
theorem own_row_ne {w : World} {base : Nat} {v : Value} {k : Nat} {xs : List Value} (h : w.ownsRow base 3 1 v k xs) {g : Nat} {o : Obj} (hg : w.heap[g]? = some o) (ho : o.isCells = false) : v.ownBlock = none ∨ v.ownBlock ≠ some g := by
  rcases h.2 with ⟨rfl, _⟩ | ⟨g', cap, cur, rfl, _, hgb, _⟩
  · exact .inl rfl
  · refine .inr fun e => ?_
    obtain rfl : g' = g := by simpa [Value.ownBlock] using e
    rw [hgb] at hg; cases hg; cases ho
/-- Blocks of another type than the rows', and not the cells' own, lie as they lay. -/
def KeepT (b : Nat) (W w : World) : Prop := ∀ (k : Nat) (cs : Array Value) (t : TypeId), k ≠ b → t ≠ 3 → W.heap[k]? = some (.cells cs t (0, 0)) → w.heap[k]? = some (.cells cs t (0, 0))
theorem KeepT.refl (b : Nat) (w : World) : KeepT b w w := fun _ _ _ _ _ h => h
theorem KeepT.trans {b : Nat} {A B C : World} (h : KeepT b A B) (k : KeepT b B C) : KeepT b A C := fun i cs t h1 h2 h3 => k i cs t h1 h2 (h i cs t h1 h2 h3)
theorem KeepT.of_below {b : Nat} {A B : World} (h : Below A.heap.size A B) : KeepT b A B := fun i cs t _ _ h3 => (h.block i (hp_lt h3)).trans h3
theorem KeepT.turn {b : Nat} {A B C : World} (h : KeepT b A B) {row : Option Nat} (hg : B.grownBy C row) (hr : ∀ r, row = some r → ∃ o : Obj, B.heap[r]? = some o ∧ o.isCells = false) : KeepT b A C := fun i cs t h1 h2 h3 => by
  have h4 := h i cs t h1 h2 h3
  refine (hg.block i (hp_lt h4) fun e => ?_).trans h4
  obtain ⟨o, ho, hc⟩ := hr i e.symm
  rw [h4] at ho; cases ho; cases hc
/-- Cells lie behind the turn of a block that holds no cells. -/
theorem CellsAt.turn (h : CellsAt w base b gc n R va ah) {w' : World} {row : Option Nat} (hg : w.grownBy w' row) (hr : ∀ r, row = some r → ∃ o : Obj, w.heap[r]? = some o ∧ o.isCells = false) : CellsAt w' base b gc n R va ah := by
  have hne : ∀ {k : Nat} {cs : Array Value} {t : TypeId}, w.heap[k]? = some (.cells cs t (0, 0)) → some k ≠ row := fun {k cs t} hk e => by
    obtain ⟨o, ho, hc⟩ := hr k e.symm
    rw [hk] at ho; cases ho; cases hc
  have hown : ∀ {v : Value} {k : Nat} {xs : List Value}, w.ownsRow base 3 1 v k xs → w'.ownsRow base 3 1 v k xs := fun {v k xs} ho => by
    refine ho.kept hg ?_
    rcases hrow : row with _ | g
    · rcases hv : v.ownBlock with _ | g'
      · exact .inl rfl
      · exact .inr (by simp)
    · obtain ⟨o, h1, h2⟩ := hr g hrow
      exact own_row_ne ho h1 h2
  exact ⟨(hg.block b (hp_lt h.hb) (hne h.hb)).trans h.hb, (hg.block gc (hp_lt h.hc) (hne h.hc)).trans h.hc, h.len, fun i r hi => hown (h.rows i r hi), hown h.arow, h.ne, h.nea, ⟨h.far.1, h.far.2.1, h.far.2.2.1, Nat.le_trans h.far.2.2.2 hg.size⟩⟩
theorem CellsAt.more (h : CellsAt w base b gc n R va ah) {w1 : World} {v' : Value} {l : List Int} (hg : w.grownBy w1 va.ownBlock) (hown : w1.ownsRow base 3 1 v' l.length (l.map (Value.int .i64)))
    (hw : v'.ownBlock = va.ownBlock ∨ v'.ownBlock = some w.heap.size) : CellsAt (w1.setCell ⟨b, 1, none⟩ v') base b gc n R v' l := by
  have hbv : some b ≠ va.ownBlock := fun e => own_not h.arow h.far.1 e.symm
  have hcv : some gc ≠ va.ownBlock := fun e => own_not h.arow h.far.2.1 e.symm
  have hb1 : w1.heap[b]? = _ := (hg.block b (hp_lt h.hb) hbv).trans h.hb
  have hc1 : w1.heap[gc]? = _ := (hg.block gc (hp_lt h.hc) hcv).trans h.hc
  refine ⟨?_, (hp_far (Ne.symm h.far.2.2.1) _ _).trans hc1, h.len, fun j s hs => own_set_far ((h.rows j s hs).kept hg ?_) (own_not (h.rows j s hs) h.far.1), own_set_far hown (own_not hown h.far.1), h.ne, fun j s hs => ?_, ⟨h.far.1, h.far.2.1, h.far.2.2.1, by have := hg.size; have := h.far.2.2.2; simp only [World.setCell, Array.size_modify]; omega⟩⟩
  · rw [heap_setCell_same w1 b 1 _ _ v' hb1]
    rfl
  · exact h.nea j s hs
  · rcases hw with e | e
    · rw [e]; exact h.nea j s hs
    · rw [e]
      rcases hv : s.1.ownBlock with _ | g
      · exact .inl rfl
      · refine .inr fun e2 => ?_
        have := ((h.rows j s hs).lt g hv).2
        have e3 : g = w.heap.size := by simpa using e2
        omega
theorem CellsAt.moreB (h : CellsAt w base b gc n R va ah) {w1 : World} (v' : Value) (hg : w.grownBy w1 va.ownBlock) : Below b w (w1.setCell ⟨b, 1, none⟩ v') := by
  refine ((Below.refl b w).grown hg (Nat.le_of_lt (hp_lt h.hb)) fun k e => ?_).setCell (p := ⟨b, 1, none⟩) (Nat.le_refl _) v'
  have := ((h.arow.lt k e).1)
  have := h.far.1
  omega
theorem CellsAt.moreK (h : CellsAt w base b gc n R va ah) {w1 : World} (v' : Value) (hg : w.grownBy w1 va.ownBlock) : KeepsOthers w (w1.setCell ⟨b, 1, none⟩ v') := by
  refine (KeepsOthers.of_grownBy hg fun j o e hj => ?_).trans (KeepsOthers.setCell _ _ _)
  rcases h.arow.2 with ⟨e2, _⟩ | ⟨g, cap, cur, e2, _, hgb, _⟩
  · rw [e2] at e; simp [Value.ownBlock] at e
  · rw [e2] at e
    obtain rfl : g = j := by simpa [Value.ownBlock] using e
    rw [hgb] at hj; cases hj; rfl
theorem CellsAt.moreP (_ : CellsAt w base b gc n R va ah) {w1 : World} (v' : Value) (hg : w.grownBy w1 va.ownBlock) {k : Nat} (hk : k < w.heap.size) (h1 : k ≠ b) (h2 : some k ≠ va.ownBlock) : (w1.setCell ⟨b, 1, none⟩ v').heap[k]? = w.heap[k]? :=
  (hp_far h1 _ _).trans (hg.block k hk h2)
theorem CellsAt.moreT (h : CellsAt w base b gc n R va ah) {w1 : World} (v' : Value) (hg : w.grownBy w1 va.ownBlock) : KeepT b w (w1.setCell ⟨b, 1, none⟩ v') := fun k cs t h1 h2 h3 => by
  refine (h.moreP v' hg (hp_lt h3) h1 fun e => ?_).trans h3
  rcases h.arow.2 with ⟨e2, _⟩ | ⟨g, cap, cur, e2, _, hgb, _⟩
  · rw [e2] at e; simp [Value.ownBlock] at e
  · rw [e2] at e
    obtain rfl : k = g := by simpa [Value.ownBlock] using e
    rw [hgb] at h3
    simp at h3
    exact h2 h3.2.symm
end
end Go.Proofs.Ytcbiaeeifclieaa
