/- slices.Backward at []int: what the iterator does, whatever the loop's body (after the guide's worked text on slices.All); join's Ahead. -/
import Derived.RangeFuncBox
import Derived.RangeFuncLeaves
import Derived.Shelf.Abstract
import Derived.WalkKit
import Derived.OwnWalkIn
import Derived.TacticsInMore
import Derived.LoopNIn
import Derived.LoopIn
import Derived.Test.YtcjcimdembkbkaaJnP2
namespace Go.Proofs.Ytcjcimdembkbkaa
open Go.RowKit Go.Shelf

attribute [local go_sem] Oper.semAt_some

/-- What has come when k rounds are over. -/
def bkUpto (zs : List Int) (len k : Nat) : List (Nat × Int) := (List.range k).map fun j => (len - 1 - j, zs.getD (len - 1 - j) 0)
theorem bkUpto_succ (zs : List Int) (len k : Nat) : bkUpto zs len (k + 1) = bkUpto zs len k ++ [(len - 1 - k, zs.getD (len - 1 - k) 0)] := by simp [bkUpto, List.range_succ]
theorem bkUpto_len (zs : List Int) (len k : Nat) : (bkUpto zs len k).length = k := by simp [bkUpto]
set_option maxRecDepth 100000 in
set_option maxHeartbeats 2000000 in
theorem back1_in (F : Fence) (n : Nat) (hf : F.fn 57) (hro : F.round = none) (hn : 1 ≤ n) (l Bs n₀ len cap : Nat) (ad : Addr) (zs : List Int) (hlen : len ≤ 1000000) (hz : zs.length = len) (hb : ad.block < n₀) (hBl : Bs < n₀) (J Jx : List (Nat × Int) → World → Prop)
    (hY : ∀ pre x W, J pre W → pre.length < len → YieldAt F (n - 1) Try.prog l #[.int .i64 (x.1 : Int), .int .i64 x.2] W fun e W' =>
      (e = .returned (.bool true) ∧ J (pre ++ [x]) W' ∧ Below n₀ W W') ∨ (e = .returned (.bool false) ∧ Jx (pre ++ [x]) W'))
    (W : World) (hBs : W.cell? ⟨Bs, 0, none⟩ = some (.slice (some ad) len cap)) (hc : ∀ j u, zs[j]? = some u → W.cell? (ad.add j) = some (.int .i64 u)) (h0 : J [] W) :
    CallsIn F n Try.prog 57 #[.func (.yield l) #[] #[], .pointer (some ⟨Bs, 0, none⟩)] W fun e W' => (∃ v, e = .returned v) ∧
      ((∃ ys, ys = bkUpto zs len len ∧ J ys W') ∨ (∃ pre, (∃ k, k ≤ len ∧ pre = bkUpto zs len k) ∧ Jx pre W')) := by
  refine callsIn_of_wp Try.func57 rfl hf ?_ hro
  simp only [Try.ntmps57, List.size_toArray, List.length_cons, List.length_nil, Nat.reduceAdd, Nat.reduceSub, Array.replicate_succ, Array.replicate_zero, List.push_toArray, List.append_toArray, List.nil_append, List.cons_append]
  gi_wp2
  gi_loopw [3] (fun i wr => ∃ m k : Nat, m + k = len ∧ i = .int .i64 ((m : Int) - 1) ∧ J (bkUpto zs len k) wr ∧ Below n₀ W wr)
    (fun i _ => (intOf i + 1).toNat)
  case atStart => exact ⟨len, 0, rfl, rfl, h0, Below.refl _ _⟩
  case round =>
    obtain ⟨m, k, hk, rfl, hJs, hnx⟩ := hrel
    have hBr : wr.cell? ⟨Bs, 0, none⟩ = some (.slice (some ad) len cap) := (hnx.cell (p := ⟨Bs, 0, none⟩) hBl).trans hBs
    cases m with
    | succ m =>
      obtain ⟨x, hx⟩ : ∃ x, zs[m]? = some x := ⟨_, List.getElem?_eq_getElem (by omega)⟩
      have hcx : wr.cell? (ad.add m) = some (.int .i64 x) := (hnx.cell (p := ad.add m) (by rw [blockAdd]; exact hb)).trans (hc m x hx)
      obtain ⟨fn, tmps, assign, body, hy, hR⟩ := hY _ (m, x) wr hJs (by rw [bkUpto_len]; omega)
      dsimp only at hy
      have e1 : ((m + 1 : Nat) : Int) - 1 = (m : Int) := by omega
      have e2 : bkUpto zs len (k + 1) = bkUpto zs len k ++ [(m, x)] := by
        rw [bkUpto_succ, show len - 1 - k = m by omega]
        simp [hx]
      rw [e1]
      rw [← e2] at hR
      clear e1 hx
      gi_wp2
      refine hR.mono ?_
      rintro e W3 (⟨rfl, hJ3, hk3⟩ | ⟨rfl, hJx3⟩)
      · gi_wp2
        go_roundw
        case rel => exact ⟨m, k + 1, by omega, by go_num, hJ3, hnx.trans hk3⟩
        case measure => simp [intOf] <;> omega
      · gi_wp2
        refine bodyPost_ret (results_none rfl _ _ _) rfl ?_
        exact ⟨⟨_, rfl⟩, .inr ⟨_, ⟨k + 1, by omega, rfl⟩, hJx3⟩⟩
    | zero =>
      obtain rfl : k = len := by omega
      gi_wp2
      go_end0
      exact ⟨⟨_, rfl⟩, .inl ⟨_, rfl, hJs⟩⟩
set_option maxHeartbeats 1000000 in
theorem back_in (F : Fence) (n : Nat) (hf : F.fn 44) (hro : F.round = none) (a : Option Addr) (len cap : Nat) (w : World) :
    CallsIn F n Try.prog 44 #[.slice a len cap] w fun e w' => e = .returned (.func (.func 57) #[] #[.pointer (some ⟨w.heap.size, 0, none⟩)]) ∧ w' = w.alloc (.cells #[.slice a len cap] 22) := by
  refine callsIn_of_wp Try.func44 rfl hf ?_ hro
  simp only [Try.ntmps44, List.size_toArray, List.length_cons, List.length_nil, Nat.reduceAdd, Nat.reduceSub, Array.replicate_succ, Array.replicate_zero, List.push_toArray, List.append_toArray, List.nil_append, List.cons_append]
  gi_wp2
  go_ret
  exact ⟨rfl, rfl⟩
/-- slices.Backward(s) hands back a value that stops, at 'what lay below n₀ lies as it lay'. -/
theorem back_stops (F : Fence) (n : Nat) (hf : F.fn 57) (hro : F.round = none) (hn : 1 ≤ n) (Bs n₀ len cap : Nat) (ad : Addr) (zs : List Int) (hlen : len ≤ 1000000) (hz : zs.length = len) (hb : ad.block < n₀) (hBl : Bs < n₀) (w : World) (hn₀ : n₀ ≤ w.heap.size)
    (hBs : w.cell? ⟨Bs, 0, none⟩ = some (.slice (some ad) len cap)) (hc : ∀ j u, zs[j]? = some u → w.cell? (ad.add j) = some (.int .i64 u)) :
    SeqStopsK F n Try.prog 57 #[.pointer (some ⟨Bs, 0, none⟩)] (fun x : Nat × Int => #[Value.int .i64 (x.1 : Int), Value.int .i64 x.2]) (Below n₀) (fun ys => ys = bkUpto zs len len)
      (fun pre => ∃ k, k ≤ len ∧ pre = bkUpto zs len k) len w := fun l J Jx W hW _ _ hY h0 =>
  back1_in F n hf hro hn l Bs n₀ len cap ad zs hlen hz hb hBl J Jx hY W ((hW.cell (p := ⟨Bs, 0, none⟩) (show Bs < w.heap.size by omega)).trans hBs) (fun j u hj => (hW.cell (p := ad.add j) (by rw [blockAdd]; omega)).trans (hc j u hj)) h0

/-- What the loop of Ahead has seen: places from the end on that are passed over. -/
theorem bk_all {zs : List Int} {len k : Nat} (hz : zs.length = len) (hk : k ≤ len) (h : ∀ p ∈ bkUpto zs len k, p.2 = 1) {j : Nat} (h1 : len - k ≤ j) (h2 : j < len) : zs[j]? = some 1 := by
  have := h (len - 1 - (len - 1 - j), zs.getD (len - 1 - (len - 1 - j)) 0) (by
    simp only [bkUpto, List.mem_map, List.mem_range]
    exact ⟨len - 1 - j, by omega, rfl⟩)
  rw [show len - 1 - (len - 1 - j) = j by omega] at this
  simp only [List.getD_eq_getElem?_getD] at this
  rw [List.getElem?_eq_getElem (by omega)] at this ⊢
  simpa using this
set_option maxRecDepth 100000 in
set_option maxHeartbeats 2000000 in
theorem jnAhead_in
    (ad : Addr) (m c k0 : Nat) (ts : List Int) (v : Int) (w : World) (hv : jLast ts k0 = v) (hr : Rd w 1 (some ad) m (ts.map (Value.int .i64))) (hm : m ≤ 1000000) (hmc : m ≤ c) (hk : k0 < m) (hab : ad.block < w.heap.size) :
    CallsIn Fence.wide 5 Try.prog 15 #[.slice (some ad) m c, .int .i64 (k0 : Int)] w fun e W' => e = .returned (.int .i64 v) ∧ Below w.heap.size w W' := by
  have hlen : ts.length = m := by simpa using hr.len1
  obtain ⟨zs, hzs⟩ : ∃ zs, ts.take k0 = zs := ⟨_, rfl⟩
  have hz : zs.length = k0 := by rw [← hzs, List.length_take]; omega
  have hzt : ∀ (j : Nat) (u : Int), zs[j]? = some u → ts[j]? = some u := by
    intro j u hj
    have hj' := (List.getElem?_eq_some_iff.1 hj).1
    rwa [← hzs, List.getElem?_take_of_lt (by omega)] at hj
  have hcs : ∀ (j : Nat) (u : Int), zs[j]? = some u → w.cell? (ad.add j) = some (.int .i64 u) := fun j u hj => hr.news j _ (by rw [List.getElem?_map, hzt j u hj]; rfl)
  refine callsIn_of_wp_marks Try.func15 rfl trivial ?_ rfl
  simp only [Try.ntmps15, List.size_toArray, List.length_cons, List.length_nil, Nat.reduceAdd, Nat.reduceSub, Array.replicate_succ, Array.replicate_zero, List.push_toArray, List.append_toArray, List.nil_append, List.cons_append]
  gi_wp2_with (first
    | (refine ⟨trivial, ?_⟩; gi_at_call 43; refine (callsIn_wide.2 (jnHas_of _ _ _ _ true (decide_eq_true ⟨by omega, by omega⟩) _)).mono ?_; rintro e w' ⟨rfl, rfl⟩)
    | (refine ⟨trivial, ?_⟩; gi_at_call 44; refine (back_in Fence.wide (5 - 1) trivial rfl _ _ _ _).mono ?_; rintro e w' ⟨rfl, rfl⟩)
    | fail)
  have bR := Boxed.new w 3 (.int .i64 0)
  have bN := Boxed.new (w.alloc (.cells #[.int .i64 0] 3)) 22 (.slice (some ad) k0 c)
  rw [World.size_alloc] at bN
  have hB0 : Below w.heap.size w ((w.alloc (.cells #[.int .i64 0] 3)).alloc (.cells #[.slice (some ad) k0 c] 22)) := ((Below.refl _ w).alloc (Nat.le_refl _) _).alloc (by simp) _
  refine wpIn_rangeFunc_ownG rfl (by omega) (gf := 57) (lb := #[.pointer (some ⟨w.heap.size + 1, 0, none⟩)]) rfl trivial (enters_of Try.func57 (by kernel_rfl) rfl)
    (back_stops Fence.wide (5 - 1) trivial rfl (by omega) (w.heap.size + 1) (w.heap.size + 2) k0 c ad zs (by omega) hz (by omega) (by omega) _ (by simp) bN.cell (fun j u hj => (hB0.cell (p := ad.add j) (by rw [blockAdd]; exact hab)).trans (hcs j u hj))) belowK_t (belowK_b (by simp)) (Below.refl _ _) (fun _ => rfl)
    (fun pre W => ((∀ p ∈ pre, p.2 = 1) ∧ W.cell? ⟨w.heap.size, 0, none⟩ = some (.int .i64 0) ∧ W.frozen? ⟨w.heap.size, 0, none⟩ = false) ∧ Below w.heap.size w W)
    (fun c pre W => (c = .ret ∧ ∃ ini last, pre = ini ++ [last] ∧ (∀ p ∈ ini, p.2 = 1) ∧ last.2 ≠ 1 ∧ W.cell? ⟨w.heap.size, 0, none⟩ = some (.int .i64 (last.1 : Int))) ∧ Below w.heap.size w W)
    (OwnFrom.and (Own.from (fun s A B row hs hg hr => ⟨hs.1, cell_kept hs.2.1 hg hr, (frozen_kept hs.2.1 hg hr).trans hs.2.2⟩) _) (ownFrom_below (Nat.le_refl _) (by simp; omega)))
    (fun c => OwnFrom.and (Own.from (fun s A B row hs hg hr => by obtain ⟨hc, ini, last, e1, e2, e3, e4⟩ := hs; exact ⟨hc, ini, last, e1, e2, e3, cell_kept e4 hg hr⟩) _) (ownFrom_below (Nat.le_refl _) (by simp; omega)))
    ⟨⟨by simp, (bR.alloc _).cell, (bR.alloc _).frozen⟩, hB0⟩
    (fun x => { tmps := #[.slice (some ad) m c, .int .i64 k0, undef, undef, .pointer (some ⟨w.heap.size, 0, none⟩), .int .i64 (x.1 : Int), .int .i64 x.2, .slice (some ad) m c, .int .i64 k0, .bool true, .bool false, .slice (some ad) m c, .int .i64 k0, .slice (some ad) k0 c, .func (.func 57) #[] #[.pointer (some ⟨w.heap.size + 1, 0, none⟩)], .int .i64 (x.1 : Int), .int .i64 x.2, undef, undef, undef], defers := [] }) ?assign ?body ?done ?stop
  case assign =>
    intro l x W K hK
    gi_wp2
    exact hK
  case body =>
    rintro l pre ⟨x1, x2⟩ W ⟨⟨hp, hcr, hfr⟩, hB⟩ _
    by_cases hx : x2 = 1
    · subst hx
      gi_wp2
      exact ⟨KeepsFrom.refl _ _, Below.refl _ _, ⟨fun p hp' => (List.mem_append.1 hp').elim (hp p) (fun e => by simp at e; subst e; rfl), hcr, hfr⟩, hB⟩
    · have g1 : (x2 != 1) = true := by simp [hx]
      gi_wp2
      exact ⟨(KeepsOthers.setCell _ _ _).from _, ⟨rfl, pre, (x1, x2), rfl, hp, hx, World.cell?_setCell_same' _ _ _ (by rw [hcr]; rfl)⟩, hB.setCell (p := ⟨w.heap.size, 0, none⟩) (Nat.le_refl _) _⟩
  case done =>
    rintro D ys W hD rfl ⟨⟨hne, hcr, hfr⟩, hB⟩ hK
    gi_wp2
    have hK' := (KeepsOthers.setCell W ⟨w.heap.size, 0, none⟩ (.int .i64 (-1))).same D _ hK rfl
    refine ⟨by simp, .inl ⟨_, _, rfl, run_takeDeferred hK', ?_⟩⟩
    have hc5 := cell_kept (World.cell?_setCell_same' W ⟨w.heap.size, 0, none⟩ (.int .i64 (-1)) (by rw [hcr]; rfl)) (grownBy_putObj' _ D (.deferred none)) (fun r e => by cases e; exact ⟨_, hK', rfl⟩)
    have hv' : v = -1 := by
      rw [← hv, jLast_back (Nat.zero_le k0) (fun j _ h2 => hzt j 1 (bk_all hz (Nat.le_refl _) hne (by omega) h2))]
      rfl
    refine ⟨.int .i64 (-1), ?_, by rw [hv'], (hB.setCell (p := ⟨w.heap.size, 0, none⟩) (Nat.le_refl _) _).trans (belowK_b (w := w) (Nat.le_refl _) _ D _ _ (by simp at hD; omega) hK' rfl rfl)⟩
    simp [results, Try.f15, go_sem, hc5]
  case stop =>
    rintro D c pre W hD ⟨k, hk', rfl⟩ ⟨⟨rfl, ini, last, e1, e2, e3, hcr⟩, hB⟩ hK
    gi_wp2
    refine ⟨by simp, .inl ⟨_, _, rfl, run_takeDeferred hK, ?_⟩⟩
    have hc5 := cell_kept hcr (grownBy_putObj' _ D (.deferred none)) (fun r e => by cases e; exact ⟨_, hK, rfl⟩)
    obtain ⟨k', rfl⟩ : ∃ k', k = k' + 1 := by
      cases k with
      | zero => simp [bkUpto] at e1
      | succ k' => exact ⟨k', rfl⟩
    rw [bkUpto_succ] at e1
    obtain ⟨rfl, e5⟩ := List.append_inj' e1 rfl
    obtain rfl : (k0 - 1 - k', zs.getD (k0 - 1 - k') 0) = last := by simpa using e5
    have hin : zs[k0 - 1 - k']? = some (zs.getD (k0 - 1 - k') 0) := by
      rw [List.getElem?_eq_getElem (by omega)]
      simp [List.getElem?_eq_getElem (show k0 - 1 - k' < zs.length by omega)]
    have hv' : v = ((k0 - 1 - k' : Nat) : Int) := by
      rw [← hv, jLast_back (k := k0 - 1 - k' + 1) (by omega) (fun j h1 h2 => hzt j 1 (bk_all hz (by omega) e2 (by omega) h2))]
      exact jLast_hit (hzt _ _ hin) e3
    refine ⟨.int .i64 ((k0 - 1 - k' : Nat) : Int), ?_, by rw [hv'], hB.trans (belowK_b (w := w) (Nat.le_refl _) W D _ _ (by simp at hD; omega) hK rfl rfl)⟩
    simp [results, Try.f15, go_sem, hc5]
end Go.Proofs.Ytcjcimdembkbkaa
