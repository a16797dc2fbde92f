/- Texts of one claim, one behind the other. -/
import Derived.RangeFuncBox
import Derived.RangeFuncLeaves
import Derived.Shelf.Abstract
import Derived.WalkKit
import Derived.OwnWalkIn
import Derived.TacticsInMore
import Derived.LoopNIn
import Derived.LoopIn
import Derived.Test.YtdgomaoikeffhaaGreatMgAp1
/- slices.Backward at []int: what the iterator does, whatever the loop's body. -/
namespace Go.Proofs.YtdgomaoikeffhaaGreat
open Go.RowKit Go.Shelf

attribute [local go_sem] Oper.semAt_some

/-- What has come when k rounds are over. -/
def bkUpto (zs : List Int) (len k : Nat) : List (Nat × Int) := (List.range k).map fun j => (len - 1 - j, zs.getD (len - 1 - j) 0)
theorem bkUpto_succ (zs : List Int) (len k : Nat) : bkUpto zs len (k + 1) = bkUpto zs len k ++ [(len - 1 - k, zs.getD (len - 1 - k) 0)] := by simp [bkUpto, List.range_succ]
theorem bkUpto_len (zs : List Int) (len k : Nat) : (bkUpto zs len k).length = k := by simp [bkUpto]
set_option maxRecDepth 100000 in
set_option maxHeartbeats 2000000 in
theorem back1_in (F : Fence) (n : Nat) (hf : F.fn 30) (hro : F.round = none) (hn : 1 ≤ n) (l Bs n₀ len cap : Nat) (ad : Addr) (zs : List Int) (hlen : len ≤ 1000000) (hz : zs.length = len) (hb : ad.block < n₀) (hBl : Bs < n₀) (J Jx : List (Nat × Int) → World → Prop)
    (hY : ∀ pre x W, J pre W → pre.length < len → YieldAt F (n - 1) Tryz.prog l #[.int .i64 (x.1 : Int), .int .i64 x.2] W fun e W' =>
      (e = .returned (.bool true) ∧ J (pre ++ [x]) W' ∧ Below n₀ W W') ∨ (e = .returned (.bool false) ∧ Jx (pre ++ [x]) W'))
    (W : World) (hBs : W.cell? ⟨Bs, 0, none⟩ = some (.slice (some ad) len cap)) (hc : ∀ j u, zs[j]? = some u → W.cell? (ad.add j) = some (.int .i64 u)) (h0 : J [] W) :
    CallsIn F n Tryz.prog 30 #[.func (.yield l) #[] #[], .pointer (some ⟨Bs, 0, none⟩)] W fun e W' => (∃ v, e = .returned v) ∧
      ((∃ ys, ys = bkUpto zs len len ∧ J ys W') ∨ (∃ pre, (∃ k, k ≤ len ∧ pre = bkUpto zs len k) ∧ Jx pre W')) := by
  refine callsIn_of_wp Tryz.func30 rfl hf ?_ hro
  simp only [Tryz.ntmps30, List.size_toArray, List.length_cons, List.length_nil, Nat.reduceAdd, Nat.reduceSub, Array.replicate_succ, Array.replicate_zero, List.push_toArray, List.append_toArray, List.nil_append, List.cons_append]
  gi_wp2
  gi_loopw [3] (fun i wr => ∃ m k : Nat, m + k = len ∧ i = .int .i64 ((m : Int) - 1) ∧ J (bkUpto zs len k) wr ∧ Below n₀ W wr)
    (fun i _ => (intOf i + 1).toNat)
  case atStart => exact ⟨len, 0, rfl, rfl, h0, Below.refl _ _⟩
  case round =>
    obtain ⟨m, k, hk, rfl, hJs, hnx⟩ := hrel
    have hBr : wr.cell? ⟨Bs, 0, none⟩ = some (.slice (some ad) len cap) := (hnx.cell (p := ⟨Bs, 0, none⟩) hBl).trans hBs
    cases m with
    | succ m =>
      obtain ⟨x, hx⟩ : ∃ x, zs[m]? = some x := ⟨_, List.getElem?_eq_getElem (by omega)⟩
      have hcx : wr.cell? (ad.add m) = some (.int .i64 x) := (hnx.cell (p := ad.add m) (by rw [blockAdd]; exact hb)).trans (hc m x hx)
      obtain ⟨fn, tmps, assign, body, hy, hR⟩ := hY _ (m, x) wr hJs (by rw [bkUpto_len]; omega)
      dsimp only at hy
      have e1 : ((m + 1 : Nat) : Int) - 1 = (m : Int) := by omega
      have e2 : bkUpto zs len (k + 1) = bkUpto zs len k ++ [(m, x)] := by
        rw [bkUpto_succ, show len - 1 - k = m by omega]
        simp [hx]
      rw [e1]
      rw [← e2] at hR
      clear e1 hx
      gi_wp2
      refine hR.mono ?_
      rintro e W3 (⟨rfl, hJ3, hk3⟩ | ⟨rfl, hJx3⟩)
      · gi_wp2
        go_roundw
        case rel => exact ⟨m, k + 1, by omega, by go_num, hJ3, hnx.trans hk3⟩
        case measure => simp [intOf] <;> omega
      · gi_wp2
        refine bodyPost_ret (results_none rfl _ _ _) rfl ?_
        exact ⟨⟨_, rfl⟩, .inr ⟨_, ⟨k + 1, by omega, rfl⟩, hJx3⟩⟩
    | zero =>
      obtain rfl : k = len := by omega
      gi_wp2
      go_end0
      exact ⟨⟨_, rfl⟩, .inl ⟨_, rfl, hJs⟩⟩
set_option maxHeartbeats 1000000 in
theorem back_in (F : Fence) (n : Nat) (hf : F.fn 15) (hro : F.round = none) (a : Option Addr) (len cap : Nat) (w : World) :
    CallsIn F n Tryz.prog 15 #[.slice a len cap] w fun e w' => e = .returned (.func (.func 30) #[] #[.pointer (some ⟨w.heap.size, 0, none⟩)]) ∧ w' = w.alloc (.cells #[.slice a len cap] 22) := by
  refine callsIn_of_wp Tryz.func15 rfl hf ?_ hro
  simp only [Tryz.ntmps15, List.size_toArray, List.length_cons, List.length_nil, Nat.reduceAdd, Nat.reduceSub, Array.replicate_succ, Array.replicate_zero, List.push_toArray, List.append_toArray, List.nil_append, List.cons_append]
  gi_wp2
  go_ret
  exact ⟨rfl, rfl⟩
/-- slices.Backward(s) hands back a value that stops, at 'what lay below n₀ lies as it lay'. -/
theorem back_stops (F : Fence) (n : Nat) (hf : F.fn 30) (hro : F.round = none) (hn : 1 ≤ n) (Bs n₀ len cap : Nat) (ad : Addr) (zs : List Int) (hlen : len ≤ 1000000) (hz : zs.length = len) (hb : ad.block < n₀) (hBl : Bs < n₀) (w : World) (hn₀ : n₀ ≤ w.heap.size)
    (hBs : w.cell? ⟨Bs, 0, none⟩ = some (.slice (some ad) len cap)) (hc : ∀ j u, zs[j]? = some u → w.cell? (ad.add j) = some (.int .i64 u)) :
    SeqStopsK F n Tryz.prog 30 #[.pointer (some ⟨Bs, 0, none⟩)] (fun x : Nat × Int => #[Value.int .i64 (x.1 : Int), Value.int .i64 x.2]) (Below n₀) (fun ys => ys = bkUpto zs len len)
      (fun pre => ∃ k, k ≤ len ∧ pre = bkUpto zs len k) len w := fun l J Jx W hW _ _ hY h0 =>
  back1_in F n hf hro hn l Bs n₀ len cap ad zs hlen hz hb hBl J Jx hY W ((hW.cell (p := ⟨Bs, 0, none⟩) (show Bs < w.heap.size by omega)).trans hBs) (fun j u hj => (hW.cell (p := ad.add j) (by rw [blockAdd]; omega)).trans (hc j u hj)) h0

/-- What the loop of Ahead has seen: places from the end on that are passed over. -/
theorem bk_all {zs : List Int} {len k : Nat} (hz : zs.length = len) (hk : k ≤ len) (h : ∀ p ∈ bkUpto zs len k, p.2 = 1) {j : Nat} (h1 : len - k ≤ j) (h2 : j < len) : zs[j]? = some 1 := by
  have := h (len - 1 - (len - 1 - j), zs.getD (len - 1 - (len - 1 - j)) 0) (by
    simp only [bkUpto, List.mem_map, List.mem_range]
    exact ⟨len - 1 - j, by omega, rfl⟩)
  rw [show len - 1 - (len - 1 - j) = j by omega] at this
  simp only [List.getD_eq_getElem?_getD] at this
  rw [List.getElem?_eq_getElem (by omega)] at this ⊢
  simpa using this
end Go.Proofs.YtdgomaoikeffhaaGreat
/- slices.Backward at []brack.begun: what the iterator does, whatever the loop's body; the last one that knows a bracket. -/
namespace Go.Proofs.YtdgomaoikeffhaaGreat
open Go.RowKit Go.Shelf

attribute [local go_sem] Oper.semAt_some

/-- What has come when k rounds are over. -/
def bgUpto (zs : List Sp) (len k : Nat) : List (Nat × Sp) := (List.range k).map fun j => (len - 1 - j, zs.getD (len - 1 - j) (0, 0))
theorem bgUpto_succ (zs : List Sp) (len k : Nat) : bgUpto zs len (k + 1) = bgUpto zs len k ++ [(len - 1 - k, zs.getD (len - 1 - k) (0, 0))] := by simp [bgUpto, List.range_succ]
theorem bgUpto_len (zs : List Sp) (len k : Nat) : (bgUpto zs len k).length = k := by simp [bgUpto]
set_option maxRecDepth 100000 in
set_option maxHeartbeats 2000000 in
theorem bgck1_in (F : Fence) (n : Nat) (hf : F.fn 124) (hro : F.round = none) (hn : 1 ≤ n) (l Bs n₀ len cap : Nat) (A : Option Addr) (zs : List Sp) (hlen : len ≤ 1000000) (hz : zs.length = len) (hBl : Bs < n₀) (J Jx : List (Nat × Sp) → World → Prop)
    (hY : ∀ pre x W, J pre W → pre.length < len → YieldAt F (n - 1) Tryz.prog l #[.int .i64 (x.1 : Int), .agg #[.int .i64 x.2.1, .int .i64 x.2.2]] W fun e W' =>
      (e = .returned (.bool true) ∧ J (pre ++ [x]) W' ∧ Below n₀ W W') ∨ (e = .returned (.bool false) ∧ Jx (pre ++ [x]) W'))
    (W : World) (hBs : W.cell? ⟨Bs, 0, none⟩ = some (.slice A len cap)) (hc : ∀ j u, zs[j]? = some u → ∃ ad, A = some ad ∧ ad.block < n₀ ∧ W.cell? (ad.add (j * 2)) = some (.int .i64 u.1) ∧ W.cell? ⟨(ad.add (j * 2)).block, (ad.add (j * 2)).off + 1, none⟩ = some (.int .i64 u.2)) (h0 : J [] W) :
    CallsIn F n Tryz.prog 124 #[.func (.yield l) #[] #[], .pointer (some ⟨Bs, 0, none⟩)] W fun e W' => (∃ v, e = .returned v) ∧
      ((∃ ys, ys = bgUpto zs len len ∧ J ys W') ∨ (∃ pre, (∃ k, k ≤ len ∧ pre = bgUpto zs len k) ∧ Jx pre W')) := by
  refine callsIn_of_wp Tryz.func124 rfl hf ?_ hro
  simp only [Tryz.ntmps124, List.size_toArray, List.length_cons, List.length_nil, Nat.reduceAdd, Nat.reduceSub, Array.replicate_succ, Array.replicate_zero, List.push_toArray, List.append_toArray, List.nil_append, List.cons_append]
  gi_wp2
  gi_loopw [3] (fun i wr => ∃ m k : Nat, m + k = len ∧ i = .int .i64 ((m : Int) - 1) ∧ J (bgUpto zs len k) wr ∧ Below n₀ W wr)
    (fun i _ => (intOf i + 1).toNat)
  case atStart => exact ⟨len, 0, rfl, rfl, h0, Below.refl _ _⟩
  case round =>
    obtain ⟨m, k, hk, rfl, hJs, hnx⟩ := hrel
    have hBr : wr.cell? ⟨Bs, 0, none⟩ = some (.slice A len cap) := (hnx.cell (p := ⟨Bs, 0, none⟩) hBl).trans hBs
    cases m with
    | succ m =>
      obtain ⟨x, hx⟩ : ∃ x, zs[m]? = some x := ⟨_, List.getElem?_eq_getElem (by omega)⟩
      obtain ⟨x1, x2⟩ := x
      obtain ⟨ad, rfl, hb, d1, d2⟩ := hc m _ hx
      have hbb : (ad.add (m * 2)).block < n₀ := by rw [blockAdd]; exact hb
      have hcx := (hnx.cell (p := ad.add (m * 2)) hbb).trans d1
      have hcy := (hnx.cell (p := ⟨(ad.add (m * 2)).block, (ad.add (m * 2)).off + 1, none⟩) hbb).trans d2
      simp only at hcx hcy
      clear d1 d2 hbb
      obtain ⟨fn, tmps, assign, body, hy, hR⟩ := hY _ (m, (x1, x2)) wr hJs (by rw [bgUpto_len]; omega)
      dsimp only at hy
      have e1 : ((m + 1 : Nat) : Int) - 1 = (m : Int) := by omega
      have e2 : bgUpto zs len (k + 1) = bgUpto zs len k ++ [(m, (x1, x2))] := by
        rw [bgUpto_succ, show len - 1 - k = m by omega]
        simp [hx]
      rw [e1]
      rw [← e2] at hR
      clear e1 hx
      gi_wp2
      refine hR.mono ?_
      rintro e W3 (⟨rfl, hJ3, hk3⟩ | ⟨rfl, hJx3⟩)
      · gi_wp2
        go_roundw
        case rel => exact ⟨m, k + 1, by omega, by go_num, hJ3, hnx.trans hk3⟩
        case measure => simp [intOf] <;> omega
      · gi_wp2
        refine bodyPost_ret (results_none rfl _ _ _) rfl ?_
        exact ⟨⟨_, rfl⟩, .inr ⟨_, ⟨k + 1, by omega, rfl⟩, hJx3⟩⟩
    | zero =>
      obtain rfl : k = len := by omega
      gi_wp2
      go_end0
      exact ⟨⟨_, rfl⟩, .inl ⟨_, rfl, hJs⟩⟩
set_option maxHeartbeats 1000000 in
theorem bgck_in (F : Fence) (n : Nat) (hf : F.fn 113) (hro : F.round = none) (a : Option Addr) (len cap : Nat) (w : World) :
    CallsIn F n Tryz.prog 113 #[.slice a len cap] w fun e w' => e = .returned (.func (.func 124) #[] #[.pointer (some ⟨w.heap.size, 0, none⟩)]) ∧ w' = w.alloc (.cells #[.slice a len cap] 141) := by
  refine callsIn_of_wp Tryz.func113 rfl hf ?_ hro
  simp only [Tryz.ntmps113, List.size_toArray, List.length_cons, List.length_nil, Nat.reduceAdd, Nat.reduceSub, Array.replicate_succ, Array.replicate_zero, List.push_toArray, List.append_toArray, List.nil_append, List.cons_append]
  gi_wp2
  go_ret
  exact ⟨rfl, rfl⟩
/-- slices.Backward(s) hands back a value that stops, at 'what lay below n₀ lies as it lay'. -/
theorem bgck_stops (F : Fence) (n : Nat) (hf : F.fn 124) (hro : F.round = none) (hn : 1 ≤ n) (Bs n₀ len cap : Nat) (A : Option Addr) (zs : List Sp) (hlen : len ≤ 1000000) (hz : zs.length = len) (hBl : Bs < n₀) (w : World) (hn₀ : n₀ ≤ w.heap.size)
    (hBs : w.cell? ⟨Bs, 0, none⟩ = some (.slice A len cap)) (hc : ∀ j u, zs[j]? = some u → ∃ ad, A = some ad ∧ ad.block < n₀ ∧ w.cell? (ad.add (j * 2)) = some (.int .i64 u.1) ∧ w.cell? ⟨(ad.add (j * 2)).block, (ad.add (j * 2)).off + 1, none⟩ = some (.int .i64 u.2)) :
    SeqStopsK F n Tryz.prog 124 #[.pointer (some ⟨Bs, 0, none⟩)] (fun x : Nat × Sp => #[Value.int .i64 (x.1 : Int), .agg #[.int .i64 x.2.1, .int .i64 x.2.2]]) (Below n₀) (fun ys => ys = bgUpto zs len len)
      (fun pre => ∃ k, k ≤ len ∧ pre = bgUpto zs len k) len w := fun l J Jx W hW _ _ hY h0 =>
  bgck1_in F n hf hro hn l Bs n₀ len cap A zs hlen hz hBl J Jx hY W ((hW.cell (p := ⟨Bs, 0, none⟩) (show Bs < w.heap.size by omega)).trans hBs) (fun j u hj => by
    obtain ⟨ad, e, hb, d1, d2⟩ := hc j u hj
    have hbb : (ad.add (j * 2)).block < w.heap.size := by rw [blockAdd]; omega
    exact ⟨ad, e, hb, (hW.cell (p := ad.add (j * 2)) hbb).trans d1, (hW.cell (p := ⟨(ad.add (j * 2)).block, (ad.add (j * 2)).off + 1, none⟩) hbb).trans d2⟩) h0

end Go.Proofs.YtdgomaoikeffhaaGreat
