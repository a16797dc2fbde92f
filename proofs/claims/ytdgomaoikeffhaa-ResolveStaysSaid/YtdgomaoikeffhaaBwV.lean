/- slices.Backward at []int: the body may write whatever is not the slice itself, and knows that each place is one of the slice. -/
import Derived.RangeFuncBox
import Derived.RangeFuncLeaves
import Derived.RangeFuncNested
import Derived.Shelf.Abstract
import Derived.WalkKit
import Derived.OwnWalkIn
import Derived.TacticsInMore
import Derived.LoopNIn
import Derived.LoopIn
import Derived.Test.YtdgomaoikeffhaaMem3
import Derived.Test.YtdgomaoikeffhaaRvD
namespace Go.Proofs.Ytdgomaoikeffhaa
open Go.RowKit Go.Shelf

attribute [local go_sem] Oper.semAt_some

/-- What the body must leave as it lay: the iterator's box, and what K says. -/
def KpV (Bs : Nat) (K : Nat → Prop) (W W' : World) : Prop := W'.heap[Bs]? = W.heap[Bs]? ∧ ∀ k, K k → W'.heap[k]? = W.heap[k]?
theorem KpV.refl (Bs : Nat) (K : Nat → Prop) (W : World) : KpV Bs K W W := ⟨rfl, fun _ _ => rfl⟩
theorem KpV.trans {Bs : Nat} {K : Nat → Prop} {A B C : World} (h : KpV Bs K A B) (k : KpV Bs K B C) : KpV Bs K A C := ⟨k.1.trans h.1, fun i hi => (k.2 i hi).trans (h.2 i hi)⟩
theorem KpV.put {Bs : Nat} {K : Nat → Prop} {w : World} (h1 : Bs < w.heap.size) (h2 : ∀ k, K k → k < w.heap.size) (W : World) (l : Nat) (o o' : Obj) (hl : w.heap.size ≤ l) (_ : W.heap[l]? = some o) (_ : o.isCells = false) (_ : o.isWalk = false) : KpV Bs K W (W.putObj l o') :=
  ⟨World.putObj_heap_other (by omega), fun k hk => World.putObj_heap_other (by have := h2 k hk; omega)⟩
theorem KpV.cell {Bs : Nat} {K : Nat → Prop} {p : Addr} (h1 : p.block ≠ Bs) (h2 : ¬ K p.block) (W : World) (v : Value) : KpV Bs K W (W.setCell p v) :=
  ⟨Below.heap_setCell W p v Bs (fun e => h1 e.symm), fun k hk => Below.heap_setCell W p v k (fun e => h2 (by rw [← e]; exact hk))⟩
abbrev Plc (len : Nat) := { k : Nat // k < len }
set_option maxRecDepth 100000 in
set_option maxHeartbeats 2000000 in
theorem backV1_in (F : Fence) (n : Nat) (hf : F.fn 32) (hro : F.round = none) (hn : 1 ≤ n) (l Bs : Nat) (K : Nat → Prop) (len cap : Nat) (A : Option Addr) (zs : List Int) (hlen : len ≤ 1000000) (hz : zs.length = len) (hgk : ∀ ad, A = some ad → 0 < len → K ad.block) (J Jx : List (Plc len) → World → Prop)
    (hY : ∀ pre x W, J pre W → pre.length < len → YieldAt F (n - 1) Try.prog l #[.int .i64 (x.1 : Int), .int .i64 (zs.getD x.1 0)] W fun e W' =>
      (e = .returned (.bool true) ∧ J (pre ++ [x]) W' ∧ KpV Bs K W W') ∨ (e = .returned (.bool false) ∧ Jx (pre ++ [x]) W'))
    (W : World) (hBs : W.cell? ⟨Bs, 0, none⟩ = some (.slice A len cap)) (hc : ∀ j u, zs[j]? = some u → ∃ ad, A = some ad ∧ W.cell? (ad.add j) = some (.int .i64 u)) (h0 : J [] W) :
    CallsIn F n Try.prog 32 #[.func (.yield l) #[] #[], .pointer (some ⟨Bs, 0, none⟩)] W fun e W' => (∃ v, e = .returned v) ∧
      ((∃ ys : List (Plc len), ys.map (·.1) = fromEnd len len ∧ J ys W') ∨ (∃ pre : List (Plc len), (∃ k, k ≤ len ∧ pre.map (·.1) = fromEnd len k) ∧ Jx pre W')) := by
  refine callsIn_of_wp Try.func32 rfl hf ?_ hro
  simp only [Try.ntmps32, List.size_toArray, List.length_cons, List.length_nil, Nat.reduceAdd, Nat.reduceSub, Array.replicate_succ, Array.replicate_zero, List.push_toArray, List.append_toArray, List.nil_append, List.cons_append]
  gi_wp2
  gi_loopw [3] (fun i wr => ∃ m k : Nat, m + k = len ∧ i = .int .i64 ((m : Int) - 1) ∧ (∃ pre : List (Plc len), pre.map (·.1) = fromEnd len k ∧ J pre wr) ∧ KpV Bs K W wr)
    (fun i _ => (intOf i + 1).toNat)
  case atStart => exact ⟨len, 0, rfl, rfl, ⟨[], rfl, h0⟩, KpV.refl _ _ _⟩
  case round =>
    obtain ⟨m, k, hk, rfl, ⟨pre, hpre, hJs⟩, hnx⟩ := hrel
    have hBr : wr.cell? ⟨Bs, 0, none⟩ = some (.slice A len cap) := (World.cell?_of_block hnx.1).trans hBs
    have hpl : pre.length = k := by have := congrArg List.length hpre; rwa [List.length_map, fromEnd_len] at this
    have HPL := Lib.hid hpl
    have HPRE := Lib.hid hpre
    clear hpl hpre
    cases m with
    | succ m =>
      obtain ⟨x, hx⟩ : ∃ x, zs[m]? = some x := ⟨_, List.getElem?_eq_getElem (by omega)⟩
      obtain ⟨ad, rfl, hcx0⟩ := hc m x hx
      have hcx : wr.cell? (ad.add m) = some (.int .i64 x) := (World.cell?_of_block (a := ad.add m) (by rw [blockAdd]; exact hnx.2 _ (hgk ad rfl (by omega)))).trans hcx0
      have hml : m < len := by omega
      obtain ⟨fn, tmps, assign, body, hy, hR⟩ := hY pre ⟨m, hml⟩ wr hJs (by rw [HPL.out]; omega)
      have hgx : zs.getD m 0 = x := by rw [List.getD_eq_getElem?_getD, hx]; rfl
      dsimp only at hy hR
      rw [hgx] at hy
      have e1 : ((m + 1 : Nat) : Int) - 1 = (m : Int) := by omega
      have HE2 := Lib.hid (show (pre ++ [(⟨m, hml⟩ : Plc len)]).map (·.1) = fromEnd len (k + 1) by
        rw [List.map_append, HPRE.out, fromEnd_succ, show len - 1 - k = m by omega]
        rfl)
      rw [e1]
      clear e1 hx hcx0 hgx
      gi_wp2
      refine hR.mono ?_
      rintro e W3 (⟨rfl, hJ3, hk3⟩ | ⟨rfl, hJx3⟩)
      · gi_wp2
        go_roundw
        case rel => exact ⟨m, k + 1, by omega, by go_num, ⟨_, HE2.out, hJ3⟩, hnx.trans hk3⟩
        case measure => simp [intOf] <;> omega
      · gi_wp2
        refine bodyPost_ret (results_none rfl _ _ _) rfl ?_
        exact ⟨⟨_, rfl⟩, .inr ⟨_, ⟨k + 1, by omega, HE2.out⟩, hJx3⟩⟩
    | zero =>
      obtain rfl : k = len := by omega
      gi_wp2
      go_end0
      exact ⟨⟨_, rfl⟩, .inl ⟨_, HPRE.out, hJs⟩⟩
set_option maxHeartbeats 1000000 in
theorem bvBack_in (F : Fence) (n : Nat) (hf : F.fn 22) (hro : F.round = none) (a : Option Addr) (len cap : Nat) (w : World) :
    CallsIn F n Try.prog 22 #[.slice a len cap] w fun e w' => e = .returned (.func (.func 32) #[] #[.pointer (some ⟨w.heap.size, 0, none⟩)]) ∧ w' = w.alloc (.cells #[.slice a len cap] 22) := by
  refine callsIn_of_wp Try.func22 rfl hf ?_ hro
  simp only [Try.ntmps22, List.size_toArray, List.length_cons, List.length_nil, Nat.reduceAdd, Nat.reduceSub, Array.replicate_succ, Array.replicate_zero, List.push_toArray, List.append_toArray, List.nil_append, List.cons_append]
  gi_wp2
  go_ret
  exact ⟨rfl, rfl⟩
theorem backV_stops (F : Fence) (n : Nat) (hf : F.fn 32) (hro : F.round = none) (hn : 1 ≤ n) (Bs : Nat) (K : Nat → Prop) (len cap : Nat) (A : Option Addr) (zs : List Int) (hlen : len ≤ 1000000) (hz : zs.length = len) (hgk : ∀ ad, A = some ad → 0 < len → K ad.block) (w : World) (hBl : Bs < w.heap.size) (hgl : ∀ k, K k → k < w.heap.size)
    (hBs : w.cell? ⟨Bs, 0, none⟩ = some (.slice A len cap)) (hc : ∀ j u, zs[j]? = some u → ∃ ad, A = some ad ∧ w.cell? (ad.add j) = some (.int .i64 u)) :
    SeqStopsK F n Try.prog 32 #[.pointer (some ⟨Bs, 0, none⟩)] (fun x : Plc len => #[Value.int .i64 (x.1 : Int), Value.int .i64 (zs.getD x.1 0)]) (KpV Bs K) (fun ys => ys.map (·.1) = fromEnd len len)
      (fun pre => ∃ k, k ≤ len ∧ pre.map (·.1) = fromEnd len k) len w := fun l J Jx W hW _ _ hY h0 =>
  backV1_in F n hf hro hn l Bs K len cap A zs hlen hz hgk J Jx hY W ((hW.cell (p := ⟨Bs, 0, none⟩) hBl).trans hBs) (fun j u hj => by
    obtain ⟨ad, e, h⟩ := hc j u hj
    exact ⟨ad, e, (hW.cell (p := ad.add j) (by rw [blockAdd]; exact hgl _ (hgk ad e (by have := (List.getElem?_eq_some_iff.1 hj).1; omega)))).trans h⟩) h0
end Go.Proofs.Ytdgomaoikeffhaa
