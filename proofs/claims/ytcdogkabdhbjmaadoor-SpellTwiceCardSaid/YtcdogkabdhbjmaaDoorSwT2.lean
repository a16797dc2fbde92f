/- naskhlaw11.SpellTwice's region that draws its order. -/
import Derived.Test.YtcdogkabdhbjmaaDoorSwRp
import Derived.Test.YtcdogkabdhbjmaaDoorOpR
namespace Go.Proofs.YtcdogkabdhbjmaaDoor
open Go.RowKit

def blk (n : Nat) : ByteArray := ⟨(List.replicate n (32 : UInt8)).toArray⟩
theorem blk_size (n : Nat) : (blk n).size = n := by
  show (List.replicate n (32 : UInt8)).toArray.size = n
  simp
def BlkAt (w : World) (v : Value) (n : Nat) : Prop := ∃ g, v = .slice (some ⟨g, 0, none⟩) n n ∧ w.heap[g]? = some (.cells (List.replicate n (.int .u8 32)).toArray 5 (0, 0))
structure TPrm where
  b : Nat
  wd : ByteArray
  hb : b < 256
  hw : wd.size ≤ 14
def slotT (i : Nat) : Nat := if i < 18 then 22 + i else 7
def valT (p : TPrm) (i : Nat) (v : Value) (w : World) : Prop := match i with
  | 0 => ∃ g, v = .slice (some ⟨g, 0, none⟩) 1 1 ∧ w.cell? ⟨g, 0, none⟩ = some (.int .u8 32)
  | 1 => v = .int .u8 p.b
  | 2 => v = .int .u8 ((p.b % 5 : Nat) : Int)
  | 3 => v = .int .i64 ((p.b % 5 : Nat) : Int)
  | 4 => BlkAt w v (p.b % 5)
  | 5 => v = .string (blk (p.b % 5))
  | 6 => v = .string p.wd
  | 7 => v = .string (blk (p.b % 5) ++ p.wd)
  | 8 => ∃ g, v = .slice (some ⟨g, 0, none⟩) 1 1 ∧ w.cell? ⟨g, 0, none⟩ = some (.int .u8 32)
  | 9 => v = .int .u8 p.b
  | 10 => v = .int .u8 ((p.b % 7 : Nat) : Int)
  | 11 => v = .int .i64 ((p.b % 7 : Nat) : Int)
  | 12 => v = .int .i64 ((1 + p.b % 7 : Nat) : Int)
  | 13 => BlkAt w v (1 + p.b % 7)
  | 14 => v = .string (blk (1 + p.b % 7))
  | 15 => v = .string (blk (p.b % 5) ++ p.wd ++ blk (1 + p.b % 7))
  | 16 => v = .string p.wd
  | 17 => v = .string (blk (p.b % 5) ++ p.wd ++ blk (1 + p.b % 7) ++ p.wd)
  | 18 => v = .string (blk (p.b % 5) ++ p.wd ++ blk (1 + p.b % 7) ++ p.wd)
  | _ => True
theorem heap_below {w w' : World} (hb : Below w.heap.size w w') {g : Nat} {o : Obj} (h : w.heap[g]? = some o) : w'.heap[g]? = some o := by
  have hlt : g < w.heap.size := by
    rcases Nat.lt_or_ge g w.heap.size with h' | h'
    · exact h'
    · rw [Array.getElem?_eq_none h'] at h
      cases h
  rw [hb.block g hlt]
  exact h
theorem valT_mono {p : TPrm} {i : Nat} {v : Value} {w w' : World} (hb : Below w.heap.size w w') (h : valT p i v w) : valT p i v w' := by
  unfold valT at h ⊢
  split at h
  · obtain ⟨g, e, hc⟩ := h
    exact ⟨g, e, cell_below hb hc⟩
  · exact h
  · exact h
  · exact h
  · obtain ⟨g, e, hc⟩ := h
    exact ⟨g, e, heap_below hb hc⟩
  · exact h
  · exact h
  · exact h
  · obtain ⟨g, e, hc⟩ := h
    exact ⟨g, e, cell_below hb hc⟩
  · exact h
  · exact h
  · exact h
  · exact h
  · obtain ⟨g, e, hc⟩ := h
    exact ⟨g, e, heap_below hb hc⟩
  · exact h
  · exact h
  · exact h
  · exact h
  · exact h
  · trivial
def GoodT (p : TPrm) (i : Nat) (a : Act) (w : World) : Prop := ∃ v, a.tmps[slotT i]? = some v ∧ valT p i v w
structure HoldsT (p : TPrm) (w0 : World) (w : World) (a : Act) : Prop where
  defers : a.defers = []
  size : a.tmps.size = 50
  s1 : a.tmps[1]? = some (.int .u8 (p.b : Int))
  s6 : a.tmps[6]? = some (.string p.wd)
  below : Below w0.heap.size w0 w
def opT : Nat → Op
  | 0 => .buildSlice 43 1 #[(0, .const (.int .u8 32))]
  | 1 => .move (.tmp 1)
  | 2 => .binOp .rem 5 (.tmp 23) (.const (.int .u8 5)) 5
  | 3 => .convert 5 3 (.tmp 24)
  | 4 => .call { callee := .value (.func 28), args := #[.tmp 22, .tmp 25], argTypes := #[43, 3] }
  | 5 => .convert 43 9 (.tmp 26)
  | 6 => .move (.tmp 6)
  | 7 => .binOp .add 9 (.tmp 27) (.tmp 28) 9
  | 8 => .buildSlice 43 1 #[(0, .const (.int .u8 32))]
  | 9 => .move (.tmp 1)
  | 10 => .binOp .rem 5 (.tmp 31) (.const (.int .u8 7)) 5
  | 11 => .convert 5 3 (.tmp 32)
  | 12 => .binOp .add 3 (.const (.int .i64 1)) (.tmp 33) 3
  | 13 => .call { callee := .value (.func 28), args := #[.tmp 30, .tmp 34], argTypes := #[43, 3] }
  | 14 => .convert 43 9 (.tmp 35)
  | 15 => .binOp .add 9 (.tmp 29) (.tmp 36) 9
  | 16 => .move (.tmp 6)
  | 17 => .binOp .add 9 (.tmp 37) (.tmp 38) 9
  | 18 => .assign (.tmp 39)
  | _ => .move (.tmp 0)
def depT : Nat → List Nat
  | 2 => [1]
  | 3 => [2]
  | 4 => [0, 3]
  | 5 => [4]
  | 7 => [5, 6]
  | 10 => [9]
  | 11 => [10]
  | 12 => [11]
  | 13 => [8, 12]
  | 14 => [13]
  | 15 => [7, 14]
  | 17 => [15, 16]
  | 18 => [17]
  | _ => []
structure IsOpT (ops : Array Oper) (i : Nat) (o : Oper) : Prop where
  dst : o.dst = some (slotT i)
  op : o.op = opT i
  guard : o.guard = none
  deps : ∀ k ∈ depT i, ∃ e ∈ o.after, e.on = k ∧ Region.binds .any e = true
theorem slotT_inj {i j : Nat} (hi : i < 19) (hj : j < 19) (h : slotT i = slotT j) : i = j := by
  unfold slotT at h
  split at h <;> split at h <;> omega
theorem slotT_in {i : Nat} (hi : i < 19) : slotT i < 50 ∧ slotT i ≠ 1 ∧ slotT i ≠ 6 := by
  unfold slotT
  split <;> omega
section
variable {p : TPrm} {w0 w : World} {a : Act} {Q : Exit → Act → World → Prop} {o : Oper} {ops : Array Oper}
theorem tmps_putT {a : Act} {s k : Nat} {v : Value} (h : k ≠ s) : (a.put (some s) v).tmps[k]? = a.tmps[k]? := by
  simp only [Act.put]
  exact Array.getElem?_setIfInBounds_ne (fun e => h e.symm)
/-- Behind an operation that yields v and may lay blocks. -/
theorem doneT {i : Nat} (hi : i < 19) (h : HoldsT p w0 w a) (v : Value) {w' : World} (hb : Below w.heap.size w w') (hv : valT p i v w') :
    HoldsT p w0 w' (a.put (some (slotT i)) v) ∧ GoodT p i (a.put (some (slotT i)) v) w' ∧ ∀ j, j ≠ i → GoodT p j a w → GoodT p j (a.put (some (slotT i)) v) w' := by
  obtain ⟨h50, h1, h6⟩ := slotT_in hi
  refine ⟨⟨h.defers, by simpa [Act.put] using h.size, by rw [tmps_putT (fun e => h1 e.symm)]; exact h.s1, by rw [tmps_putT (fun e => h6 e.symm)]; exact h.s6, below_self h.below hb⟩, ⟨v, ?_, hv⟩, fun j hj hg => ?_⟩
  · have hsz := h.size
    simp only [Act.put]
    rw [Array.getElem?_setIfInBounds_self_of_lt (by omega)]
  · obtain ⟨u, hu, hu2⟩ := hg
    by_cases hj19 : j < 19
    · exact ⟨u, by rw [tmps_putT (k := slotT j) (s := slotT i) (fun e => hj (slotT_inj hj19 hi e))]; exact hu, valT_mono hb hu2⟩
    · by_cases hs : slotT j = slotT i
      · refine ⟨v, ?_, ?_⟩
        · have hsz := h.size
          rw [hs]
          simp only [Act.put]
          rw [Array.getElem?_setIfInBounds_self_of_lt (by omega)]
        · unfold valT
          split <;> first | omega | trivial
      · exact ⟨u, by rw [tmps_putT hs]; exact hu, valT_mono hb hu2⟩
def StepT (p : TPrm) (w0 : World) (Q : Exit → Act → World → Prop) (ops : Array Oper) (i : Nat) (o : Oper) (a : Act) (w : World) : Prop :=
  if Region.wanted o (yielded ops a.tmps) = true then o.wp Tryd.prog a w (fun a' w' => HoldsT p w0 w' a' ∧ GoodT p i a' w' ∧ ∀ j, j ≠ i → GoodT p j a w → GoodT p j a' w') Q else HoldsT p w0 w (a.put o.dst undef) ∧ GoodT p i (a.put o.dst undef) w ∧ ∀ j, j ≠ i → GoodT p j a w → GoodT p j (a.put o.dst undef) w
theorem oper_enterB {f : FuncId} {args : Array Value} {K : Act → World → Prop} {R : Value → World → Prop} (h : (execOp a.eval o).run Tryd.prog w = .ok (.enter f args) w) (hc : Calls Tryd.prog f args w fun e w' => ∃ v, e = .returned v ∧ R v w') (hk : ∀ v w', R v w' → K (a.put o.dst v) w') : o.wp Tryd.prog a w K Q := by
  unfold Oper.wp
  rw [h]
  refine Calls.mono hc ?_
  rintro e w' ⟨v, rfl, hr⟩
  exact hk v w' hr
theorem run_addStr (x y : ByteArray) (h : x.size + y.size ≤ 1000) (w : World) : (binOp .add 9 (.string x) (.string y)).run Tryd.prog w = .ok (.string (x ++ y)) w := by
  have h1 : ¬ 9223372036854775807 < x.size + y.size := by omega
  go_simp
theorem run_blk {v : Value} {n : Nat} (h : BlkAt w v n) : (convert 43 9 v).run Tryd.prog w = .ok (.string (blk n)) w := by
  obtain ⟨g, rfl, hg⟩ := h
  have hb := Lib.run_convert_whole (P := Tryd.prog) w 43 5 9 Tryd.underlying43 Tryd.underlying5 Tryd.underlying9 g 0 (blk n) (fun i hi => by
    rw [blk_size] at hi
    unfold World.cell?
    rw [hg]
    have hbi : (blk n)[i] = 32 := by
      have : (blk n).data[i]'(by simpa [blk] using hi) = 32 := by simp [blk]
      exact this
    rw [hbi]
    simp [hi]) n
  rw [blk_size] at hb
  exact hb
theorem wp_of_run {K : Act → World → Prop} {v : Value} {w' : World} (h : (execOp a.eval o).run Tryd.prog w = .ok (.value v) w') (hk : K (a.put o.dst v) w') : o.wp Tryd.prog a w K Q := oper_val h hk
theorem stepT0 (h : HoldsT p w0 w a) (hi : IsOpT ops 0 o) (_hg : ∀ k ∈ depT 0, GoodT p k a w) : StepT p w0 Q ops 0 o a w := by
  unfold StepT
  rw [if_pos (wanted_none hi.guard)]
  refine wp_of_run (v := .slice (some ⟨w.heap.size, 0, none⟩) 1 1) (w' := w.alloc (.cells #[.int .u8 32] 5)) ?_ ?_
  · unfold execOp
    simp only [hi.op, opT]
    go_simp
  · rw [hi.dst]
    exact doneT (i := 0) (by omega) h _ (below_new _ _) ⟨_, rfl, by go_simp⟩
theorem stepT1 (h : HoldsT p w0 w a) (hi : IsOpT ops 1 o) (_hg : ∀ k ∈ depT 1, GoodT p k a w) : StepT p w0 Q ops 1 o a w := by
  unfold StepT
  rw [if_pos (wanted_none hi.guard)]
  have e1 : a.eval (.tmp 1) = .int .u8 (p.b : Int) := evalT h.s1
  refine wp_of_run (v := .int .u8 (p.b : Int)) (w' := w) ?_ ?_
  · unfold execOp
    simp only [hi.op, opT]
    rw [e1]
    go_simp
  · rw [hi.dst]
    exact doneT (i := 1) (by omega) h _ (Below.refl _ _) rfl
theorem stepT2 (h : HoldsT p w0 w a) (hi : IsOpT ops 2 o) (hg : ∀ k ∈ depT 2, GoodT p k a w) : StepT p w0 Q ops 2 o a w := by
  unfold StepT
  rw [if_pos (wanted_none hi.guard)]
  obtain ⟨v1, h1, x1⟩ := hg 1 (by simp [depT])
  obtain rfl := (show v1 = .int .u8 (p.b : Int) from x1)
  have e1 : a.eval (.tmp 23) = _ := evalT h1
  have hbb := p.hb
  have hr : IntKind.u8.wrap (Int.tmod (p.b : Int) 5) = ((p.b % 5 : Nat) : Int) := by
    rw [Int.tmod_eq_emod_of_nonneg (by omega), IntWalk.u8_in _ (by omega)]
    simp
  refine wp_of_run (v := .int .u8 ((p.b % 5 : Nat) : Int)) (w' := w) ?_ ?_
  · unfold execOp
    simp only [hi.op, opT]
    rw [e1]
    go_simp
    rw [Int.tmod_eq_emod_of_nonneg (by omega)]
  · rw [hi.dst]
    exact doneT (i := 2) (by omega) h _ (Below.refl _ _) rfl
theorem stepT3 (h : HoldsT p w0 w a) (hi : IsOpT ops 3 o) (hg : ∀ k ∈ depT 3, GoodT p k a w) : StepT p w0 Q ops 3 o a w := by
  unfold StepT
  rw [if_pos (wanted_none hi.guard)]
  obtain ⟨v2, h2, x2⟩ := hg 2 (by simp [depT])
  obtain rfl := (show v2 = .int .u8 ((p.b % 5 : Nat) : Int) from x2)
  have e2 : a.eval (.tmp 24) = _ := evalT h2
  have hr : IntKind.i64.wrap ((p.b % 5 : Nat) : Int) = ((p.b % 5 : Nat) : Int) := IntWalk.i64_in _ (by omega)
  refine wp_of_run (v := .int .i64 ((p.b % 5 : Nat) : Int)) (w' := w) ?_ ?_
  · unfold execOp
    simp only [hi.op, opT]
    rw [e2]
    go_simp
    exact IntWalk.i64_in _ (by omega)
  · rw [hi.dst]
    exact doneT (i := 3) (by omega) h _ (Below.refl _ _) rfl
theorem stepT4 (h : HoldsT p w0 w a) (hi : IsOpT ops 4 o) (hg : ∀ k ∈ depT 4, GoodT p k a w) : StepT p w0 Q ops 4 o a w := by
  unfold StepT
  rw [if_pos (wanted_none hi.guard)]
  obtain ⟨v0, h0, x0⟩ := hg 0 (by simp [depT])
  obtain ⟨v3, h3, x3⟩ := hg 3 (by simp [depT])
  obtain ⟨g, rfl, hc⟩ := (show ∃ g, v0 = .slice (some ⟨g, 0, none⟩) 1 1 ∧ w.cell? ⟨g, 0, none⟩ = some (.int .u8 32) from x0)
  obtain rfl := (show v3 = .int .i64 ((p.b % 5 : Nat) : Int) from x3)
  refine oper_enterB (f := 28) (args := #[.slice (some ⟨g, 0, none⟩) 1 1, .int .i64 ((p.b % 5 : Nat) : Int)]) (R := fun v w' => BlkAt w' v (p.b % 5) ∧ Below w.heap.size w w') ?_ ?_ ?_
  · unfold execOp
    simp only [hi.op, opT]
    have hA : a.tmps[22]? = _ := h0
    have hB : a.tmps[25]? = _ := h3
    simp [hA, hB, go_sem]
  · refine (repeat_any g 1 (p.b % 5) (by omega) w hc).mono ?_
    rintro e w' ⟨g', he, hh, _, hb⟩
    exact ⟨_, he, ⟨g', rfl, hh⟩, hb⟩
  · rintro v w' ⟨hv, hb⟩
    rw [hi.dst]
    exact doneT (i := 4) (by omega) h _ hb hv
theorem stepT5 (h : HoldsT p w0 w a) (hi : IsOpT ops 5 o) (hg : ∀ k ∈ depT 5, GoodT p k a w) : StepT p w0 Q ops 5 o a w := by
  unfold StepT
  rw [if_pos (wanted_none hi.guard)]
  obtain ⟨v4, h4, x4⟩ := hg 4 (by simp [depT])
  have hrun := run_blk (show BlkAt w v4 (p.b % 5) from x4)
  have e4 : a.eval (.tmp 26) = _ := evalT h4
  refine wp_of_run (v := .string (blk (p.b % 5))) (w' := w) ?_ ?_
  · unfold execOp
    simp only [hi.op, opT]
    rw [e4]
    simp only [Sem.run_bind, hrun, Result.andThen_ok]
    rfl
  · rw [hi.dst]
    exact doneT (i := 5) (by omega) h _ (Below.refl _ _) rfl
theorem stepT6 (h : HoldsT p w0 w a) (hi : IsOpT ops 6 o) (_hg : ∀ k ∈ depT 6, GoodT p k a w) : StepT p w0 Q ops 6 o a w := by
  unfold StepT
  rw [if_pos (wanted_none hi.guard)]
  have e1 : a.eval (.tmp 6) = .string p.wd := evalT h.s6
  refine wp_of_run (v := .string p.wd) (w' := w) ?_ ?_
  · unfold execOp
    simp only [hi.op, opT]
    rw [e1]
    go_simp
  · rw [hi.dst]
    exact doneT (i := 6) (by omega) h _ (Below.refl _ _) rfl
theorem stepT7 (h : HoldsT p w0 w a) (hi : IsOpT ops 7 o) (hg : ∀ k ∈ depT 7, GoodT p k a w) : StepT p w0 Q ops 7 o a w := by
  unfold StepT
  rw [if_pos (wanted_none hi.guard)]
  obtain ⟨v5, h5, x5⟩ := hg 5 (by simp [depT])
  obtain ⟨v6, h6, x6⟩ := hg 6 (by simp [depT])
  obtain rfl := (show v5 = .string (blk (p.b % 5)) from x5)
  obtain rfl := (show v6 = .string p.wd from x6)
  have e5 : a.eval (.tmp 27) = _ := evalT h5
  have e6 : a.eval (.tmp 28) = _ := evalT h6
  have hw := p.hw
  have hrun := run_addStr (blk (p.b % 5)) (p.wd) (by simp only [ByteArray.size_append, blk_size]; omega) w
  refine wp_of_run (v := .string ((blk (p.b % 5)) ++ p.wd)) (w' := w) ?_ ?_
  · unfold execOp
    simp only [hi.op, opT]
    rw [e5, e6]
    simp only [eqGuard, Sem.run_bind, Sem.run_pure, hrun, Result.andThen_ok]
    first | done | rfl | simp [hrun]
  · rw [hi.dst]
    exact doneT (i := 7) (by omega) h _ (Below.refl _ _) rfl
theorem stepT8 (h : HoldsT p w0 w a) (hi : IsOpT ops 8 o) (_hg : ∀ k ∈ depT 8, GoodT p k a w) : StepT p w0 Q ops 8 o a w := by
  unfold StepT
  rw [if_pos (wanted_none hi.guard)]
  refine wp_of_run (v := .slice (some ⟨w.heap.size, 0, none⟩) 1 1) (w' := w.alloc (.cells #[.int .u8 32] 5)) ?_ ?_
  · unfold execOp
    simp only [hi.op, opT]
    go_simp
  · rw [hi.dst]
    exact doneT (i := 8) (by omega) h _ (below_new _ _) ⟨_, rfl, by go_simp⟩
theorem stepT9 (h : HoldsT p w0 w a) (hi : IsOpT ops 9 o) (_hg : ∀ k ∈ depT 9, GoodT p k a w) : StepT p w0 Q ops 9 o a w := by
  unfold StepT
  rw [if_pos (wanted_none hi.guard)]
  have e1 : a.eval (.tmp 1) = .int .u8 (p.b : Int) := evalT h.s1
  refine wp_of_run (v := .int .u8 (p.b : Int)) (w' := w) ?_ ?_
  · unfold execOp
    simp only [hi.op, opT]
    rw [e1]
    go_simp
  · rw [hi.dst]
    exact doneT (i := 9) (by omega) h _ (Below.refl _ _) rfl
theorem stepT10 (h : HoldsT p w0 w a) (hi : IsOpT ops 10 o) (hg : ∀ k ∈ depT 10, GoodT p k a w) : StepT p w0 Q ops 10 o a w := by
  unfold StepT
  rw [if_pos (wanted_none hi.guard)]
  obtain ⟨v9, h9, x9⟩ := hg 9 (by simp [depT])
  obtain rfl := (show v9 = .int .u8 (p.b : Int) from x9)
  have e9 : a.eval (.tmp 31) = _ := evalT h9
  have hbb := p.hb
  have hr : IntKind.u8.wrap (Int.tmod (p.b : Int) 7) = ((p.b % 7 : Nat) : Int) := by
    rw [Int.tmod_eq_emod_of_nonneg (by omega), IntWalk.u8_in _ (by omega)]
    simp
  refine wp_of_run (v := .int .u8 ((p.b % 7 : Nat) : Int)) (w' := w) ?_ ?_
  · unfold execOp
    simp only [hi.op, opT]
    rw [e9]
    go_simp
    rw [Int.tmod_eq_emod_of_nonneg (by omega)]
  · rw [hi.dst]
    exact doneT (i := 10) (by omega) h _ (Below.refl _ _) rfl
theorem stepT11 (h : HoldsT p w0 w a) (hi : IsOpT ops 11 o) (hg : ∀ k ∈ depT 11, GoodT p k a w) : StepT p w0 Q ops 11 o a w := by
  unfold StepT
  rw [if_pos (wanted_none hi.guard)]
  obtain ⟨v10, h10, x10⟩ := hg 10 (by simp [depT])
  obtain rfl := (show v10 = .int .u8 ((p.b % 7 : Nat) : Int) from x10)
  have e10 : a.eval (.tmp 32) = _ := evalT h10
  have hr : IntKind.i64.wrap ((p.b % 7 : Nat) : Int) = ((p.b % 7 : Nat) : Int) := IntWalk.i64_in _ (by omega)
  refine wp_of_run (v := .int .i64 ((p.b % 7 : Nat) : Int)) (w' := w) ?_ ?_
  · unfold execOp
    simp only [hi.op, opT]
    rw [e10]
    go_simp
    exact IntWalk.i64_in _ (by omega)
  · rw [hi.dst]
    exact doneT (i := 11) (by omega) h _ (Below.refl _ _) rfl
theorem stepT12 (h : HoldsT p w0 w a) (hi : IsOpT ops 12 o) (hg : ∀ k ∈ depT 12, GoodT p k a w) : StepT p w0 Q ops 12 o a w := by
  unfold StepT
  rw [if_pos (wanted_none hi.guard)]
  obtain ⟨v11, h11, x11⟩ := hg 11 (by simp [depT])
  obtain rfl := (show v11 = .int .i64 ((p.b % 7 : Nat) : Int) from x11)
  have e11 : a.eval (.tmp 33) = _ := evalT h11
  have hr : IntKind.i64.wrap (1 + ((p.b % 7 : Nat) : Int)) = ((1 + p.b % 7 : Nat) : Int) := by
    rw [IntWalk.i64_in _ (by omega)]
    simp
  refine wp_of_run (v := .int .i64 ((1 + p.b % 7 : Nat) : Int)) (w' := w) ?_ ?_
  · unfold execOp
    simp only [hi.op, opT]
    rw [e11]
    go_simp
    exact IntWalk.i64_in _ (by omega)
  · rw [hi.dst]
    exact doneT (i := 12) (by omega) h _ (Below.refl _ _) rfl
theorem stepT13 (h : HoldsT p w0 w a) (hi : IsOpT ops 13 o) (hg : ∀ k ∈ depT 13, GoodT p k a w) : StepT p w0 Q ops 13 o a w := by
  unfold StepT
  rw [if_pos (wanted_none hi.guard)]
  obtain ⟨v8, h8, x8⟩ := hg 8 (by simp [depT])
  obtain ⟨v12, h12, x12⟩ := hg 12 (by simp [depT])
  obtain ⟨g, rfl, hc⟩ := (show ∃ g, v8 = .slice (some ⟨g, 0, none⟩) 1 1 ∧ w.cell? ⟨g, 0, none⟩ = some (.int .u8 32) from x8)
  obtain rfl := (show v12 = .int .i64 ((1 + p.b % 7 : Nat) : Int) from x12)
  refine oper_enterB (f := 28) (args := #[.slice (some ⟨g, 0, none⟩) 1 1, .int .i64 ((1 + p.b % 7 : Nat) : Int)]) (R := fun v w' => BlkAt w' v (1 + p.b % 7) ∧ Below w.heap.size w w') ?_ ?_ ?_
  · unfold execOp
    simp only [hi.op, opT]
    have hA : a.tmps[30]? = _ := h8
    have hB : a.tmps[34]? = _ := h12
    simp [hA, hB, go_sem]
  · refine (repeat_any g 1 (1 + p.b % 7) (by omega) w hc).mono ?_
    rintro e w' ⟨g', he, hh, _, hb⟩
    exact ⟨_, he, ⟨g', rfl, hh⟩, hb⟩
  · rintro v w' ⟨hv, hb⟩
    rw [hi.dst]
    exact doneT (i := 13) (by omega) h _ hb hv
theorem stepT14 (h : HoldsT p w0 w a) (hi : IsOpT ops 14 o) (hg : ∀ k ∈ depT 14, GoodT p k a w) : StepT p w0 Q ops 14 o a w := by
  unfold StepT
  rw [if_pos (wanted_none hi.guard)]
  obtain ⟨v13, h13, x13⟩ := hg 13 (by simp [depT])
  have hrun := run_blk (show BlkAt w v13 (1 + p.b % 7) from x13)
  have e13 : a.eval (.tmp 35) = _ := evalT h13
  refine wp_of_run (v := .string (blk (1 + p.b % 7))) (w' := w) ?_ ?_
  · unfold execOp
    simp only [hi.op, opT]
    rw [e13]
    simp only [Sem.run_bind, hrun, Result.andThen_ok]
    rfl
  · rw [hi.dst]
    exact doneT (i := 14) (by omega) h _ (Below.refl _ _) rfl
theorem stepT15 (h : HoldsT p w0 w a) (hi : IsOpT ops 15 o) (hg : ∀ k ∈ depT 15, GoodT p k a w) : StepT p w0 Q ops 15 o a w := by
  unfold StepT
  rw [if_pos (wanted_none hi.guard)]
  obtain ⟨v7, h7, x7⟩ := hg 7 (by simp [depT])
  obtain ⟨v14, h14, x14⟩ := hg 14 (by simp [depT])
  obtain rfl := (show v7 = .string (blk (p.b % 5) ++ p.wd) from x7)
  obtain rfl := (show v14 = .string (blk (1 + p.b % 7)) from x14)
  have e7 : a.eval (.tmp 29) = _ := evalT h7
  have e14 : a.eval (.tmp 36) = _ := evalT h14
  have hw := p.hw
  have hrun := run_addStr (blk (p.b % 5) ++ p.wd) (blk (1 + p.b % 7)) (by simp only [ByteArray.size_append, blk_size]; omega) w
  refine wp_of_run (v := .string (blk (p.b % 5) ++ p.wd ++ (blk (1 + p.b % 7)))) (w' := w) ?_ ?_
  · unfold execOp
    simp only [hi.op, opT]
    rw [e7, e14]
    simp only [eqGuard, Sem.run_bind, Sem.run_pure, hrun, Result.andThen_ok]
    first | done | rfl | simp [hrun]
  · rw [hi.dst]
    exact doneT (i := 15) (by omega) h _ (Below.refl _ _) rfl
theorem stepT16 (h : HoldsT p w0 w a) (hi : IsOpT ops 16 o) (_hg : ∀ k ∈ depT 16, GoodT p k a w) : StepT p w0 Q ops 16 o a w := by
  unfold StepT
  rw [if_pos (wanted_none hi.guard)]
  have e1 : a.eval (.tmp 6) = .string p.wd := evalT h.s6
  refine wp_of_run (v := .string p.wd) (w' := w) ?_ ?_
  · unfold execOp
    simp only [hi.op, opT]
    rw [e1]
    go_simp
  · rw [hi.dst]
    exact doneT (i := 16) (by omega) h _ (Below.refl _ _) rfl
theorem stepT17 (h : HoldsT p w0 w a) (hi : IsOpT ops 17 o) (hg : ∀ k ∈ depT 17, GoodT p k a w) : StepT p w0 Q ops 17 o a w := by
  unfold StepT
  rw [if_pos (wanted_none hi.guard)]
  obtain ⟨v15, h15, x15⟩ := hg 15 (by simp [depT])
  obtain ⟨v16, h16, x16⟩ := hg 16 (by simp [depT])
  obtain rfl := (show v15 = .string (blk (p.b % 5) ++ p.wd ++ blk (1 + p.b % 7)) from x15)
  obtain rfl := (show v16 = .string p.wd from x16)
  have e15 : a.eval (.tmp 37) = _ := evalT h15
  have e16 : a.eval (.tmp 38) = _ := evalT h16
  have hw := p.hw
  have hrun := run_addStr (blk (p.b % 5) ++ p.wd ++ blk (1 + p.b % 7)) (p.wd) (by simp only [ByteArray.size_append, blk_size]; omega) w
  refine wp_of_run (v := .string (blk (p.b % 5) ++ p.wd ++ blk (1 + p.b % 7) ++ p.wd)) (w' := w) ?_ ?_
  · unfold execOp
    simp only [hi.op, opT]
    rw [e15, e16]
    simp only [eqGuard, Sem.run_bind, Sem.run_pure, hrun, Result.andThen_ok]
    first | done | rfl | simp [hrun]
  · rw [hi.dst]
    exact doneT (i := 17) (by omega) h _ (Below.refl _ _) rfl
theorem stepT18 (h : HoldsT p w0 w a) (hi : IsOpT ops 18 o) (hg : ∀ k ∈ depT 18, GoodT p k a w) : StepT p w0 Q ops 18 o a w := by
  unfold StepT
  rw [if_pos (wanted_none hi.guard)]
  obtain ⟨v17, h17, x17⟩ := hg 17 (by simp [depT])
  obtain rfl := (show v17 = .string (blk (p.b % 5) ++ p.wd ++ blk (1 + p.b % 7) ++ p.wd) from x17)
  have e17 : a.eval (.tmp 39) = _ := evalT h17
  refine wp_of_run (v := .string (blk (p.b % 5) ++ p.wd ++ blk (1 + p.b % 7) ++ p.wd)) (w' := w) ?_ ?_
  · unfold execOp
    simp only [hi.op, opT]
    rw [e17]
    go_simp
  · rw [hi.dst]
    exact doneT (i := 18) (by omega) h _ (Below.refl _ _) rfl
theorem all_stepsT (hsz : ops.size = 19) (hops : ∀ i o, ops[i]? = some o → IsOpT ops i o) (i : Nat) (o : Oper) (ho : ops[i]? = some o) (a : Act) (w : World) (h : HoldsT p w0 w a) (hd : ∀ e ∈ o.after, Region.binds .any e = true → GoodT p e.on a w) : StepT p w0 Q ops i o a w := by
  have hi := hops i o ho
  have hg : ∀ k ∈ depT i, GoodT p k a w := fun k hk => by
    obtain ⟨e, he, hon, hb⟩ := hi.deps k hk
    rw [← hon]
    exact hd e he hb
  have hlt : i < 19 := by have := (Array.getElem?_eq_some_iff.1 ho).1; omega
  clear hd ho hops
  have hc : i = 0 ∨ i = 1 ∨ i = 2 ∨ i = 3 ∨ i = 4 ∨ i = 5 ∨ i = 6 ∨ i = 7 ∨ i = 8 ∨ i = 9 ∨ i = 10 ∨ i = 11 ∨ i = 12 ∨ i = 13 ∨ i = 14 ∨ i = 15 ∨ i = 16 ∨ i = 17 ∨ i = 18 := by omega
  rcases hc with rfl | rfl | rfl | rfl | rfl | rfl | rfl | rfl | rfl | rfl | rfl | rfl | rfl | rfl | rfl | rfl | rfl | rfl | rfl
  · exact stepT0 h hi hg
  · exact stepT1 h hi hg
  · exact stepT2 h hi hg
  · exact stepT3 h hi hg
  · exact stepT4 h hi hg
  · exact stepT5 h hi hg
  · exact stepT6 h hi hg
  · exact stepT7 h hi hg
  · exact stepT8 h hi hg
  · exact stepT9 h hi hg
  · exact stepT10 h hi hg
  · exact stepT11 h hi hg
  · exact stepT12 h hi hg
  · exact stepT13 h hi hg
  · exact stepT14 h hi hg
  · exact stepT15 h hi hg
  · exact stepT16 h hi hg
  · exact stepT17 h hi hg
  · exact stepT18 h hi hg
def depBT (ops : Array Oper) : Bool := (List.range 19).all fun i => (depT i).all fun k => ((ops[i]?).map fun o => o.after.any fun e => e.on == k && Region.binds .any e).getD false
theorem isOpT_of (h1 : ops.toList.map (fun o => (o.dst, o.op, o.guard)) = (List.range 19).map fun i => (some (slotT i), opT i, none)) (h2 : depBT ops = true) : ops.size = 19 ∧ ∀ i o, ops[i]? = some o → IsOpT ops i o := by
  have hsz : ops.size = 19 := by
    have := congrArg List.length h1
    simpa using this
  refine ⟨hsz, fun i o ho => ?_⟩
  have hi : i < 19 := by have := (Array.getElem?_eq_some_iff.1 ho).1; omega
  have e := congrArg (fun l => l[i]?) h1
  simp only [List.getElem?_map, Array.getElem?_toList, ho, Option.map_some, List.getElem?_range hi] at e
  injection e with e
  injection e with e1 e
  injection e with e2 e3
  refine ⟨e1, e2, e3, fun k hk => ?_⟩
  have := List.all_eq_true.1 (List.all_eq_true.1 h2 i (List.mem_range.2 hi)) k hk
  rw [ho] at this
  simp only [Option.map_some, Option.getD_some] at this
  rw [← Array.any_toList, List.any_eq_true] at this
  obtain ⟨x, hx, hv⟩ := this
  rw [Bool.and_eq_true] at hv
  exact ⟨x, Array.mem_toList_iff.1 hx, by simpa using hv.1, hv.2⟩
theorem twice_region {id : Nat} (hm : Tryd.prog.follows .mixedOrders = true) (h1 : ops.toList.map (fun o => (o.dst, o.op, o.guard)) = (List.range 19).map fun i => (some (slotT i), opT i, none)) (h2 : depBT ops = true) (h3 : backB ops = true) (h : HoldsT p w0 w.drew a)
    (hend : ∀ a' w', HoldsT p w0 w' a' → a'.tmps[7]? = some (.string (blk (p.b % 5) ++ p.wd ++ blk (1 + p.b % 7) ++ p.wd)) → Q .normal a' w') : (Code.region id ops true).wp Tryd.prog Q a w := by
  obtain ⟨hsz, hops⟩ := isOpT_of h1 h2
  refine wp_region_inv hm (fun a w => HoldsT p w0 w a) (GoodT p) (back_of h3) h (fun i o ho a w hS hd => all_stepsT hsz hops i o ho a w hS hd) (fun a' w' hS hG => hend a' w' hS ?_)
  obtain ⟨v, hv, hx⟩ := hG 18 (by omega)
  obtain rfl := (show v = .string (blk (p.b % 5) ++ p.wd ++ blk (1 + p.b % 7) ++ p.wd) from hx)
  exact hv
end
end Go.Proofs.YtcdogkabdhbjmaaDoor
