/- option.Check's region that draws its order: its operations, and a step for each. -/
import Derived.Test.YtcdogkabdhbjmaaDoorOpG
import Derived.Handy
namespace Go.Proofs.YtcdogkabdhbjmaaDoor
open Go.RowKit

def opF : Nat → Op
  | 0 => .fieldAddr 23 (.tmp 1) 5
  | 1 => .load 4 (.tmp 20)
  | 2 => .unOp .not 4 (.tmp 21)
  | 3 => .move (.tmp 22)
  | 4 => .move (.tmp 3)
  | 5 => .move (.tmp 4)
  | 6 => .fieldAddr 23 (.tmp 1) 7
  | 7 => .load 4 (.tmp 26)
  | 8 => .fieldAddr 23 (.tmp 1) 8
  | 9 => .load 4 (.tmp 28)
  | 10 => .fieldAddr 23 (.tmp 1) 9
  | 11 => .load 4 (.tmp 30)
  | 12 => .buildSlice 54 5 #[(0, .tmp 24), (1, .tmp 25), (2, .tmp 27), (3, .tmp 29), (4, .tmp 31)]
  | 13 => .call { callee := .value (.func 31), args := #[.tmp 32], argTypes := #[54] }
  | 14 => .pick (.tmp 23) (.tmp 33) (.const (.bool false))
  | 15 => .fieldAddr 23 (.tmp 1) 6
  | 16 => .load 4 (.tmp 35)
  | 17 => .move (.tmp 36)
  | 18 => .move (.tmp 3)
  | 19 => .unOp .not 4 (.tmp 38)
  | 20 => .pick (.tmp 37) (.tmp 39) (.const (.bool false))
  | 21 => .fieldAddr 23 (.tmp 1) 7
  | 22 => .load 4 (.tmp 41)
  | 23 => .move (.tmp 42)
  | 24 => .fieldAddr 23 (.tmp 1) 2
  | 25 => .load 3 (.tmp 44)
  | 26 => .binOp .eql 3 (.tmp 45) (.const (.int .i64 3)) 3
  | 27 => .fieldAddr 23 (.tmp 1) 2
  | 28 => .load 3 (.tmp 47)
  | 29 => .binOp .eql 3 (.tmp 48) (.const (.int .i64 4)) 3
  | 30 => .buildSlice 54 2 #[(0, .tmp 46), (1, .tmp 49)]
  | 31 => .call { callee := .value (.func 31), args := #[.tmp 50], argTypes := #[54] }
  | 32 => .pick (.tmp 43) (.tmp 51) (.const (.bool false))
  | 33 => .fieldAddr 23 (.tmp 1) 11
  | 34 => .load 4 (.tmp 53)
  | 35 => .move (.tmp 54)
  | 36 => .fieldAddr 23 (.tmp 1) 10
  | 37 => .load 4 (.tmp 56)
  | 38 => .unOp .not 4 (.tmp 57)
  | 39 => .pick (.tmp 55) (.tmp 58) (.const (.bool false))
  | 40 => .buildSlice 54 4 #[(0, .tmp 34), (1, .tmp 40), (2, .tmp 52), (3, .tmp 59)]
  | 41 => .call { callee := .value (.func 31), args := #[.tmp 60], argTypes := #[54] }
  | 42 => .assign (.tmp 61)
  | _ => .move (.tmp 0)
def guF : Nat → Option (Nat × Bool)
  | 4 => some (3, true)
  | 5 => some (3, true)
  | 6 => some (3, true)
  | 7 => some (3, true)
  | 8 => some (3, true)
  | 9 => some (3, true)
  | 10 => some (3, true)
  | 11 => some (3, true)
  | 12 => some (3, true)
  | 13 => some (3, true)
  | 18 => some (17, true)
  | 19 => some (17, true)
  | 24 => some (23, true)
  | 25 => some (23, true)
  | 26 => some (23, true)
  | 27 => some (23, true)
  | 28 => some (23, true)
  | 29 => some (23, true)
  | 30 => some (23, true)
  | 31 => some (23, true)
  | 36 => some (35, true)
  | 37 => some (35, true)
  | 38 => some (35, true)
  | _ => none
def depF : Nat → List Nat
  | 0 => []
  | 1 => [0]
  | 2 => [1]
  | 3 => [2]
  | 4 => [3]
  | 5 => [3]
  | 6 => [3]
  | 7 => [3, 6]
  | 8 => [3]
  | 9 => [3, 8]
  | 10 => [3]
  | 11 => [3, 10]
  | 12 => [3, 4, 5, 7, 9, 11]
  | 13 => [3, 12]
  | 14 => [3, 13]
  | 15 => []
  | 16 => [15]
  | 17 => [16]
  | 18 => [17]
  | 19 => [17, 18]
  | 20 => [17, 19]
  | 21 => []
  | 22 => [21]
  | 23 => [22]
  | 24 => [23]
  | 25 => [23, 24]
  | 26 => [23, 25]
  | 27 => [23]
  | 28 => [23, 27]
  | 29 => [23, 28]
  | 30 => [23, 26, 29]
  | 31 => [23, 30]
  | 32 => [23, 31]
  | 33 => []
  | 34 => [33]
  | 35 => [34]
  | 36 => [35]
  | 37 => [35, 36]
  | 38 => [35, 37]
  | 39 => [35, 38]
  | 40 => [14, 20, 32, 39]
  | 41 => [40]
  | 42 => [41]
  | _ => []
/-- The operation is the one that is meant. -/
structure IsOp (ops : Array Oper) (i : Nat) (o : Oper) : Prop where
  dst : o.dst = some (slotF i)
  op : o.op = opF i
  guard : o.guard = guF i
  deps : ∀ k ∈ depF i, ∃ e ∈ o.after, e.on = k ∧ Region.binds .any e = true
section
variable {p : Prm} {w0 w : World} {a : Act} {Q : Exit → Act → World → Prop} {o : Oper} {ops : Array Oper}
def StepOk (p : Prm) (w0 : World) (Q : Exit → Act → World → Prop) (ops : Array Oper) (i : Nat) (o : Oper) (a : Act) (w : World) : Prop :=
  if Region.wanted o (yielded ops a.tmps) = true then o.wp Tryd.prog a w (fun a' w' => HoldsAt p w0 w' a' ∧ GoodAt p i a' w' ∧ ∀ j, j ≠ i → GoodAt p j a w → GoodAt p j a' w') Q else HoldsAt p w0 w (a.put o.dst undef) ∧ GoodAt p i (a.put o.dst undef) w ∧ ∀ j, j ≠ i → GoodAt p j a w → GoodAt p j (a.put o.dst undef) w
theorem good_row {i : Nat} {l : List Bool} (h : GoodAt p i a w) (hg : gdF p i = true) (hr : rowF p i = some l) : ∃ g, a.tmps[slotF i]? = some (.slice (some ⟨g, 0, none⟩) l.length l.length) ∧ Rd w 1 (some ⟨g, 0, none⟩) l.length (l.map Value.bool) := by
  have h2 := h hg
  rw [hr] at h2
  exact h2
theorem oper_enter {f : FuncId} {args : Array Value} {K : Act → World → Prop} (h : (execOp a.eval o).run Tryd.prog w = .ok (.enter f args) w) (v : Value) (hc : Calls Tryd.prog f args w fun e w' => e = .returned v ∧ w = w') (hk : K (a.put o.dst v) w) : o.wp Tryd.prog a w K Q := by
  unfold Oper.wp
  rw [h]
  refine Calls.mono hc ?_
  rintro e w' ⟨rfl, rfl⟩
  exact hk
theorem evalT {a : Act} {k : Nat} {v : Value} (h : a.tmps[k]? = some v) : a.eval (.tmp k) = v := by
  simp only [Act.eval]
  rw [Array.getD_eq_getD_getElem?, h]
  rfl
theorem fieldP2 (B : Nat) (w : World) : (Instr.fieldAt 23 (.pointer (some ⟨B, 0, none⟩)) 2).run Tryd.prog w = .ok (.pointer (some ⟨B, 2, none⟩)) w := by
  go_simp
theorem fieldP5 (B : Nat) (w : World) : (Instr.fieldAt 23 (.pointer (some ⟨B, 0, none⟩)) 5).run Tryd.prog w = .ok (.pointer (some ⟨B, 5, none⟩)) w := by
  go_simp
theorem fieldP6 (B : Nat) (w : World) : (Instr.fieldAt 23 (.pointer (some ⟨B, 0, none⟩)) 6).run Tryd.prog w = .ok (.pointer (some ⟨B, 6, none⟩)) w := by
  go_simp
theorem fieldP7 (B : Nat) (w : World) : (Instr.fieldAt 23 (.pointer (some ⟨B, 0, none⟩)) 7).run Tryd.prog w = .ok (.pointer (some ⟨B, 7, none⟩)) w := by
  go_simp
theorem fieldP8 (B : Nat) (w : World) : (Instr.fieldAt 23 (.pointer (some ⟨B, 0, none⟩)) 8).run Tryd.prog w = .ok (.pointer (some ⟨B, 8, none⟩)) w := by
  go_simp
theorem fieldP9 (B : Nat) (w : World) : (Instr.fieldAt 23 (.pointer (some ⟨B, 0, none⟩)) 9).run Tryd.prog w = .ok (.pointer (some ⟨B, 9, none⟩)) w := by
  go_simp
theorem fieldP10 (B : Nat) (w : World) : (Instr.fieldAt 23 (.pointer (some ⟨B, 0, none⟩)) 10).run Tryd.prog w = .ok (.pointer (some ⟨B, 10, none⟩)) w := by
  go_simp
theorem fieldP11 (B : Nat) (w : World) : (Instr.fieldAt 23 (.pointer (some ⟨B, 0, none⟩)) 11).run Tryd.prog w = .ok (.pointer (some ⟨B, 11, none⟩)) w := by
  go_simp
theorem step0 (h : HoldsAt p w0 w a) (hi : IsOp ops 0 o) (hg : ∀ k ∈ depF 0, GoodAt p k a w) : StepOk p w0 Q ops 0 o a w := by
  unfold StepOk
  rw [if_pos (wanted_none hi.guard)]
  refine oper_val (v := .pointer (some ⟨p.B, 5, none⟩)) (w' := w) ?_ ?_
  · unfold execOp
    simp only [hi.op, opF, evalT h.s1, Sem.run_bind, fieldP5, Result.andThen_ok]
    rfl
  · rw [hi.dst]
    exact done_pure (by omega) h _ rfl (fun _ => rfl)
theorem step1 (h : HoldsAt p w0 w a) (hi : IsOp ops 1 o) (hg : ∀ k ∈ depF 1, GoodAt p k a w) : StepOk p w0 Q ops 1 o a w := by
  unfold StepOk
  rw [if_pos (wanted_none hi.guard)]
  have e : a.eval (.tmp 20) = .pointer (some ⟨p.B, 5, none⟩) := evalT (hg 0 (by simp [depF]) rfl)
  refine oper_val (v := .bool (p.b1)) (w' := w) ?_ ?_
  · have hc := h.c5
    unfold execOp
    simp only [hi.op, opF]
    rw [e]
    go_simp
  · rw [hi.dst]
    exact done_pure (by omega) h _ rfl (fun _ => rfl)
theorem step2 (h : HoldsAt p w0 w a) (hi : IsOp ops 2 o) (hg : ∀ k ∈ depF 2, GoodAt p k a w) : StepOk p w0 Q ops 2 o a w := by
  unfold StepOk
  rw [if_pos (wanted_none hi.guard)]
  have e : a.eval (.tmp 21) = .bool (p.b1) := evalT (hg 1 (by simp [depF]) rfl)
  refine oper_val (v := .bool (!p.b1)) (w' := w) ?_ ?_
  · unfold execOp
    simp only [hi.op, opF]
    rw [e]
    go_simp
  · rw [hi.dst]
    exact done_pure (by omega) h _ rfl (fun _ => rfl)
theorem step3 (h : HoldsAt p w0 w a) (hi : IsOp ops 3 o) (hg : ∀ k ∈ depF 3, GoodAt p k a w) : StepOk p w0 Q ops 3 o a w := by
  unfold StepOk
  rw [if_pos (wanted_none hi.guard)]
  have e : a.eval (.tmp 22) = .bool (!p.b1) := evalT (hg 2 (by simp [depF]) rfl)
  refine oper_val (v := .bool (!p.b1)) (w' := w) ?_ ?_
  · unfold execOp
    simp only [hi.op, opF]
    rw [e]
    rfl
  · rw [hi.dst]
    exact done_pure (by omega) h _ rfl (fun _ => rfl)
theorem step4 (h : HoldsAt p w0 w a) (hi : IsOp ops 4 o) (hg : ∀ k ∈ depF 4, GoodAt p k a w) (hy : yielded ops a.tmps 3 = some (!p.b1)) : StepOk p w0 Q ops 4 o a w := by
  unfold StepOk
  cases hgd : (!p.b1) with
  | false =>
    rw [if_neg (by rw [wanted_some hi.guard hy, hgd]; decide), hi.dst]
    exact done_off (by omega) h hgd
  | true =>
    rw [if_pos (by rw [wanted_some hi.guard hy, hgd])]
    have e : a.eval (.tmp 3) = .bool p.lb := evalT (h.s3)
    refine oper_val (v := .bool (p.lb)) (w' := w) ?_ ?_
    · unfold execOp
      simp only [hi.op, opF]
      rw [e]
      rfl
    · rw [hi.dst]
      exact done_pure (by omega) h _ rfl (fun _ => rfl)
theorem step5 (h : HoldsAt p w0 w a) (hi : IsOp ops 5 o) (hg : ∀ k ∈ depF 5, GoodAt p k a w) (hy : yielded ops a.tmps 3 = some (!p.b1)) : StepOk p w0 Q ops 5 o a w := by
  unfold StepOk
  cases hgd : (!p.b1) with
  | false =>
    rw [if_neg (by rw [wanted_some hi.guard hy, hgd]; decide), hi.dst]
    exact done_off (by omega) h hgd
  | true =>
    rw [if_pos (by rw [wanted_some hi.guard hy, hgd])]
    have e : a.eval (.tmp 4) = .bool p.tb := evalT (h.s4)
    refine oper_val (v := .bool (p.tb)) (w' := w) ?_ ?_
    · unfold execOp
      simp only [hi.op, opF]
      rw [e]
      rfl
    · rw [hi.dst]
      exact done_pure (by omega) h _ rfl (fun _ => rfl)
theorem step6 (h : HoldsAt p w0 w a) (hi : IsOp ops 6 o) (hg : ∀ k ∈ depF 6, GoodAt p k a w) (hy : yielded ops a.tmps 3 = some (!p.b1)) : StepOk p w0 Q ops 6 o a w := by
  unfold StepOk
  cases hgd : (!p.b1) with
  | false =>
    rw [if_neg (by rw [wanted_some hi.guard hy, hgd]; decide), hi.dst]
    exact done_off (by omega) h hgd
  | true =>
    rw [if_pos (by rw [wanted_some hi.guard hy, hgd])]
    refine oper_val (v := .pointer (some ⟨p.B, 7, none⟩)) (w' := w) ?_ ?_
    · unfold execOp
      simp only [hi.op, opF, evalT h.s1, Sem.run_bind, fieldP7, Result.andThen_ok]
      rfl
    · rw [hi.dst]
      exact done_pure (by omega) h _ rfl (fun _ => rfl)
theorem step7 (h : HoldsAt p w0 w a) (hi : IsOp ops 7 o) (hg : ∀ k ∈ depF 7, GoodAt p k a w) (hy : yielded ops a.tmps 3 = some (!p.b1)) : StepOk p w0 Q ops 7 o a w := by
  unfold StepOk
  cases hgd : (!p.b1) with
  | false =>
    rw [if_neg (by rw [wanted_some hi.guard hy, hgd]; decide), hi.dst]
    exact done_off (by omega) h hgd
  | true =>
    rw [if_pos (by rw [wanted_some hi.guard hy, hgd])]
    have e : a.eval (.tmp 26) = .pointer (some ⟨p.B, 7, none⟩) := evalT (hg 6 (by simp [depF]) hgd)
    refine oper_val (v := .bool (p.b3)) (w' := w) ?_ ?_
    · have hc := h.c7
      unfold execOp
      simp only [hi.op, opF]
      rw [e]
      go_simp
    · rw [hi.dst]
      exact done_pure (by omega) h _ rfl (fun _ => rfl)
theorem step8 (h : HoldsAt p w0 w a) (hi : IsOp ops 8 o) (hg : ∀ k ∈ depF 8, GoodAt p k a w) (hy : yielded ops a.tmps 3 = some (!p.b1)) : StepOk p w0 Q ops 8 o a w := by
  unfold StepOk
  cases hgd : (!p.b1) with
  | false =>
    rw [if_neg (by rw [wanted_some hi.guard hy, hgd]; decide), hi.dst]
    exact done_off (by omega) h hgd
  | true =>
    rw [if_pos (by rw [wanted_some hi.guard hy, hgd])]
    refine oper_val (v := .pointer (some ⟨p.B, 8, none⟩)) (w' := w) ?_ ?_
    · unfold execOp
      simp only [hi.op, opF, evalT h.s1, Sem.run_bind, fieldP8, Result.andThen_ok]
      rfl
    · rw [hi.dst]
      exact done_pure (by omega) h _ rfl (fun _ => rfl)
theorem step9 (h : HoldsAt p w0 w a) (hi : IsOp ops 9 o) (hg : ∀ k ∈ depF 9, GoodAt p k a w) (hy : yielded ops a.tmps 3 = some (!p.b1)) : StepOk p w0 Q ops 9 o a w := by
  unfold StepOk
  cases hgd : (!p.b1) with
  | false =>
    rw [if_neg (by rw [wanted_some hi.guard hy, hgd]; decide), hi.dst]
    exact done_off (by omega) h hgd
  | true =>
    rw [if_pos (by rw [wanted_some hi.guard hy, hgd])]
    have e : a.eval (.tmp 28) = .pointer (some ⟨p.B, 8, none⟩) := evalT (hg 8 (by simp [depF]) hgd)
    refine oper_val (v := .bool (p.b4)) (w' := w) ?_ ?_
    · have hc := h.c8
      unfold execOp
      simp only [hi.op, opF]
      rw [e]
      go_simp
    · rw [hi.dst]
      exact done_pure (by omega) h _ rfl (fun _ => rfl)
theorem step10 (h : HoldsAt p w0 w a) (hi : IsOp ops 10 o) (hg : ∀ k ∈ depF 10, GoodAt p k a w) (hy : yielded ops a.tmps 3 = some (!p.b1)) : StepOk p w0 Q ops 10 o a w := by
  unfold StepOk
  cases hgd : (!p.b1) with
  | false =>
    rw [if_neg (by rw [wanted_some hi.guard hy, hgd]; decide), hi.dst]
    exact done_off (by omega) h hgd
  | true =>
    rw [if_pos (by rw [wanted_some hi.guard hy, hgd])]
    refine oper_val (v := .pointer (some ⟨p.B, 9, none⟩)) (w' := w) ?_ ?_
    · unfold execOp
      simp only [hi.op, opF, evalT h.s1, Sem.run_bind, fieldP9, Result.andThen_ok]
      rfl
    · rw [hi.dst]
      exact done_pure (by omega) h _ rfl (fun _ => rfl)
theorem step11 (h : HoldsAt p w0 w a) (hi : IsOp ops 11 o) (hg : ∀ k ∈ depF 11, GoodAt p k a w) (hy : yielded ops a.tmps 3 = some (!p.b1)) : StepOk p w0 Q ops 11 o a w := by
  unfold StepOk
  cases hgd : (!p.b1) with
  | false =>
    rw [if_neg (by rw [wanted_some hi.guard hy, hgd]; decide), hi.dst]
    exact done_off (by omega) h hgd
  | true =>
    rw [if_pos (by rw [wanted_some hi.guard hy, hgd])]
    have e : a.eval (.tmp 30) = .pointer (some ⟨p.B, 9, none⟩) := evalT (hg 10 (by simp [depF]) hgd)
    refine oper_val (v := .bool (p.b5)) (w' := w) ?_ ?_
    · have hc := h.c9
      unfold execOp
      simp only [hi.op, opF]
      rw [e]
      go_simp
    · rw [hi.dst]
      exact done_pure (by omega) h _ rfl (fun _ => rfl)
theorem step12 (h : HoldsAt p w0 w a) (hi : IsOp ops 12 o) (hg : ∀ k ∈ depF 12, GoodAt p k a w) (hy : yielded ops a.tmps 3 = some (!p.b1)) : StepOk p w0 Q ops 12 o a w := by
  unfold StepOk
  cases hgd : (!p.b1) with
  | false =>
    rw [if_neg (by rw [wanted_some hi.guard hy, hgd]; decide), hi.dst]
    exact done_off (by omega) h hgd
  | true =>
    rw [if_pos (by rw [wanted_some hi.guard hy, hgd])]
    have e0 : a.tmps[24]? = some (.bool (p.lb)) := hg 4 (by simp [depF]) hgd
    have e1 : a.tmps[25]? = some (.bool (p.tb)) := hg 5 (by simp [depF]) hgd
    have e2 : a.tmps[27]? = some (.bool (p.b3)) := hg 7 (by simp [depF]) hgd
    have e3 : a.tmps[29]? = some (.bool (p.b4)) := hg 9 (by simp [depF]) hgd
    have e4 : a.tmps[31]? = some (.bool (p.b5)) := hg 11 (by simp [depF]) hgd
    refine oper_val (v := .slice (some ⟨w.heap.size, 0, none⟩) 5 5) (w' := w.alloc (.cells (([p.lb, p.tb, p.b3, p.b4, p.b5] : List Bool).map Value.bool).toArray 4)) ?_ ?_
    · unfold execOp
      simp only [hi.op, opF]
      simp [e0, e1, e2, e3, e4, go_sem]
    · rw [hi.dst]
      exact done_row (by omega) h [p.lb, p.tb, p.b3, p.b4, p.b5] 4 (fun _ => rfl)
theorem step13 (h : HoldsAt p w0 w a) (hi : IsOp ops 13 o) (hg : ∀ k ∈ depF 13, GoodAt p k a w) (hy : yielded ops a.tmps 3 = some (!p.b1)) : StepOk p w0 Q ops 13 o a w := by
  unfold StepOk
  cases hgd : (!p.b1) with
  | false =>
    rw [if_neg (by rw [wanted_some hi.guard hy, hgd]; decide), hi.dst]
    exact done_off (by omega) h hgd
  | true =>
    rw [if_pos (by rw [wanted_some hi.guard hy, hgd])]
    obtain ⟨gb, e0, hr0⟩ := good_row (hg 12 (by simp [depF])) hgd (show rowF p 12 = some [p.lb, p.tb, p.b3, p.b4, p.b5] from rfl)
    have e : a.tmps[32]? = some (Value.slice (some ⟨gb, 0, none⟩) 5 5) := e0
    have hr : Rd w 1 (some ⟨gb, 0, none⟩) 5 (([p.lb, p.tb, p.b3, p.b4, p.b5] : List Bool).map Value.bool) := hr0
    refine oper_enter (f := 31) (args := #[.slice (some ⟨gb, 0, none⟩) 5 5]) ?_ (.bool (p.lb || (p.tb || (p.b3 || (p.b4 || p.b5))))) (either_any _ 5 5 [p.lb, p.tb, p.b3, p.b4, p.b5] _ (by simp [List.any]) w hr (by omega)) ?_
    · unfold execOp
      simp only [hi.op, opF]
      simp [e, go_sem]
    · rw [hi.dst]
      exact done_pure (by omega) h _ rfl (fun _ => rfl)
theorem step14 (h : HoldsAt p w0 w a) (hi : IsOp ops 14 o) (hg : ∀ k ∈ depF 14, GoodAt p k a w) : StepOk p w0 Q ops 14 o a w := by
  unfold StepOk
  rw [if_pos (wanted_none hi.guard)]
  have e1 : a.eval (.tmp 23) = .bool (!p.b1) := evalT (hg 3 (by simp [depF]) rfl)
  cases hc : (!p.b1) with
  | false =>
    rw [hc] at e1
    refine oper_val (v := .bool false) (w' := w) ?_ ?_
    · unfold execOp
      simp only [hi.op, opF]
      rw [e1]
      first | rfl | go_simp
    · rw [hi.dst]
      exact done_pure (by omega) h _ rfl (fun _ => by unfold valF; rw [hc]; rfl)
  | true =>
    have e2 : a.eval (.tmp 33) = .bool (p.lb || (p.tb || (p.b3 || (p.b4 || p.b5)))) := evalT (hg 13 (by simp [depF]) hc)
    rw [hc] at e1
    refine oper_val (v := .bool (p.lb || (p.tb || (p.b3 || (p.b4 || p.b5))))) (w' := w) ?_ ?_
    · unfold execOp
      simp only [hi.op, opF]
      rw [e1, e2]
      first | rfl | go_simp
    · rw [hi.dst]
      exact done_pure (by omega) h _ rfl (fun _ => by unfold valF; rw [hc]; rfl)
theorem step15 (h : HoldsAt p w0 w a) (hi : IsOp ops 15 o) (hg : ∀ k ∈ depF 15, GoodAt p k a w) : StepOk p w0 Q ops 15 o a w := by
  unfold StepOk
  rw [if_pos (wanted_none hi.guard)]
  refine oper_val (v := .pointer (some ⟨p.B, 6, none⟩)) (w' := w) ?_ ?_
  · unfold execOp
    simp only [hi.op, opF, evalT h.s1, Sem.run_bind, fieldP6, Result.andThen_ok]
    rfl
  · rw [hi.dst]
    exact done_pure (by omega) h _ rfl (fun _ => rfl)
theorem step16 (h : HoldsAt p w0 w a) (hi : IsOp ops 16 o) (hg : ∀ k ∈ depF 16, GoodAt p k a w) : StepOk p w0 Q ops 16 o a w := by
  unfold StepOk
  rw [if_pos (wanted_none hi.guard)]
  have e : a.eval (.tmp 35) = .pointer (some ⟨p.B, 6, none⟩) := evalT (hg 15 (by simp [depF]) rfl)
  refine oper_val (v := .bool (p.b2)) (w' := w) ?_ ?_
  · have hc := h.c6
    unfold execOp
    simp only [hi.op, opF]
    rw [e]
    go_simp
  · rw [hi.dst]
    exact done_pure (by omega) h _ rfl (fun _ => rfl)
theorem step17 (h : HoldsAt p w0 w a) (hi : IsOp ops 17 o) (hg : ∀ k ∈ depF 17, GoodAt p k a w) : StepOk p w0 Q ops 17 o a w := by
  unfold StepOk
  rw [if_pos (wanted_none hi.guard)]
  have e : a.eval (.tmp 36) = .bool (p.b2) := evalT (hg 16 (by simp [depF]) rfl)
  refine oper_val (v := .bool (p.b2)) (w' := w) ?_ ?_
  · unfold execOp
    simp only [hi.op, opF]
    rw [e]
    rfl
  · rw [hi.dst]
    exact done_pure (by omega) h _ rfl (fun _ => rfl)
theorem step18 (h : HoldsAt p w0 w a) (hi : IsOp ops 18 o) (hg : ∀ k ∈ depF 18, GoodAt p k a w) (hy : yielded ops a.tmps 17 = some (p.b2)) : StepOk p w0 Q ops 18 o a w := by
  unfold StepOk
  cases hgd : (p.b2) with
  | false =>
    rw [if_neg (by rw [wanted_some hi.guard hy, hgd]; decide), hi.dst]
    exact done_off (by omega) h hgd
  | true =>
    rw [if_pos (by rw [wanted_some hi.guard hy, hgd])]
    have e : a.eval (.tmp 3) = .bool p.lb := evalT (h.s3)
    refine oper_val (v := .bool (p.lb)) (w' := w) ?_ ?_
    · unfold execOp
      simp only [hi.op, opF]
      rw [e]
      rfl
    · rw [hi.dst]
      exact done_pure (by omega) h _ rfl (fun _ => rfl)
theorem step19 (h : HoldsAt p w0 w a) (hi : IsOp ops 19 o) (hg : ∀ k ∈ depF 19, GoodAt p k a w) (hy : yielded ops a.tmps 17 = some (p.b2)) : StepOk p w0 Q ops 19 o a w := by
  unfold StepOk
  cases hgd : (p.b2) with
  | false =>
    rw [if_neg (by rw [wanted_some hi.guard hy, hgd]; decide), hi.dst]
    exact done_off (by omega) h hgd
  | true =>
    rw [if_pos (by rw [wanted_some hi.guard hy, hgd])]
    have e : a.eval (.tmp 38) = .bool (p.lb) := evalT (hg 18 (by simp [depF]) hgd)
    refine oper_val (v := .bool (!p.lb)) (w' := w) ?_ ?_
    · unfold execOp
      simp only [hi.op, opF]
      rw [e]
      go_simp
    · rw [hi.dst]
      exact done_pure (by omega) h _ rfl (fun _ => rfl)
theorem step20 (h : HoldsAt p w0 w a) (hi : IsOp ops 20 o) (hg : ∀ k ∈ depF 20, GoodAt p k a w) : StepOk p w0 Q ops 20 o a w := by
  unfold StepOk
  rw [if_pos (wanted_none hi.guard)]
  have e1 : a.eval (.tmp 37) = .bool (p.b2) := evalT (hg 17 (by simp [depF]) rfl)
  cases hc : (p.b2) with
  | false =>
    rw [hc] at e1
    refine oper_val (v := .bool false) (w' := w) ?_ ?_
    · unfold execOp
      simp only [hi.op, opF]
      rw [e1]
      first | rfl | go_simp
    · rw [hi.dst]
      exact done_pure (by omega) h _ rfl (fun _ => by unfold valF; rw [hc]; rfl)
  | true =>
    have e2 : a.eval (.tmp 39) = .bool (!p.lb) := evalT (hg 19 (by simp [depF]) hc)
    rw [hc] at e1
    refine oper_val (v := .bool (!p.lb)) (w' := w) ?_ ?_
    · unfold execOp
      simp only [hi.op, opF]
      rw [e1, e2]
      first | rfl | go_simp
    · rw [hi.dst]
      exact done_pure (by omega) h _ rfl (fun _ => by unfold valF; rw [hc]; rfl)
theorem step21 (h : HoldsAt p w0 w a) (hi : IsOp ops 21 o) (hg : ∀ k ∈ depF 21, GoodAt p k a w) : StepOk p w0 Q ops 21 o a w := by
  unfold StepOk
  rw [if_pos (wanted_none hi.guard)]
  refine oper_val (v := .pointer (some ⟨p.B, 7, none⟩)) (w' := w) ?_ ?_
  · unfold execOp
    simp only [hi.op, opF, evalT h.s1, Sem.run_bind, fieldP7, Result.andThen_ok]
    rfl
  · rw [hi.dst]
    exact done_pure (by omega) h _ rfl (fun _ => rfl)
theorem step22 (h : HoldsAt p w0 w a) (hi : IsOp ops 22 o) (hg : ∀ k ∈ depF 22, GoodAt p k a w) : StepOk p w0 Q ops 22 o a w := by
  unfold StepOk
  rw [if_pos (wanted_none hi.guard)]
  have e : a.eval (.tmp 41) = .pointer (some ⟨p.B, 7, none⟩) := evalT (hg 21 (by simp [depF]) rfl)
  refine oper_val (v := .bool (p.b3)) (w' := w) ?_ ?_
  · have hc := h.c7
    unfold execOp
    simp only [hi.op, opF]
    rw [e]
    go_simp
  · rw [hi.dst]
    exact done_pure (by omega) h _ rfl (fun _ => rfl)
theorem step23 (h : HoldsAt p w0 w a) (hi : IsOp ops 23 o) (hg : ∀ k ∈ depF 23, GoodAt p k a w) : StepOk p w0 Q ops 23 o a w := by
  unfold StepOk
  rw [if_pos (wanted_none hi.guard)]
  have e : a.eval (.tmp 42) = .bool (p.b3) := evalT (hg 22 (by simp [depF]) rfl)
  refine oper_val (v := .bool (p.b3)) (w' := w) ?_ ?_
  · unfold execOp
    simp only [hi.op, opF]
    rw [e]
    rfl
  · rw [hi.dst]
    exact done_pure (by omega) h _ rfl (fun _ => rfl)
theorem step24 (h : HoldsAt p w0 w a) (hi : IsOp ops 24 o) (hg : ∀ k ∈ depF 24, GoodAt p k a w) (hy : yielded ops a.tmps 23 = some (p.b3)) : StepOk p w0 Q ops 24 o a w := by
  unfold StepOk
  cases hgd : (p.b3) with
  | false =>
    rw [if_neg (by rw [wanted_some hi.guard hy, hgd]; decide), hi.dst]
    exact done_off (by omega) h hgd
  | true =>
    rw [if_pos (by rw [wanted_some hi.guard hy, hgd])]
    refine oper_val (v := .pointer (some ⟨p.B, 2, none⟩)) (w' := w) ?_ ?_
    · unfold execOp
      simp only [hi.op, opF, evalT h.s1, Sem.run_bind, fieldP2, Result.andThen_ok]
      rfl
    · rw [hi.dst]
      exact done_pure (by omega) h _ rfl (fun _ => rfl)
theorem step25 (h : HoldsAt p w0 w a) (hi : IsOp ops 25 o) (hg : ∀ k ∈ depF 25, GoodAt p k a w) (hy : yielded ops a.tmps 23 = some (p.b3)) : StepOk p w0 Q ops 25 o a w := by
  unfold StepOk
  cases hgd : (p.b3) with
  | false =>
    rw [if_neg (by rw [wanted_some hi.guard hy, hgd]; decide), hi.dst]
    exact done_off (by omega) h hgd
  | true =>
    rw [if_pos (by rw [wanted_some hi.guard hy, hgd])]
    have e : a.eval (.tmp 44) = .pointer (some ⟨p.B, 2, none⟩) := evalT (hg 24 (by simp [depF]) hgd)
    refine oper_val (v := .int .i64 p.t) (w' := w) ?_ ?_
    · have hc := h.c2
      unfold execOp
      simp only [hi.op, opF]
      rw [e]
      go_simp
    · rw [hi.dst]
      exact done_pure (by omega) h _ rfl (fun _ => rfl)
theorem step26 (h : HoldsAt p w0 w a) (hi : IsOp ops 26 o) (hg : ∀ k ∈ depF 26, GoodAt p k a w) (hy : yielded ops a.tmps 23 = some (p.b3)) : StepOk p w0 Q ops 26 o a w := by
  unfold StepOk
  cases hgd : (p.b3) with
  | false =>
    rw [if_neg (by rw [wanted_some hi.guard hy, hgd]; decide), hi.dst]
    exact done_off (by omega) h hgd
  | true =>
    rw [if_pos (by rw [wanted_some hi.guard hy, hgd])]
    have e : a.eval (.tmp 45) = .int .i64 p.t := evalT (hg 25 (by simp [depF]) hgd)
    refine oper_val (v := .bool (p.t == 3)) (w' := w) ?_ ?_
    · unfold execOp
      simp only [hi.op, opF]
      rw [e]
      go_simp
    · rw [hi.dst]
      exact done_pure (by omega) h _ rfl (fun _ => rfl)
theorem step27 (h : HoldsAt p w0 w a) (hi : IsOp ops 27 o) (hg : ∀ k ∈ depF 27, GoodAt p k a w) (hy : yielded ops a.tmps 23 = some (p.b3)) : StepOk p w0 Q ops 27 o a w := by
  unfold StepOk
  cases hgd : (p.b3) with
  | false =>
    rw [if_neg (by rw [wanted_some hi.guard hy, hgd]; decide), hi.dst]
    exact done_off (by omega) h hgd
  | true =>
    rw [if_pos (by rw [wanted_some hi.guard hy, hgd])]
    refine oper_val (v := .pointer (some ⟨p.B, 2, none⟩)) (w' := w) ?_ ?_
    · unfold execOp
      simp only [hi.op, opF, evalT h.s1, Sem.run_bind, fieldP2, Result.andThen_ok]
      rfl
    · rw [hi.dst]
      exact done_pure (by omega) h _ rfl (fun _ => rfl)
theorem step28 (h : HoldsAt p w0 w a) (hi : IsOp ops 28 o) (hg : ∀ k ∈ depF 28, GoodAt p k a w) (hy : yielded ops a.tmps 23 = some (p.b3)) : StepOk p w0 Q ops 28 o a w := by
  unfold StepOk
  cases hgd : (p.b3) with
  | false =>
    rw [if_neg (by rw [wanted_some hi.guard hy, hgd]; decide), hi.dst]
    exact done_off (by omega) h hgd
  | true =>
    rw [if_pos (by rw [wanted_some hi.guard hy, hgd])]
    have e : a.eval (.tmp 47) = .pointer (some ⟨p.B, 2, none⟩) := evalT (hg 27 (by simp [depF]) hgd)
    refine oper_val (v := .int .i64 p.t) (w' := w) ?_ ?_
    · have hc := h.c2
      unfold execOp
      simp only [hi.op, opF]
      rw [e]
      go_simp
    · rw [hi.dst]
      exact done_pure (by omega) h _ rfl (fun _ => rfl)
theorem step29 (h : HoldsAt p w0 w a) (hi : IsOp ops 29 o) (hg : ∀ k ∈ depF 29, GoodAt p k a w) (hy : yielded ops a.tmps 23 = some (p.b3)) : StepOk p w0 Q ops 29 o a w := by
  unfold StepOk
  cases hgd : (p.b3) with
  | false =>
    rw [if_neg (by rw [wanted_some hi.guard hy, hgd]; decide), hi.dst]
    exact done_off (by omega) h hgd
  | true =>
    rw [if_pos (by rw [wanted_some hi.guard hy, hgd])]
    have e : a.eval (.tmp 48) = .int .i64 p.t := evalT (hg 28 (by simp [depF]) hgd)
    refine oper_val (v := .bool (p.t == 4)) (w' := w) ?_ ?_
    · unfold execOp
      simp only [hi.op, opF]
      rw [e]
      go_simp
    · rw [hi.dst]
      exact done_pure (by omega) h _ rfl (fun _ => rfl)
theorem step30 (h : HoldsAt p w0 w a) (hi : IsOp ops 30 o) (hg : ∀ k ∈ depF 30, GoodAt p k a w) (hy : yielded ops a.tmps 23 = some (p.b3)) : StepOk p w0 Q ops 30 o a w := by
  unfold StepOk
  cases hgd : (p.b3) with
  | false =>
    rw [if_neg (by rw [wanted_some hi.guard hy, hgd]; decide), hi.dst]
    exact done_off (by omega) h hgd
  | true =>
    rw [if_pos (by rw [wanted_some hi.guard hy, hgd])]
    have e0 : a.tmps[46]? = some (.bool (p.t == 3)) := hg 26 (by simp [depF]) hgd
    have e1 : a.tmps[49]? = some (.bool (p.t == 4)) := hg 29 (by simp [depF]) hgd
    refine oper_val (v := .slice (some ⟨w.heap.size, 0, none⟩) 2 2) (w' := w.alloc (.cells (([p.t == 3, p.t == 4] : List Bool).map Value.bool).toArray 4)) ?_ ?_
    · unfold execOp
      simp only [hi.op, opF]
      simp [e0, e1, go_sem]
    · rw [hi.dst]
      exact done_row (by omega) h [p.t == 3, p.t == 4] 4 (fun _ => rfl)
theorem step31 (h : HoldsAt p w0 w a) (hi : IsOp ops 31 o) (hg : ∀ k ∈ depF 31, GoodAt p k a w) (hy : yielded ops a.tmps 23 = some (p.b3)) : StepOk p w0 Q ops 31 o a w := by
  unfold StepOk
  cases hgd : (p.b3) with
  | false =>
    rw [if_neg (by rw [wanted_some hi.guard hy, hgd]; decide), hi.dst]
    exact done_off (by omega) h hgd
  | true =>
    rw [if_pos (by rw [wanted_some hi.guard hy, hgd])]
    obtain ⟨gb, e0, hr0⟩ := good_row (hg 30 (by simp [depF])) hgd (show rowF p 30 = some [p.t == 3, p.t == 4] from rfl)
    have e : a.tmps[50]? = some (Value.slice (some ⟨gb, 0, none⟩) 2 2) := e0
    have hr : Rd w 1 (some ⟨gb, 0, none⟩) 2 (([p.t == 3, p.t == 4] : List Bool).map Value.bool) := hr0
    refine oper_enter (f := 31) (args := #[.slice (some ⟨gb, 0, none⟩) 2 2]) ?_ (.bool ((p.t == 3) || (p.t == 4))) (either_any _ 2 2 [p.t == 3, p.t == 4] _ (by simp [List.any]) w hr (by omega)) ?_
    · unfold execOp
      simp only [hi.op, opF]
      simp [e, go_sem]
    · rw [hi.dst]
      exact done_pure (by omega) h _ rfl (fun _ => rfl)
theorem step32 (h : HoldsAt p w0 w a) (hi : IsOp ops 32 o) (hg : ∀ k ∈ depF 32, GoodAt p k a w) : StepOk p w0 Q ops 32 o a w := by
  unfold StepOk
  rw [if_pos (wanted_none hi.guard)]
  have e1 : a.eval (.tmp 43) = .bool (p.b3) := evalT (hg 23 (by simp [depF]) rfl)
  cases hc : (p.b3) with
  | false =>
    rw [hc] at e1
    refine oper_val (v := .bool false) (w' := w) ?_ ?_
    · unfold execOp
      simp only [hi.op, opF]
      rw [e1]
      first | rfl | go_simp
    · rw [hi.dst]
      exact done_pure (by omega) h _ rfl (fun _ => by unfold valF; rw [hc]; rfl)
  | true =>
    have e2 : a.eval (.tmp 51) = .bool ((p.t == 3) || (p.t == 4)) := evalT (hg 31 (by simp [depF]) hc)
    rw [hc] at e1
    refine oper_val (v := .bool ((p.t == 3) || (p.t == 4))) (w' := w) ?_ ?_
    · unfold execOp
      simp only [hi.op, opF]
      rw [e1, e2]
      first | rfl | go_simp
    · rw [hi.dst]
      exact done_pure (by omega) h _ rfl (fun _ => by unfold valF; rw [hc]; rfl)
theorem step33 (h : HoldsAt p w0 w a) (hi : IsOp ops 33 o) (hg : ∀ k ∈ depF 33, GoodAt p k a w) : StepOk p w0 Q ops 33 o a w := by
  unfold StepOk
  rw [if_pos (wanted_none hi.guard)]
  refine oper_val (v := .pointer (some ⟨p.B, 11, none⟩)) (w' := w) ?_ ?_
  · unfold execOp
    simp only [hi.op, opF, evalT h.s1, Sem.run_bind, fieldP11, Result.andThen_ok]
    rfl
  · rw [hi.dst]
    exact done_pure (by omega) h _ rfl (fun _ => rfl)
theorem step34 (h : HoldsAt p w0 w a) (hi : IsOp ops 34 o) (hg : ∀ k ∈ depF 34, GoodAt p k a w) : StepOk p w0 Q ops 34 o a w := by
  unfold StepOk
  rw [if_pos (wanted_none hi.guard)]
  have e : a.eval (.tmp 53) = .pointer (some ⟨p.B, 11, none⟩) := evalT (hg 33 (by simp [depF]) rfl)
  refine oper_val (v := .bool (p.b7)) (w' := w) ?_ ?_
  · have hc := h.c11
    unfold execOp
    simp only [hi.op, opF]
    rw [e]
    go_simp
  · rw [hi.dst]
    exact done_pure (by omega) h _ rfl (fun _ => rfl)
theorem step35 (h : HoldsAt p w0 w a) (hi : IsOp ops 35 o) (hg : ∀ k ∈ depF 35, GoodAt p k a w) : StepOk p w0 Q ops 35 o a w := by
  unfold StepOk
  rw [if_pos (wanted_none hi.guard)]
  have e : a.eval (.tmp 54) = .bool (p.b7) := evalT (hg 34 (by simp [depF]) rfl)
  refine oper_val (v := .bool (p.b7)) (w' := w) ?_ ?_
  · unfold execOp
    simp only [hi.op, opF]
    rw [e]
    rfl
  · rw [hi.dst]
    exact done_pure (by omega) h _ rfl (fun _ => rfl)
theorem step36 (h : HoldsAt p w0 w a) (hi : IsOp ops 36 o) (hg : ∀ k ∈ depF 36, GoodAt p k a w) (hy : yielded ops a.tmps 35 = some (p.b7)) : StepOk p w0 Q ops 36 o a w := by
  unfold StepOk
  cases hgd : (p.b7) with
  | false =>
    rw [if_neg (by rw [wanted_some hi.guard hy, hgd]; decide), hi.dst]
    exact done_off (by omega) h hgd
  | true =>
    rw [if_pos (by rw [wanted_some hi.guard hy, hgd])]
    refine oper_val (v := .pointer (some ⟨p.B, 10, none⟩)) (w' := w) ?_ ?_
    · unfold execOp
      simp only [hi.op, opF, evalT h.s1, Sem.run_bind, fieldP10, Result.andThen_ok]
      rfl
    · rw [hi.dst]
      exact done_pure (by omega) h _ rfl (fun _ => rfl)
theorem step37 (h : HoldsAt p w0 w a) (hi : IsOp ops 37 o) (hg : ∀ k ∈ depF 37, GoodAt p k a w) (hy : yielded ops a.tmps 35 = some (p.b7)) : StepOk p w0 Q ops 37 o a w := by
  unfold StepOk
  cases hgd : (p.b7) with
  | false =>
    rw [if_neg (by rw [wanted_some hi.guard hy, hgd]; decide), hi.dst]
    exact done_off (by omega) h hgd
  | true =>
    rw [if_pos (by rw [wanted_some hi.guard hy, hgd])]
    have e : a.eval (.tmp 56) = .pointer (some ⟨p.B, 10, none⟩) := evalT (hg 36 (by simp [depF]) hgd)
    refine oper_val (v := .bool (p.b6)) (w' := w) ?_ ?_
    · have hc := h.c10
      unfold execOp
      simp only [hi.op, opF]
      rw [e]
      go_simp
    · rw [hi.dst]
      exact done_pure (by omega) h _ rfl (fun _ => rfl)
theorem step38 (h : HoldsAt p w0 w a) (hi : IsOp ops 38 o) (hg : ∀ k ∈ depF 38, GoodAt p k a w) (hy : yielded ops a.tmps 35 = some (p.b7)) : StepOk p w0 Q ops 38 o a w := by
  unfold StepOk
  cases hgd : (p.b7) with
  | false =>
    rw [if_neg (by rw [wanted_some hi.guard hy, hgd]; decide), hi.dst]
    exact done_off (by omega) h hgd
  | true =>
    rw [if_pos (by rw [wanted_some hi.guard hy, hgd])]
    have e : a.eval (.tmp 57) = .bool (p.b6) := evalT (hg 37 (by simp [depF]) hgd)
    refine oper_val (v := .bool (!p.b6)) (w' := w) ?_ ?_
    · unfold execOp
      simp only [hi.op, opF]
      rw [e]
      go_simp
    · rw [hi.dst]
      exact done_pure (by omega) h _ rfl (fun _ => rfl)
theorem step39 (h : HoldsAt p w0 w a) (hi : IsOp ops 39 o) (hg : ∀ k ∈ depF 39, GoodAt p k a w) : StepOk p w0 Q ops 39 o a w := by
  unfold StepOk
  rw [if_pos (wanted_none hi.guard)]
  have e1 : a.eval (.tmp 55) = .bool (p.b7) := evalT (hg 35 (by simp [depF]) rfl)
  cases hc : (p.b7) with
  | false =>
    rw [hc] at e1
    refine oper_val (v := .bool false) (w' := w) ?_ ?_
    · unfold execOp
      simp only [hi.op, opF]
      rw [e1]
      first | rfl | go_simp
    · rw [hi.dst]
      exact done_pure (by omega) h _ rfl (fun _ => by unfold valF; rw [hc]; rfl)
  | true =>
    have e2 : a.eval (.tmp 58) = .bool (!p.b6) := evalT (hg 38 (by simp [depF]) hc)
    rw [hc] at e1
    refine oper_val (v := .bool (!p.b6)) (w' := w) ?_ ?_
    · unfold execOp
      simp only [hi.op, opF]
      rw [e1, e2]
      first | rfl | go_simp
    · rw [hi.dst]
      exact done_pure (by omega) h _ rfl (fun _ => by unfold valF; rw [hc]; rfl)
theorem step40 (h : HoldsAt p w0 w a) (hi : IsOp ops 40 o) (hg : ∀ k ∈ depF 40, GoodAt p k a w) : StepOk p w0 Q ops 40 o a w := by
  unfold StepOk
  rw [if_pos (wanted_none hi.guard)]
  have e0 : a.tmps[34]? = some (.bool (!p.b1 && (p.lb || (p.tb || (p.b3 || (p.b4 || p.b5)))))) := hg 14 (by simp [depF]) rfl
  have e1 : a.tmps[40]? = some (.bool (p.b2 && !p.lb)) := hg 20 (by simp [depF]) rfl
  have e2 : a.tmps[52]? = some (.bool (p.b3 && ((p.t == 3) || (p.t == 4)))) := hg 32 (by simp [depF]) rfl
  have e3 : a.tmps[59]? = some (.bool (p.b7 && !p.b6)) := hg 39 (by simp [depF]) rfl
  refine oper_val (v := .slice (some ⟨w.heap.size, 0, none⟩) 4 4) (w' := w.alloc (.cells (([!p.b1 && (p.lb || (p.tb || (p.b3 || (p.b4 || p.b5)))), p.b2 && !p.lb, p.b3 && ((p.t == 3) || (p.t == 4)), p.b7 && !p.b6] : List Bool).map Value.bool).toArray 4)) ?_ ?_
  · unfold execOp
    simp only [hi.op, opF]
    simp [e0, e1, e2, e3, go_sem]
  · rw [hi.dst]
    exact done_row (by omega) h [!p.b1 && (p.lb || (p.tb || (p.b3 || (p.b4 || p.b5)))), p.b2 && !p.lb, p.b3 && ((p.t == 3) || (p.t == 4)), p.b7 && !p.b6] 4 (fun _ => rfl)
theorem step41 (h : HoldsAt p w0 w a) (hi : IsOp ops 41 o) (hg : ∀ k ∈ depF 41, GoodAt p k a w) : StepOk p w0 Q ops 41 o a w := by
  unfold StepOk
  rw [if_pos (wanted_none hi.guard)]
  obtain ⟨gb, e0, hr0⟩ := good_row (hg 40 (by simp [depF])) rfl (show rowF p 40 = some [!p.b1 && (p.lb || (p.tb || (p.b3 || (p.b4 || p.b5)))), p.b2 && !p.lb, p.b3 && ((p.t == 3) || (p.t == 4)), p.b7 && !p.b6] from rfl)
  have e : a.tmps[60]? = some (Value.slice (some ⟨gb, 0, none⟩) 4 4) := e0
  have hr : Rd w 1 (some ⟨gb, 0, none⟩) 4 (([!p.b1 && (p.lb || (p.tb || (p.b3 || (p.b4 || p.b5)))), p.b2 && !p.lb, p.b3 && ((p.t == 3) || (p.t == 4)), p.b7 && !p.b6] : List Bool).map Value.bool) := hr0
  refine oper_enter (f := 31) (args := #[.slice (some ⟨gb, 0, none⟩) 4 4]) ?_ (.bool ((!p.b1 && (p.lb || (p.tb || (p.b3 || (p.b4 || p.b5))))) || ((p.b2 && !p.lb) || ((p.b3 && ((p.t == 3) || (p.t == 4))) || (p.b7 && !p.b6))))) (either_any _ 4 4 [!p.b1 && (p.lb || (p.tb || (p.b3 || (p.b4 || p.b5)))), p.b2 && !p.lb, p.b3 && ((p.t == 3) || (p.t == 4)), p.b7 && !p.b6] _ (by simp [List.any]) w hr (by omega)) ?_
  · unfold execOp
    simp only [hi.op, opF]
    simp [e, go_sem]
  · rw [hi.dst]
    exact done_pure (by omega) h _ rfl (fun _ => rfl)
theorem step42 (h : HoldsAt p w0 w a) (hi : IsOp ops 42 o) (hg : ∀ k ∈ depF 42, GoodAt p k a w) : StepOk p w0 Q ops 42 o a w := by
  unfold StepOk
  rw [if_pos (wanted_none hi.guard)]
  have e : a.eval (.tmp 61) = .bool ((!p.b1 && (p.lb || (p.tb || (p.b3 || (p.b4 || p.b5))))) || ((p.b2 && !p.lb) || ((p.b3 && ((p.t == 3) || (p.t == 4))) || (p.b7 && !p.b6)))) := evalT (hg 41 (by simp [depF]) rfl)
  refine oper_val (v := .bool ((!p.b1 && (p.lb || (p.tb || (p.b3 || (p.b4 || p.b5))))) || ((p.b2 && !p.lb) || ((p.b3 && ((p.t == 3) || (p.t == 4))) || (p.b7 && !p.b6))))) (w' := w) ?_ ?_
  · unfold execOp
    simp only [hi.op, opF]
    rw [e]
    rfl
  · rw [hi.dst]
    exact done_pure (by omega) h _ rfl (fun _ => rfl)
end
end Go.Proofs.YtcdogkabdhbjmaaDoor
