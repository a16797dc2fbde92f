/- Texts of one claim, one behind the other. -/
import Derived.Handy
import Derived.Laws.ResultCell
import Derived.Test.YtanngknhbgcobaaGreatDoorMgTb1
import Derived.Test.YtanngknhbgcobaaGreatDoorMgTb4
/- option.Check's region that draws its order: its operations, and a step for each. -/
namespace Go.Proofs.YtanngknhbgcobaaGreatDoor
open Go.RowKit

def opF : Nat → Op
  | 0 => .fieldAddr 24 (.tmp 1) 5
  | 1 => .load 4 (.tmp 20)
  | 2 => .unOp .not 4 (.tmp 21)
  | 3 => .move (.tmp 22)
  | 4 => .move (.tmp 3)
  | 5 => .move (.tmp 4)
  | 6 => .fieldAddr 24 (.tmp 1) 7
  | 7 => .load 4 (.tmp 26)
  | 8 => .fieldAddr 24 (.tmp 1) 8
  | 9 => .load 4 (.tmp 28)
  | 10 => .fieldAddr 24 (.tmp 1) 9
  | 11 => .load 4 (.tmp 30)
  | 12 => .buildSlice 162 5 #[(0, .tmp 24), (1, .tmp 25), (2, .tmp 27), (3, .tmp 29), (4, .tmp 31)]
  | 13 => .call { callee := .value (.func 57), args := #[.tmp 32], argTypes := #[162] }
  | 14 => .pick (.tmp 23) (.tmp 33) (.const (.bool false))
  | 15 => .fieldAddr 24 (.tmp 1) 6
  | 16 => .load 4 (.tmp 35)
  | 17 => .move (.tmp 36)
  | 18 => .move (.tmp 3)
  | 19 => .unOp .not 4 (.tmp 38)
  | 20 => .pick (.tmp 37) (.tmp 39) (.const (.bool false))
  | 21 => .fieldAddr 24 (.tmp 1) 7
  | 22 => .load 4 (.tmp 41)
  | 23 => .move (.tmp 42)
  | 24 => .fieldAddr 24 (.tmp 1) 2
  | 25 => .load 3 (.tmp 44)
  | 26 => .binOp .eql 3 (.tmp 45) (.const (.int .i64 3)) 3
  | 27 => .fieldAddr 24 (.tmp 1) 2
  | 28 => .load 3 (.tmp 47)
  | 29 => .binOp .eql 3 (.tmp 48) (.const (.int .i64 4)) 3
  | 30 => .buildSlice 162 2 #[(0, .tmp 46), (1, .tmp 49)]
  | 31 => .call { callee := .value (.func 57), args := #[.tmp 50], argTypes := #[162] }
  | 32 => .pick (.tmp 43) (.tmp 51) (.const (.bool false))
  | 33 => .fieldAddr 24 (.tmp 1) 11
  | 34 => .load 4 (.tmp 53)
  | 35 => .move (.tmp 54)
  | 36 => .fieldAddr 24 (.tmp 1) 10
  | 37 => .load 4 (.tmp 56)
  | 38 => .unOp .not 4 (.tmp 57)
  | 39 => .pick (.tmp 55) (.tmp 58) (.const (.bool false))
  | 40 => .buildSlice 162 4 #[(0, .tmp 34), (1, .tmp 40), (2, .tmp 52), (3, .tmp 59)]
  | 41 => .call { callee := .value (.func 57), args := #[.tmp 60], argTypes := #[162] }
  | 42 => .assign (.tmp 61)
  | _ => .move (.tmp 0)
def guF : Nat → Option (Nat × Bool)
  | 4 => some (3, true)
  | 5 => some (3, true)
  | 6 => some (3, true)
  | 7 => some (3, true)
  | 8 => some (3, true)
  | 9 => some (3, true)
  | 10 => some (3, true)
  | 11 => some (3, true)
  | 12 => some (3, true)
  | 13 => some (3, true)
  | 18 => some (17, true)
  | 19 => some (17, true)
  | 24 => some (23, true)
  | 25 => some (23, true)
  | 26 => some (23, true)
  | 27 => some (23, true)
  | 28 => some (23, true)
  | 29 => some (23, true)
  | 30 => some (23, true)
  | 31 => some (23, true)
  | 36 => some (35, true)
  | 37 => some (35, true)
  | 38 => some (35, true)
  | _ => none
def depF : Nat → List Nat
  | 0 => []
  | 1 => [0]
  | 2 => [1]
  | 3 => [2]
  | 4 => [3]
  | 5 => [3]
  | 6 => [3]
  | 7 => [3, 6]
  | 8 => [3]
  | 9 => [3, 8]
  | 10 => [3]
  | 11 => [3, 10]
  | 12 => [3, 4, 5, 7, 9, 11]
  | 13 => [3, 12]
  | 14 => [3, 13]
  | 15 => []
  | 16 => [15]
  | 17 => [16]
  | 18 => [17]
  | 19 => [17, 18]
  | 20 => [17, 19]
  | 21 => []
  | 22 => [21]
  | 23 => [22]
  | 24 => [23]
  | 25 => [23, 24]
  | 26 => [23, 25]
  | 27 => [23]
  | 28 => [23, 27]
  | 29 => [23, 28]
  | 30 => [23, 26, 29]
  | 31 => [23, 30]
  | 32 => [23, 31]
  | 33 => []
  | 34 => [33]
  | 35 => [34]
  | 36 => [35]
  | 37 => [35, 36]
  | 38 => [35, 37]
  | 39 => [35, 38]
  | 40 => [14, 20, 32, 39]
  | 41 => [40]
  | 42 => [41]
  | _ => []
/-- The operation is the one that is meant. -/
structure IsOp (ops : Array Oper) (i : Nat) (o : Oper) : Prop where
  dst : o.dst = some (slotF i)
  op : o.op = opF i
  guard : o.guard = guF i
  deps : ∀ k ∈ depF i, ∃ e ∈ o.after, e.on = k ∧ Region.binds .any e = true
section
variable {p : Prm} {w0 w : World} {a : Act} {Q : Exit → Act → World → Prop} {o : Oper} {ops : Array Oper}
def StepOk (p : Prm) (w0 : World) (Q : Exit → Act → World → Prop) (ops : Array Oper) (i : Nat) (o : Oper) (a : Act) (w : World) : Prop :=
  if Region.wanted o (yielded ops a.tmps) = true then o.wp Tryz.prog a w (fun a' w' => HoldsAt p w0 w' a' ∧ GoodAt p i a' w' ∧ ∀ j, j ≠ i → GoodAt p j a w → GoodAt p j a' w') Q else HoldsAt p w0 w (a.put o.dst undef) ∧ GoodAt p i (a.put o.dst undef) w ∧ ∀ j, j ≠ i → GoodAt p j a w → GoodAt p j (a.put o.dst undef) w
theorem good_row {i : Nat} {l : List Bool} (h : GoodAt p i a w) (hg : gdF p i = true) (hr : rowF p i = some l) : ∃ g, a.tmps[slotF i]? = some (.slice (some ⟨g, 0, none⟩) l.length l.length) ∧ Rd w 1 (some ⟨g, 0, none⟩) l.length (l.map Value.bool) := by
  have h2 := h hg
  rw [hr] at h2
  exact h2
theorem oper_enter {f : FuncId} {args : Array Value} {K : Act → World → Prop} (h : (execOp a.eval o).run Tryz.prog w = .ok (.enter f args) w) (v : Value) (hc : Calls Tryz.prog f args w fun e w' => e = .returned v ∧ w = w') (hk : K (a.put o.dst v) w) : o.wp Tryz.prog a w K Q := by
  unfold Oper.wp
  rw [h]
  refine Calls.mono hc ?_
  rintro e w' ⟨rfl, rfl⟩
  exact hk
theorem evalT {a : Act} {k : Nat} {v : Value} (h : a.tmps[k]? = some v) : a.eval (.tmp k) = v := by
  simp only [Act.eval]
  rw [Array.getD_eq_getD_getElem?, h]
  rfl
theorem fieldP2 (B : Nat) (w : World) : (Instr.fieldAt 24 (.pointer (some ⟨B, 0, none⟩)) 2).run Tryz.prog w = .ok (.pointer (some ⟨B, 2, none⟩)) w := by
  go_simp
theorem fieldP5 (B : Nat) (w : World) : (Instr.fieldAt 24 (.pointer (some ⟨B, 0, none⟩)) 5).run Tryz.prog w = .ok (.pointer (some ⟨B, 5, none⟩)) w := by
  go_simp
theorem fieldP6 (B : Nat) (w : World) : (Instr.fieldAt 24 (.pointer (some ⟨B, 0, none⟩)) 6).run Tryz.prog w = .ok (.pointer (some ⟨B, 6, none⟩)) w := by
  go_simp
theorem fieldP7 (B : Nat) (w : World) : (Instr.fieldAt 24 (.pointer (some ⟨B, 0, none⟩)) 7).run Tryz.prog w = .ok (.pointer (some ⟨B, 7, none⟩)) w := by
  go_simp
theorem fieldP8 (B : Nat) (w : World) : (Instr.fieldAt 24 (.pointer (some ⟨B, 0, none⟩)) 8).run Tryz.prog w = .ok (.pointer (some ⟨B, 8, none⟩)) w := by
  go_simp
theorem fieldP9 (B : Nat) (w : World) : (Instr.fieldAt 24 (.pointer (some ⟨B, 0, none⟩)) 9).run Tryz.prog w = .ok (.pointer (some ⟨B, 9, none⟩)) w := by
  go_simp
theorem fieldP10 (B : Nat) (w : World) : (Instr.fieldAt 24 (.pointer (some ⟨B, 0, none⟩)) 10).run Tryz.prog w = .ok (.pointer (some ⟨B, 10, none⟩)) w := by
  go_simp
theorem fieldP11 (B : Nat) (w : World) : (Instr.fieldAt 24 (.pointer (some ⟨B, 0, none⟩)) 11).run Tryz.prog w = .ok (.pointer (some ⟨B, 11, none⟩)) w := by
  go_simp
theorem step0 (h : HoldsAt p w0 w a) (hi : IsOp ops 0 o) (hg : ∀ k ∈ depF 0, GoodAt p k a w) : StepOk p w0 Q ops 0 o a w := by
  unfold StepOk
  rw [if_pos (wanted_none hi.guard)]
  refine oper_val (v := .pointer (some ⟨p.B, 5, none⟩)) (w' := w) ?_ ?_
  · unfold execOp
    simp only [hi.op, opF, evalT h.s1, Sem.run_bind, fieldP5, Result.andThen_ok]
    rfl
  · rw [hi.dst]
    exact done_pure (by omega) h _ rfl (fun _ => rfl)
theorem step1 (h : HoldsAt p w0 w a) (hi : IsOp ops 1 o) (hg : ∀ k ∈ depF 1, GoodAt p k a w) : StepOk p w0 Q ops 1 o a w := by
  unfold StepOk
  rw [if_pos (wanted_none hi.guard)]
  have e : a.eval (.tmp 20) = .pointer (some ⟨p.B, 5, none⟩) := evalT (hg 0 (by simp [depF]) rfl)
  refine oper_val (v := .bool (p.b1)) (w' := w) ?_ ?_
  · have hc := h.c5
    unfold execOp
    simp only [hi.op, opF]
    rw [e]
    go_simp
  · rw [hi.dst]
    exact done_pure (by omega) h _ rfl (fun _ => rfl)
theorem step2 (h : HoldsAt p w0 w a) (hi : IsOp ops 2 o) (hg : ∀ k ∈ depF 2, GoodAt p k a w) : StepOk p w0 Q ops 2 o a w := by
  unfold StepOk
  rw [if_pos (wanted_none hi.guard)]
  have e : a.eval (.tmp 21) = .bool (p.b1) := evalT (hg 1 (by simp [depF]) rfl)
  refine oper_val (v := .bool (!p.b1)) (w' := w) ?_ ?_
  · unfold execOp
    simp only [hi.op, opF]
    rw [e]
    go_simp
  · rw [hi.dst]
    exact done_pure (by omega) h _ rfl (fun _ => rfl)
theorem step3 (h : HoldsAt p w0 w a) (hi : IsOp ops 3 o) (hg : ∀ k ∈ depF 3, GoodAt p k a w) : StepOk p w0 Q ops 3 o a w := by
  unfold StepOk
  rw [if_pos (wanted_none hi.guard)]
  have e : a.eval (.tmp 22) = .bool (!p.b1) := evalT (hg 2 (by simp [depF]) rfl)
  refine oper_val (v := .bool (!p.b1)) (w' := w) ?_ ?_
  · unfold execOp
    simp only [hi.op, opF]
    rw [e]
    rfl
  · rw [hi.dst]
    exact done_pure (by omega) h _ rfl (fun _ => rfl)
theorem step4 (h : HoldsAt p w0 w a) (hi : IsOp ops 4 o) (hg : ∀ k ∈ depF 4, GoodAt p k a w) (hy : yielded ops a.tmps 3 = some (!p.b1)) : StepOk p w0 Q ops 4 o a w := by
  unfold StepOk
  cases hgd : (!p.b1) with
  | false =>
    rw [if_neg (by rw [wanted_some hi.guard hy, hgd]; decide), hi.dst]
    exact done_off (by omega) h hgd
  | true =>
    rw [if_pos (by rw [wanted_some hi.guard hy, hgd])]
    have e : a.eval (.tmp 3) = .bool p.lb := evalT (h.s3)
    refine oper_val (v := .bool (p.lb)) (w' := w) ?_ ?_
    · unfold execOp
      simp only [hi.op, opF]
      rw [e]
      rfl
    · rw [hi.dst]
      exact done_pure (by omega) h _ rfl (fun _ => rfl)
theorem step5 (h : HoldsAt p w0 w a) (hi : IsOp ops 5 o) (hg : ∀ k ∈ depF 5, GoodAt p k a w) (hy : yielded ops a.tmps 3 = some (!p.b1)) : StepOk p w0 Q ops 5 o a w := by
  unfold StepOk
  cases hgd : (!p.b1) with
  | false =>
    rw [if_neg (by rw [wanted_some hi.guard hy, hgd]; decide), hi.dst]
    exact done_off (by omega) h hgd
  | true =>
    rw [if_pos (by rw [wanted_some hi.guard hy, hgd])]
    have e : a.eval (.tmp 4) = .bool p.tb := evalT (h.s4)
    refine oper_val (v := .bool (p.tb)) (w' := w) ?_ ?_
    · unfold execOp
      simp only [hi.op, opF]
      rw [e]
      rfl
    · rw [hi.dst]
      exact done_pure (by omega) h _ rfl (fun _ => rfl)
theorem step6 (h : HoldsAt p w0 w a) (hi : IsOp ops 6 o) (hg : ∀ k ∈ depF 6, GoodAt p k a w) (hy : yielded ops a.tmps 3 = some (!p.b1)) : StepOk p w0 Q ops 6 o a w := by
  unfold StepOk
  cases hgd : (!p.b1) with
  | false =>
    rw [if_neg (by rw [wanted_some hi.guard hy, hgd]; decide), hi.dst]
    exact done_off (by omega) h hgd
  | true =>
    rw [if_pos (by rw [wanted_some hi.guard hy, hgd])]
    refine oper_val (v := .pointer (some ⟨p.B, 7, none⟩)) (w' := w) ?_ ?_
    · unfold execOp
      simp only [hi.op, opF, evalT h.s1, Sem.run_bind, fieldP7, Result.andThen_ok]
      rfl
    · rw [hi.dst]
      exact done_pure (by omega) h _ rfl (fun _ => rfl)
theorem step7 (h : HoldsAt p w0 w a) (hi : IsOp ops 7 o) (hg : ∀ k ∈ depF 7, GoodAt p k a w) (hy : yielded ops a.tmps 3 = some (!p.b1)) : StepOk p w0 Q ops 7 o a w := by
  unfold StepOk
  cases hgd : (!p.b1) with
  | false =>
    rw [if_neg (by rw [wanted_some hi.guard hy, hgd]; decide), hi.dst]
    exact done_off (by omega) h hgd
  | true =>
    rw [if_pos (by rw [wanted_some hi.guard hy, hgd])]
    have e : a.eval (.tmp 26) = .pointer (some ⟨p.B, 7, none⟩) := evalT (hg 6 (by simp [depF]) hgd)
    refine oper_val (v := .bool (p.b3)) (w' := w) ?_ ?_
    · have hc := h.c7
      unfold execOp
      simp only [hi.op, opF]
      rw [e]
      go_simp
    · rw [hi.dst]
      exact done_pure (by omega) h _ rfl (fun _ => rfl)
theorem step8 (h : HoldsAt p w0 w a) (hi : IsOp ops 8 o) (hg : ∀ k ∈ depF 8, GoodAt p k a w) (hy : yielded ops a.tmps 3 = some (!p.b1)) : StepOk p w0 Q ops 8 o a w := by
  unfold StepOk
  cases hgd : (!p.b1) with
  | false =>
    rw [if_neg (by rw [wanted_some hi.guard hy, hgd]; decide), hi.dst]
    exact done_off (by omega) h hgd
  | true =>
    rw [if_pos (by rw [wanted_some hi.guard hy, hgd])]
    refine oper_val (v := .pointer (some ⟨p.B, 8, none⟩)) (w' := w) ?_ ?_
    · unfold execOp
      simp only [hi.op, opF, evalT h.s1, Sem.run_bind, fieldP8, Result.andThen_ok]
      rfl
    · rw [hi.dst]
      exact done_pure (by omega) h _ rfl (fun _ => rfl)
theorem step9 (h : HoldsAt p w0 w a) (hi : IsOp ops 9 o) (hg : ∀ k ∈ depF 9, GoodAt p k a w) (hy : yielded ops a.tmps 3 = some (!p.b1)) : StepOk p w0 Q ops 9 o a w := by
  unfold StepOk
  cases hgd : (!p.b1) with
  | false =>
    rw [if_neg (by rw [wanted_some hi.guard hy, hgd]; decide), hi.dst]
    exact done_off (by omega) h hgd
  | true =>
    rw [if_pos (by rw [wanted_some hi.guard hy, hgd])]
    have e : a.eval (.tmp 28) = .pointer (some ⟨p.B, 8, none⟩) := evalT (hg 8 (by simp [depF]) hgd)
    refine oper_val (v := .bool (p.b4)) (w' := w) ?_ ?_
    · have hc := h.c8
      unfold execOp
      simp only [hi.op, opF]
      rw [e]
      go_simp
    · rw [hi.dst]
      exact done_pure (by omega) h _ rfl (fun _ => rfl)
theorem step10 (h : HoldsAt p w0 w a) (hi : IsOp ops 10 o) (hg : ∀ k ∈ depF 10, GoodAt p k a w) (hy : yielded ops a.tmps 3 = some (!p.b1)) : StepOk p w0 Q ops 10 o a w := by
  unfold StepOk
  cases hgd : (!p.b1) with
  | false =>
    rw [if_neg (by rw [wanted_some hi.guard hy, hgd]; decide), hi.dst]
    exact done_off (by omega) h hgd
  | true =>
    rw [if_pos (by rw [wanted_some hi.guard hy, hgd])]
    refine oper_val (v := .pointer (some ⟨p.B, 9, none⟩)) (w' := w) ?_ ?_
    · unfold execOp
      simp only [hi.op, opF, evalT h.s1, Sem.run_bind, fieldP9, Result.andThen_ok]
      rfl
    · rw [hi.dst]
      exact done_pure (by omega) h _ rfl (fun _ => rfl)
theorem step11 (h : HoldsAt p w0 w a) (hi : IsOp ops 11 o) (hg : ∀ k ∈ depF 11, GoodAt p k a w) (hy : yielded ops a.tmps 3 = some (!p.b1)) : StepOk p w0 Q ops 11 o a w := by
  unfold StepOk
  cases hgd : (!p.b1) with
  | false =>
    rw [if_neg (by rw [wanted_some hi.guard hy, hgd]; decide), hi.dst]
    exact done_off (by omega) h hgd
  | true =>
    rw [if_pos (by rw [wanted_some hi.guard hy, hgd])]
    have e : a.eval (.tmp 30) = .pointer (some ⟨p.B, 9, none⟩) := evalT (hg 10 (by simp [depF]) hgd)
    refine oper_val (v := .bool (p.b5)) (w' := w) ?_ ?_
    · have hc := h.c9
      unfold execOp
      simp only [hi.op, opF]
      rw [e]
      go_simp
    · rw [hi.dst]
      exact done_pure (by omega) h _ rfl (fun _ => rfl)
theorem step12 (h : HoldsAt p w0 w a) (hi : IsOp ops 12 o) (hg : ∀ k ∈ depF 12, GoodAt p k a w) (hy : yielded ops a.tmps 3 = some (!p.b1)) : StepOk p w0 Q ops 12 o a w := by
  unfold StepOk
  cases hgd : (!p.b1) with
  | false =>
    rw [if_neg (by rw [wanted_some hi.guard hy, hgd]; decide), hi.dst]
    exact done_off (by omega) h hgd
  | true =>
    rw [if_pos (by rw [wanted_some hi.guard hy, hgd])]
    have e0 : a.tmps[24]? = some (.bool (p.lb)) := hg 4 (by simp [depF]) hgd
    have e1 : a.tmps[25]? = some (.bool (p.tb)) := hg 5 (by simp [depF]) hgd
    have e2 : a.tmps[27]? = some (.bool (p.b3)) := hg 7 (by simp [depF]) hgd
    have e3 : a.tmps[29]? = some (.bool (p.b4)) := hg 9 (by simp [depF]) hgd
    have e4 : a.tmps[31]? = some (.bool (p.b5)) := hg 11 (by simp [depF]) hgd
    refine oper_val (v := .slice (some ⟨w.heap.size, 0, none⟩) 5 5) (w' := w.alloc (.cells (([p.lb, p.tb, p.b3, p.b4, p.b5] : List Bool).map Value.bool).toArray 4)) ?_ ?_
    · unfold execOp
      simp only [hi.op, opF]
      simp [e0, e1, e2, e3, e4, go_sem]
    · rw [hi.dst]
      exact done_row (by omega) h [p.lb, p.tb, p.b3, p.b4, p.b5] 4 (fun _ => rfl)
theorem step13 (h : HoldsAt p w0 w a) (hi : IsOp ops 13 o) (hg : ∀ k ∈ depF 13, GoodAt p k a w) (hy : yielded ops a.tmps 3 = some (!p.b1)) : StepOk p w0 Q ops 13 o a w := by
  unfold StepOk
  cases hgd : (!p.b1) with
  | false =>
    rw [if_neg (by rw [wanted_some hi.guard hy, hgd]; decide), hi.dst]
    exact done_off (by omega) h hgd
  | true =>
    rw [if_pos (by rw [wanted_some hi.guard hy, hgd])]
    obtain ⟨gb, e0, hr0⟩ := good_row (hg 12 (by simp [depF])) hgd (show rowF p 12 = some [p.lb, p.tb, p.b3, p.b4, p.b5] from rfl)
    have e : a.tmps[32]? = some (Value.slice (some ⟨gb, 0, none⟩) 5 5) := e0
    have hr : Rd w 1 (some ⟨gb, 0, none⟩) 5 (([p.lb, p.tb, p.b3, p.b4, p.b5] : List Bool).map Value.bool) := hr0
    refine oper_enter (f := 57) (args := #[.slice (some ⟨gb, 0, none⟩) 5 5]) ?_ (.bool (p.lb || (p.tb || (p.b3 || (p.b4 || p.b5))))) (either_any _ 5 5 [p.lb, p.tb, p.b3, p.b4, p.b5] _ (by simp [List.any]) w hr (by omega)) ?_
    · unfold execOp
      simp only [hi.op, opF]
      simp [e, go_sem]
    · rw [hi.dst]
      exact done_pure (by omega) h _ rfl (fun _ => rfl)
theorem step14 (h : HoldsAt p w0 w a) (hi : IsOp ops 14 o) (hg : ∀ k ∈ depF 14, GoodAt p k a w) : StepOk p w0 Q ops 14 o a w := by
  unfold StepOk
  rw [if_pos (wanted_none hi.guard)]
  have e1 : a.eval (.tmp 23) = .bool (!p.b1) := evalT (hg 3 (by simp [depF]) rfl)
  cases hc : (!p.b1) with
  | false =>
    rw [hc] at e1
    refine oper_val (v := .bool false) (w' := w) ?_ ?_
    · unfold execOp
      simp only [hi.op, opF]
      rw [e1]
      first | rfl | go_simp
    · rw [hi.dst]
      exact done_pure (by omega) h _ rfl (fun _ => by unfold valF; rw [hc]; rfl)
  | true =>
    have e2 : a.eval (.tmp 33) = .bool (p.lb || (p.tb || (p.b3 || (p.b4 || p.b5)))) := evalT (hg 13 (by simp [depF]) hc)
    rw [hc] at e1
    refine oper_val (v := .bool (p.lb || (p.tb || (p.b3 || (p.b4 || p.b5))))) (w' := w) ?_ ?_
    · unfold execOp
      simp only [hi.op, opF]
      rw [e1, e2]
      first | rfl | go_simp
    · rw [hi.dst]
      exact done_pure (by omega) h _ rfl (fun _ => by unfold valF; rw [hc]; rfl)
theorem step15 (h : HoldsAt p w0 w a) (hi : IsOp ops 15 o) (hg : ∀ k ∈ depF 15, GoodAt p k a w) : StepOk p w0 Q ops 15 o a w := by
  unfold StepOk
  rw [if_pos (wanted_none hi.guard)]
  refine oper_val (v := .pointer (some ⟨p.B, 6, none⟩)) (w' := w) ?_ ?_
  · unfold execOp
    simp only [hi.op, opF, evalT h.s1, Sem.run_bind, fieldP6, Result.andThen_ok]
    rfl
  · rw [hi.dst]
    exact done_pure (by omega) h _ rfl (fun _ => rfl)
theorem step16 (h : HoldsAt p w0 w a) (hi : IsOp ops 16 o) (hg : ∀ k ∈ depF 16, GoodAt p k a w) : StepOk p w0 Q ops 16 o a w := by
  unfold StepOk
  rw [if_pos (wanted_none hi.guard)]
  have e : a.eval (.tmp 35) = .pointer (some ⟨p.B, 6, none⟩) := evalT (hg 15 (by simp [depF]) rfl)
  refine oper_val (v := .bool (p.b2)) (w' := w) ?_ ?_
  · have hc := h.c6
    unfold execOp
    simp only [hi.op, opF]
    rw [e]
    go_simp
  · rw [hi.dst]
    exact done_pure (by omega) h _ rfl (fun _ => rfl)
theorem step17 (h : HoldsAt p w0 w a) (hi : IsOp ops 17 o) (hg : ∀ k ∈ depF 17, GoodAt p k a w) : StepOk p w0 Q ops 17 o a w := by
  unfold StepOk
  rw [if_pos (wanted_none hi.guard)]
  have e : a.eval (.tmp 36) = .bool (p.b2) := evalT (hg 16 (by simp [depF]) rfl)
  refine oper_val (v := .bool (p.b2)) (w' := w) ?_ ?_
  · unfold execOp
    simp only [hi.op, opF]
    rw [e]
    rfl
  · rw [hi.dst]
    exact done_pure (by omega) h _ rfl (fun _ => rfl)
theorem step18 (h : HoldsAt p w0 w a) (hi : IsOp ops 18 o) (hg : ∀ k ∈ depF 18, GoodAt p k a w) (hy : yielded ops a.tmps 17 = some (p.b2)) : StepOk p w0 Q ops 18 o a w := by
  unfold StepOk
  cases hgd : (p.b2) with
  | false =>
    rw [if_neg (by rw [wanted_some hi.guard hy, hgd]; decide), hi.dst]
    exact done_off (by omega) h hgd
  | true =>
    rw [if_pos (by rw [wanted_some hi.guard hy, hgd])]
    have e : a.eval (.tmp 3) = .bool p.lb := evalT (h.s3)
    refine oper_val (v := .bool (p.lb)) (w' := w) ?_ ?_
    · unfold execOp
      simp only [hi.op, opF]
      rw [e]
      rfl
    · rw [hi.dst]
      exact done_pure (by omega) h _ rfl (fun _ => rfl)
theorem step19 (h : HoldsAt p w0 w a) (hi : IsOp ops 19 o) (hg : ∀ k ∈ depF 19, GoodAt p k a w) (hy : yielded ops a.tmps 17 = some (p.b2)) : StepOk p w0 Q ops 19 o a w := by
  unfold StepOk
  cases hgd : (p.b2) with
  | false =>
    rw [if_neg (by rw [wanted_some hi.guard hy, hgd]; decide), hi.dst]
    exact done_off (by omega) h hgd
  | true =>
    rw [if_pos (by rw [wanted_some hi.guard hy, hgd])]
    have e : a.eval (.tmp 38) = .bool (p.lb) := evalT (hg 18 (by simp [depF]) hgd)
    refine oper_val (v := .bool (!p.lb)) (w' := w) ?_ ?_
    · unfold execOp
      simp only [hi.op, opF]
      rw [e]
      go_simp
    · rw [hi.dst]
      exact done_pure (by omega) h _ rfl (fun _ => rfl)
theorem step20 (h : HoldsAt p w0 w a) (hi : IsOp ops 20 o) (hg : ∀ k ∈ depF 20, GoodAt p k a w) : StepOk p w0 Q ops 20 o a w := by
  unfold StepOk
  rw [if_pos (wanted_none hi.guard)]
  have e1 : a.eval (.tmp 37) = .bool (p.b2) := evalT (hg 17 (by simp [depF]) rfl)
  cases hc : (p.b2) with
  | false =>
    rw [hc] at e1
    refine oper_val (v := .bool false) (w' := w) ?_ ?_
    · unfold execOp
      simp only [hi.op, opF]
      rw [e1]
      first | rfl | go_simp
    · rw [hi.dst]
      exact done_pure (by omega) h _ rfl (fun _ => by unfold valF; rw [hc]; rfl)
  | true =>
    have e2 : a.eval (.tmp 39) = .bool (!p.lb) := evalT (hg 19 (by simp [depF]) hc)
    rw [hc] at e1
    refine oper_val (v := .bool (!p.lb)) (w' := w) ?_ ?_
    · unfold execOp
      simp only [hi.op, opF]
      rw [e1, e2]
      first | rfl | go_simp
    · rw [hi.dst]
      exact done_pure (by omega) h _ rfl (fun _ => by unfold valF; rw [hc]; rfl)
theorem step21 (h : HoldsAt p w0 w a) (hi : IsOp ops 21 o) (hg : ∀ k ∈ depF 21, GoodAt p k a w) : StepOk p w0 Q ops 21 o a w := by
  unfold StepOk
  rw [if_pos (wanted_none hi.guard)]
  refine oper_val (v := .pointer (some ⟨p.B, 7, none⟩)) (w' := w) ?_ ?_
  · unfold execOp
    simp only [hi.op, opF, evalT h.s1, Sem.run_bind, fieldP7, Result.andThen_ok]
    rfl
  · rw [hi.dst]
    exact done_pure (by omega) h _ rfl (fun _ => rfl)
theorem step22 (h : HoldsAt p w0 w a) (hi : IsOp ops 22 o) (hg : ∀ k ∈ depF 22, GoodAt p k a w) : StepOk p w0 Q ops 22 o a w := by
  unfold StepOk
  rw [if_pos (wanted_none hi.guard)]
  have e : a.eval (.tmp 41) = .pointer (some ⟨p.B, 7, none⟩) := evalT (hg 21 (by simp [depF]) rfl)
  refine oper_val (v := .bool (p.b3)) (w' := w) ?_ ?_
  · have hc := h.c7
    unfold execOp
    simp only [hi.op, opF]
    rw [e]
    go_simp
  · rw [hi.dst]
    exact done_pure (by omega) h _ rfl (fun _ => rfl)
theorem step23 (h : HoldsAt p w0 w a) (hi : IsOp ops 23 o) (hg : ∀ k ∈ depF 23, GoodAt p k a w) : StepOk p w0 Q ops 23 o a w := by
  unfold StepOk
  rw [if_pos (wanted_none hi.guard)]
  have e : a.eval (.tmp 42) = .bool (p.b3) := evalT (hg 22 (by simp [depF]) rfl)
  refine oper_val (v := .bool (p.b3)) (w' := w) ?_ ?_
  · unfold execOp
    simp only [hi.op, opF]
    rw [e]
    rfl
  · rw [hi.dst]
    exact done_pure (by omega) h _ rfl (fun _ => rfl)
theorem step24 (h : HoldsAt p w0 w a) (hi : IsOp ops 24 o) (hg : ∀ k ∈ depF 24, GoodAt p k a w) (hy : yielded ops a.tmps 23 = some (p.b3)) : StepOk p w0 Q ops 24 o a w := by
  unfold StepOk
  cases hgd : (p.b3) with
  | false =>
    rw [if_neg (by rw [wanted_some hi.guard hy, hgd]; decide), hi.dst]
    exact done_off (by omega) h hgd
  | true =>
    rw [if_pos (by rw [wanted_some hi.guard hy, hgd])]
    refine oper_val (v := .pointer (some ⟨p.B, 2, none⟩)) (w' := w) ?_ ?_
    · unfold execOp
      simp only [hi.op, opF, evalT h.s1, Sem.run_bind, fieldP2, Result.andThen_ok]
      rfl
    · rw [hi.dst]
      exact done_pure (by omega) h _ rfl (fun _ => rfl)
theorem step25 (h : HoldsAt p w0 w a) (hi : IsOp ops 25 o) (hg : ∀ k ∈ depF 25, GoodAt p k a w) (hy : yielded ops a.tmps 23 = some (p.b3)) : StepOk p w0 Q ops 25 o a w := by
  unfold StepOk
  cases hgd : (p.b3) with
  | false =>
    rw [if_neg (by rw [wanted_some hi.guard hy, hgd]; decide), hi.dst]
    exact done_off (by omega) h hgd
  | true =>
    rw [if_pos (by rw [wanted_some hi.guard hy, hgd])]
    have e : a.eval (.tmp 44) = .pointer (some ⟨p.B, 2, none⟩) := evalT (hg 24 (by simp [depF]) hgd)
    refine oper_val (v := .int .i64 p.t) (w' := w) ?_ ?_
    · have hc := h.c2
      unfold execOp
      simp only [hi.op, opF]
      rw [e]
      go_simp
    · rw [hi.dst]
      exact done_pure (by omega) h _ rfl (fun _ => rfl)
theorem step26 (h : HoldsAt p w0 w a) (hi : IsOp ops 26 o) (hg : ∀ k ∈ depF 26, GoodAt p k a w) (hy : yielded ops a.tmps 23 = some (p.b3)) : StepOk p w0 Q ops 26 o a w := by
  unfold StepOk
  cases hgd : (p.b3) with
  | false =>
    rw [if_neg (by rw [wanted_some hi.guard hy, hgd]; decide), hi.dst]
    exact done_off (by omega) h hgd
  | true =>
    rw [if_pos (by rw [wanted_some hi.guard hy, hgd])]
    have e : a.eval (.tmp 45) = .int .i64 p.t := evalT (hg 25 (by simp [depF]) hgd)
    refine oper_val (v := .bool (p.t == 3)) (w' := w) ?_ ?_
    · unfold execOp
      simp only [hi.op, opF]
      rw [e]
      go_simp
    · rw [hi.dst]
      exact done_pure (by omega) h _ rfl (fun _ => rfl)
theorem step27 (h : HoldsAt p w0 w a) (hi : IsOp ops 27 o) (hg : ∀ k ∈ depF 27, GoodAt p k a w) (hy : yielded ops a.tmps 23 = some (p.b3)) : StepOk p w0 Q ops 27 o a w := by
  unfold StepOk
  cases hgd : (p.b3) with
  | false =>
    rw [if_neg (by rw [wanted_some hi.guard hy, hgd]; decide), hi.dst]
    exact done_off (by omega) h hgd
  | true =>
    rw [if_pos (by rw [wanted_some hi.guard hy, hgd])]
    refine oper_val (v := .pointer (some ⟨p.B, 2, none⟩)) (w' := w) ?_ ?_
    · unfold execOp
      simp only [hi.op, opF, evalT h.s1, Sem.run_bind, fieldP2, Result.andThen_ok]
      rfl
    · rw [hi.dst]
      exact done_pure (by omega) h _ rfl (fun _ => rfl)
theorem step28 (h : HoldsAt p w0 w a) (hi : IsOp ops 28 o) (hg : ∀ k ∈ depF 28, GoodAt p k a w) (hy : yielded ops a.tmps 23 = some (p.b3)) : StepOk p w0 Q ops 28 o a w := by
  unfold StepOk
  cases hgd : (p.b3) with
  | false =>
    rw [if_neg (by rw [wanted_some hi.guard hy, hgd]; decide), hi.dst]
    exact done_off (by omega) h hgd
  | true =>
    rw [if_pos (by rw [wanted_some hi.guard hy, hgd])]
    have e : a.eval (.tmp 47) = .pointer (some ⟨p.B, 2, none⟩) := evalT (hg 27 (by simp [depF]) hgd)
    refine oper_val (v := .int .i64 p.t) (w' := w) ?_ ?_
    · have hc := h.c2
      unfold execOp
      simp only [hi.op, opF]
      rw [e]
      go_simp
    · rw [hi.dst]
      exact done_pure (by omega) h _ rfl (fun _ => rfl)
theorem step29 (h : HoldsAt p w0 w a) (hi : IsOp ops 29 o) (hg : ∀ k ∈ depF 29, GoodAt p k a w) (hy : yielded ops a.tmps 23 = some (p.b3)) : StepOk p w0 Q ops 29 o a w := by
  unfold StepOk
  cases hgd : (p.b3) with
  | false =>
    rw [if_neg (by rw [wanted_some hi.guard hy, hgd]; decide), hi.dst]
    exact done_off (by omega) h hgd
  | true =>
    rw [if_pos (by rw [wanted_some hi.guard hy, hgd])]
    have e : a.eval (.tmp 48) = .int .i64 p.t := evalT (hg 28 (by simp [depF]) hgd)
    refine oper_val (v := .bool (p.t == 4)) (w' := w) ?_ ?_
    · unfold execOp
      simp only [hi.op, opF]
      rw [e]
      go_simp
    · rw [hi.dst]
      exact done_pure (by omega) h _ rfl (fun _ => rfl)
theorem step30 (h : HoldsAt p w0 w a) (hi : IsOp ops 30 o) (hg : ∀ k ∈ depF 30, GoodAt p k a w) (hy : yielded ops a.tmps 23 = some (p.b3)) : StepOk p w0 Q ops 30 o a w := by
  unfold StepOk
  cases hgd : (p.b3) with
  | false =>
    rw [if_neg (by rw [wanted_some hi.guard hy, hgd]; decide), hi.dst]
    exact done_off (by omega) h hgd
  | true =>
    rw [if_pos (by rw [wanted_some hi.guard hy, hgd])]
    have e0 : a.tmps[46]? = some (.bool (p.t == 3)) := hg 26 (by simp [depF]) hgd
    have e1 : a.tmps[49]? = some (.bool (p.t == 4)) := hg 29 (by simp [depF]) hgd
    refine oper_val (v := .slice (some ⟨w.heap.size, 0, none⟩) 2 2) (w' := w.alloc (.cells (([p.t == 3, p.t == 4] : List Bool).map Value.bool).toArray 4)) ?_ ?_
    · unfold execOp
      simp only [hi.op, opF]
      simp [e0, e1, go_sem]
    · rw [hi.dst]
      exact done_row (by omega) h [p.t == 3, p.t == 4] 4 (fun _ => rfl)
theorem step31 (h : HoldsAt p w0 w a) (hi : IsOp ops 31 o) (hg : ∀ k ∈ depF 31, GoodAt p k a w) (hy : yielded ops a.tmps 23 = some (p.b3)) : StepOk p w0 Q ops 31 o a w := by
  unfold StepOk
  cases hgd : (p.b3) with
  | false =>
    rw [if_neg (by rw [wanted_some hi.guard hy, hgd]; decide), hi.dst]
    exact done_off (by omega) h hgd
  | true =>
    rw [if_pos (by rw [wanted_some hi.guard hy, hgd])]
    obtain ⟨gb, e0, hr0⟩ := good_row (hg 30 (by simp [depF])) hgd (show rowF p 30 = some [p.t == 3, p.t == 4] from rfl)
    have e : a.tmps[50]? = some (Value.slice (some ⟨gb, 0, none⟩) 2 2) := e0
    have hr : Rd w 1 (some ⟨gb, 0, none⟩) 2 (([p.t == 3, p.t == 4] : List Bool).map Value.bool) := hr0
    refine oper_enter (f := 57) (args := #[.slice (some ⟨gb, 0, none⟩) 2 2]) ?_ (.bool ((p.t == 3) || (p.t == 4))) (either_any _ 2 2 [p.t == 3, p.t == 4] _ (by simp [List.any]) w hr (by omega)) ?_
    · unfold execOp
      simp only [hi.op, opF]
      simp [e, go_sem]
    · rw [hi.dst]
      exact done_pure (by omega) h _ rfl (fun _ => rfl)
theorem step32 (h : HoldsAt p w0 w a) (hi : IsOp ops 32 o) (hg : ∀ k ∈ depF 32, GoodAt p k a w) : StepOk p w0 Q ops 32 o a w := by
  unfold StepOk
  rw [if_pos (wanted_none hi.guard)]
  have e1 : a.eval (.tmp 43) = .bool (p.b3) := evalT (hg 23 (by simp [depF]) rfl)
  cases hc : (p.b3) with
  | false =>
    rw [hc] at e1
    refine oper_val (v := .bool false) (w' := w) ?_ ?_
    · unfold execOp
      simp only [hi.op, opF]
      rw [e1]
      first | rfl | go_simp
    · rw [hi.dst]
      exact done_pure (by omega) h _ rfl (fun _ => by unfold valF; rw [hc]; rfl)
  | true =>
    have e2 : a.eval (.tmp 51) = .bool ((p.t == 3) || (p.t == 4)) := evalT (hg 31 (by simp [depF]) hc)
    rw [hc] at e1
    refine oper_val (v := .bool ((p.t == 3) || (p.t == 4))) (w' := w) ?_ ?_
    · unfold execOp
      simp only [hi.op, opF]
      rw [e1, e2]
      first | rfl | go_simp
    · rw [hi.dst]
      exact done_pure (by omega) h _ rfl (fun _ => by unfold valF; rw [hc]; rfl)
theorem step33 (h : HoldsAt p w0 w a) (hi : IsOp ops 33 o) (hg : ∀ k ∈ depF 33, GoodAt p k a w) : StepOk p w0 Q ops 33 o a w := by
  unfold StepOk
  rw [if_pos (wanted_none hi.guard)]
  refine oper_val (v := .pointer (some ⟨p.B, 11, none⟩)) (w' := w) ?_ ?_
  · unfold execOp
    simp only [hi.op, opF, evalT h.s1, Sem.run_bind, fieldP11, Result.andThen_ok]
    rfl
  · rw [hi.dst]
    exact done_pure (by omega) h _ rfl (fun _ => rfl)
theorem step34 (h : HoldsAt p w0 w a) (hi : IsOp ops 34 o) (hg : ∀ k ∈ depF 34, GoodAt p k a w) : StepOk p w0 Q ops 34 o a w := by
  unfold StepOk
  rw [if_pos (wanted_none hi.guard)]
  have e : a.eval (.tmp 53) = .pointer (some ⟨p.B, 11, none⟩) := evalT (hg 33 (by simp [depF]) rfl)
  refine oper_val (v := .bool (p.b7)) (w' := w) ?_ ?_
  · have hc := h.c11
    unfold execOp
    simp only [hi.op, opF]
    rw [e]
    go_simp
  · rw [hi.dst]
    exact done_pure (by omega) h _ rfl (fun _ => rfl)
theorem step35 (h : HoldsAt p w0 w a) (hi : IsOp ops 35 o) (hg : ∀ k ∈ depF 35, GoodAt p k a w) : StepOk p w0 Q ops 35 o a w := by
  unfold StepOk
  rw [if_pos (wanted_none hi.guard)]
  have e : a.eval (.tmp 54) = .bool (p.b7) := evalT (hg 34 (by simp [depF]) rfl)
  refine oper_val (v := .bool (p.b7)) (w' := w) ?_ ?_
  · unfold execOp
    simp only [hi.op, opF]
    rw [e]
    rfl
  · rw [hi.dst]
    exact done_pure (by omega) h _ rfl (fun _ => rfl)
theorem step36 (h : HoldsAt p w0 w a) (hi : IsOp ops 36 o) (hg : ∀ k ∈ depF 36, GoodAt p k a w) (hy : yielded ops a.tmps 35 = some (p.b7)) : StepOk p w0 Q ops 36 o a w := by
  unfold StepOk
  cases hgd : (p.b7) with
  | false =>
    rw [if_neg (by rw [wanted_some hi.guard hy, hgd]; decide), hi.dst]
    exact done_off (by omega) h hgd
  | true =>
    rw [if_pos (by rw [wanted_some hi.guard hy, hgd])]
    refine oper_val (v := .pointer (some ⟨p.B, 10, none⟩)) (w' := w) ?_ ?_
    · unfold execOp
      simp only [hi.op, opF, evalT h.s1, Sem.run_bind, fieldP10, Result.andThen_ok]
      rfl
    · rw [hi.dst]
      exact done_pure (by omega) h _ rfl (fun _ => rfl)
theorem step37 (h : HoldsAt p w0 w a) (hi : IsOp ops 37 o) (hg : ∀ k ∈ depF 37, GoodAt p k a w) (hy : yielded ops a.tmps 35 = some (p.b7)) : StepOk p w0 Q ops 37 o a w := by
  unfold StepOk
  cases hgd : (p.b7) with
  | false =>
    rw [if_neg (by rw [wanted_some hi.guard hy, hgd]; decide), hi.dst]
    exact done_off (by omega) h hgd
  | true =>
    rw [if_pos (by rw [wanted_some hi.guard hy, hgd])]
    have e : a.eval (.tmp 56) = .pointer (some ⟨p.B, 10, none⟩) := evalT (hg 36 (by simp [depF]) hgd)
    refine oper_val (v := .bool (p.b6)) (w' := w) ?_ ?_
    · have hc := h.c10
      unfold execOp
      simp only [hi.op, opF]
      rw [e]
      go_simp
    · rw [hi.dst]
      exact done_pure (by omega) h _ rfl (fun _ => rfl)
theorem step38 (h : HoldsAt p w0 w a) (hi : IsOp ops 38 o) (hg : ∀ k ∈ depF 38, GoodAt p k a w) (hy : yielded ops a.tmps 35 = some (p.b7)) : StepOk p w0 Q ops 38 o a w := by
  unfold StepOk
  cases hgd : (p.b7) with
  | false =>
    rw [if_neg (by rw [wanted_some hi.guard hy, hgd]; decide), hi.dst]
    exact done_off (by omega) h hgd
  | true =>
    rw [if_pos (by rw [wanted_some hi.guard hy, hgd])]
    have e : a.eval (.tmp 57) = .bool (p.b6) := evalT (hg 37 (by simp [depF]) hgd)
    refine oper_val (v := .bool (!p.b6)) (w' := w) ?_ ?_
    · unfold execOp
      simp only [hi.op, opF]
      rw [e]
      go_simp
    · rw [hi.dst]
      exact done_pure (by omega) h _ rfl (fun _ => rfl)
theorem step39 (h : HoldsAt p w0 w a) (hi : IsOp ops 39 o) (hg : ∀ k ∈ depF 39, GoodAt p k a w) : StepOk p w0 Q ops 39 o a w := by
  unfold StepOk
  rw [if_pos (wanted_none hi.guard)]
  have e1 : a.eval (.tmp 55) = .bool (p.b7) := evalT (hg 35 (by simp [depF]) rfl)
  cases hc : (p.b7) with
  | false =>
    rw [hc] at e1
    refine oper_val (v := .bool false) (w' := w) ?_ ?_
    · unfold execOp
      simp only [hi.op, opF]
      rw [e1]
      first | rfl | go_simp
    · rw [hi.dst]
      exact done_pure (by omega) h _ rfl (fun _ => by unfold valF; rw [hc]; rfl)
  | true =>
    have e2 : a.eval (.tmp 58) = .bool (!p.b6) := evalT (hg 38 (by simp [depF]) hc)
    rw [hc] at e1
    refine oper_val (v := .bool (!p.b6)) (w' := w) ?_ ?_
    · unfold execOp
      simp only [hi.op, opF]
      rw [e1, e2]
      first | rfl | go_simp
    · rw [hi.dst]
      exact done_pure (by omega) h _ rfl (fun _ => by unfold valF; rw [hc]; rfl)
theorem step40 (h : HoldsAt p w0 w a) (hi : IsOp ops 40 o) (hg : ∀ k ∈ depF 40, GoodAt p k a w) : StepOk p w0 Q ops 40 o a w := by
  unfold StepOk
  rw [if_pos (wanted_none hi.guard)]
  have e0 : a.tmps[34]? = some (.bool (!p.b1 && (p.lb || (p.tb || (p.b3 || (p.b4 || p.b5)))))) := hg 14 (by simp [depF]) rfl
  have e1 : a.tmps[40]? = some (.bool (p.b2 && !p.lb)) := hg 20 (by simp [depF]) rfl
  have e2 : a.tmps[52]? = some (.bool (p.b3 && ((p.t == 3) || (p.t == 4)))) := hg 32 (by simp [depF]) rfl
  have e3 : a.tmps[59]? = some (.bool (p.b7 && !p.b6)) := hg 39 (by simp [depF]) rfl
  refine oper_val (v := .slice (some ⟨w.heap.size, 0, none⟩) 4 4) (w' := w.alloc (.cells (([!p.b1 && (p.lb || (p.tb || (p.b3 || (p.b4 || p.b5)))), p.b2 && !p.lb, p.b3 && ((p.t == 3) || (p.t == 4)), p.b7 && !p.b6] : List Bool).map Value.bool).toArray 4)) ?_ ?_
  · unfold execOp
    simp only [hi.op, opF]
    simp [e0, e1, e2, e3, go_sem]
  · rw [hi.dst]
    exact done_row (by omega) h [!p.b1 && (p.lb || (p.tb || (p.b3 || (p.b4 || p.b5)))), p.b2 && !p.lb, p.b3 && ((p.t == 3) || (p.t == 4)), p.b7 && !p.b6] 4 (fun _ => rfl)
theorem step41 (h : HoldsAt p w0 w a) (hi : IsOp ops 41 o) (hg : ∀ k ∈ depF 41, GoodAt p k a w) : StepOk p w0 Q ops 41 o a w := by
  unfold StepOk
  rw [if_pos (wanted_none hi.guard)]
  obtain ⟨gb, e0, hr0⟩ := good_row (hg 40 (by simp [depF])) rfl (show rowF p 40 = some [!p.b1 && (p.lb || (p.tb || (p.b3 || (p.b4 || p.b5)))), p.b2 && !p.lb, p.b3 && ((p.t == 3) || (p.t == 4)), p.b7 && !p.b6] from rfl)
  have e : a.tmps[60]? = some (Value.slice (some ⟨gb, 0, none⟩) 4 4) := e0
  have hr : Rd w 1 (some ⟨gb, 0, none⟩) 4 (([!p.b1 && (p.lb || (p.tb || (p.b3 || (p.b4 || p.b5)))), p.b2 && !p.lb, p.b3 && ((p.t == 3) || (p.t == 4)), p.b7 && !p.b6] : List Bool).map Value.bool) := hr0
  refine oper_enter (f := 57) (args := #[.slice (some ⟨gb, 0, none⟩) 4 4]) ?_ (.bool ((!p.b1 && (p.lb || (p.tb || (p.b3 || (p.b4 || p.b5))))) || ((p.b2 && !p.lb) || ((p.b3 && ((p.t == 3) || (p.t == 4))) || (p.b7 && !p.b6))))) (either_any _ 4 4 [!p.b1 && (p.lb || (p.tb || (p.b3 || (p.b4 || p.b5)))), p.b2 && !p.lb, p.b3 && ((p.t == 3) || (p.t == 4)), p.b7 && !p.b6] _ (by simp [List.any]) w hr (by omega)) ?_
  · unfold execOp
    simp only [hi.op, opF]
    simp [e, go_sem]
  · rw [hi.dst]
    exact done_pure (by omega) h _ rfl (fun _ => rfl)
theorem step42 (h : HoldsAt p w0 w a) (hi : IsOp ops 42 o) (hg : ∀ k ∈ depF 42, GoodAt p k a w) : StepOk p w0 Q ops 42 o a w := by
  unfold StepOk
  rw [if_pos (wanted_none hi.guard)]
  have e : a.eval (.tmp 61) = .bool ((!p.b1 && (p.lb || (p.tb || (p.b3 || (p.b4 || p.b5))))) || ((p.b2 && !p.lb) || ((p.b3 && ((p.t == 3) || (p.t == 4))) || (p.b7 && !p.b6)))) := evalT (hg 41 (by simp [depF]) rfl)
  refine oper_val (v := .bool ((!p.b1 && (p.lb || (p.tb || (p.b3 || (p.b4 || p.b5))))) || ((p.b2 && !p.lb) || ((p.b3 && ((p.t == 3) || (p.t == 4))) || (p.b7 && !p.b6))))) (w' := w) ?_ ?_
  · unfold execOp
    simp only [hi.op, opF]
    rw [e]
    rfl
  · rw [hi.dst]
    exact done_pure (by omega) h _ rfl (fun _ => rfl)
end
end Go.Proofs.YtanngknhbgcobaaGreatDoor
/- option.Check's region that draws its order, whole. -/
namespace Go.Proofs.YtanngknhbgcobaaGreatDoor
open Go.RowKit

section
variable {p : Prm} {w0 w : World} {a : Act} {Q : Exit → Act → World → Prop} {o : Oper} {ops : Array Oper}
set_option maxRecDepth 100000 in
theorem all_steps (hsz : ops.size = 43) (hops : ∀ i o, ops[i]? = some o → IsOp ops i o) (i : Nat) (o : Oper) (ho : ops[i]? = some o) (a : Act) (w : World) (h : HoldsAt p w0 w a) (hd : ∀ e ∈ o.after, Region.binds .any e = true → GoodAt p e.on a w) : StepOk p w0 Q ops i o a w := by
  have hi := hops i o ho
  have hlt : i < 43 := by have := (Array.getElem?_eq_some_iff.1 ho).1; omega
  have hg : ∀ k ∈ depF i, GoodAt p k a w := fun k hk => by
    obtain ⟨e, he, rfl, hb⟩ := hi.deps k hk
    exact hd e he hb
  have hyl : ∀ (j : Nat) (g : Bool), j < 43 → a.tmps[slotF j]? = some (.bool g) → yielded ops a.tmps j = some g := fun j g hj ht => by
    obtain ⟨oj, hoj⟩ : ∃ oj, ops[j]? = some oj := ⟨_, Array.getElem?_eq_getElem (by omega)⟩
    exact yielded_at hoj (hops j oj hoj).dst ht
  clear hd ho hops
  have hc : i = 0 ∨ i = 1 ∨ i = 2 ∨ i = 3 ∨ i = 4 ∨ i = 5 ∨ i = 6 ∨ i = 7 ∨ i = 8 ∨ i = 9 ∨ i = 10 ∨ i = 11 ∨ i = 12 ∨ i = 13 ∨ i = 14 ∨ i = 15 ∨ i = 16 ∨ i = 17 ∨ i = 18 ∨ i = 19 ∨ i = 20 ∨ i = 21 ∨ i = 22 ∨ i = 23 ∨ i = 24 ∨ i = 25 ∨ i = 26 ∨ i = 27 ∨ i = 28 ∨ i = 29 ∨ i = 30 ∨ i = 31 ∨ i = 32 ∨ i = 33 ∨ i = 34 ∨ i = 35 ∨ i = 36 ∨ i = 37 ∨ i = 38 ∨ i = 39 ∨ i = 40 ∨ i = 41 ∨ i = 42 := by omega
  rcases hc with rfl | rfl | rfl | rfl | rfl | rfl | rfl | rfl | rfl | rfl | rfl | rfl | rfl | rfl | rfl | rfl | rfl | rfl | rfl | rfl | rfl | rfl | rfl | rfl | rfl | rfl | rfl | rfl | rfl | rfl | rfl | rfl | rfl | rfl | rfl | rfl | rfl | rfl | rfl | rfl | rfl | rfl | rfl
  · exact step0 h hi hg
  · exact step1 h hi hg
  · exact step2 h hi hg
  · exact step3 h hi hg
  · exact step4 h hi hg (hyl 3 _ (by omega) (hg 3 (by simp [depF]) rfl))
  · exact step5 h hi hg (hyl 3 _ (by omega) (hg 3 (by simp [depF]) rfl))
  · exact step6 h hi hg (hyl 3 _ (by omega) (hg 3 (by simp [depF]) rfl))
  · exact step7 h hi hg (hyl 3 _ (by omega) (hg 3 (by simp [depF]) rfl))
  · exact step8 h hi hg (hyl 3 _ (by omega) (hg 3 (by simp [depF]) rfl))
  · exact step9 h hi hg (hyl 3 _ (by omega) (hg 3 (by simp [depF]) rfl))
  · exact step10 h hi hg (hyl 3 _ (by omega) (hg 3 (by simp [depF]) rfl))
  · exact step11 h hi hg (hyl 3 _ (by omega) (hg 3 (by simp [depF]) rfl))
  · exact step12 h hi hg (hyl 3 _ (by omega) (hg 3 (by simp [depF]) rfl))
  · exact step13 h hi hg (hyl 3 _ (by omega) (hg 3 (by simp [depF]) rfl))
  · exact step14 h hi hg
  · exact step15 h hi hg
  · exact step16 h hi hg
  · exact step17 h hi hg
  · exact step18 h hi hg (hyl 17 _ (by omega) (hg 17 (by simp [depF]) rfl))
  · exact step19 h hi hg (hyl 17 _ (by omega) (hg 17 (by simp [depF]) rfl))
  · exact step20 h hi hg
  · exact step21 h hi hg
  · exact step22 h hi hg
  · exact step23 h hi hg
  · exact step24 h hi hg (hyl 23 _ (by omega) (hg 23 (by simp [depF]) rfl))
  · exact step25 h hi hg (hyl 23 _ (by omega) (hg 23 (by simp [depF]) rfl))
  · exact step26 h hi hg (hyl 23 _ (by omega) (hg 23 (by simp [depF]) rfl))
  · exact step27 h hi hg (hyl 23 _ (by omega) (hg 23 (by simp [depF]) rfl))
  · exact step28 h hi hg (hyl 23 _ (by omega) (hg 23 (by simp [depF]) rfl))
  · exact step29 h hi hg (hyl 23 _ (by omega) (hg 23 (by simp [depF]) rfl))
  · exact step30 h hi hg (hyl 23 _ (by omega) (hg 23 (by simp [depF]) rfl))
  · exact step31 h hi hg (hyl 23 _ (by omega) (hg 23 (by simp [depF]) rfl))
  · exact step32 h hi hg
  · exact step33 h hi hg
  · exact step34 h hi hg
  · exact step35 h hi hg
  · exact step36 h hi hg (hyl 35 _ (by omega) (hg 35 (by simp [depF]) rfl))
  · exact step37 h hi hg (hyl 35 _ (by omega) (hg 35 (by simp [depF]) rfl))
  · exact step38 h hi hg (hyl 35 _ (by omega) (hg 35 (by simp [depF]) rfl))
  · exact step39 h hi hg
  · exact step40 h hi hg
  · exact step41 h hi hg
  · exact step42 h hi hg
def backB (ops : Array Oper) : Bool := (List.range ops.size).all fun i => ((ops[i]?).map fun o => o.after.all fun e => decide (e.on < i)).getD true
theorem back_of (h : backB ops = true) : ∀ (i : Nat) (o : Oper), ops[i]? = some o → ∀ e ∈ o.after, e.on < i := fun i o ho e he => by
  have hi := (Array.getElem?_eq_some_iff.1 ho).1
  have := List.all_eq_true.1 h i (List.mem_range.2 hi)
  rw [ho] at this
  simp only [Option.map_some, Option.getD_some] at this
  rw [Array.all_eq_true_iff_forall_mem] at this
  simpa using this e he
def depB (ops : Array Oper) : Bool := (List.range 43).all fun i => (depF i).all fun k => ((ops[i]?).map fun o => o.after.any fun e => e.on == k && Region.binds .any e).getD false
theorem isOp_of (h1 : ops.toList.map (fun o => (o.dst, o.op, o.guard)) = (List.range 43).map fun i => (some (slotF i), opF i, guF i)) (h2 : depB ops = true) : ops.size = 43 ∧ ∀ i o, ops[i]? = some o → IsOp ops i o := by
  have hsz : ops.size = 43 := by
    have := congrArg List.length h1
    simpa using this
  refine ⟨hsz, fun i o ho => ?_⟩
  have hi : i < 43 := by have := (Array.getElem?_eq_some_iff.1 ho).1; omega
  have e := congrArg (fun l => l[i]?) h1
  simp only [List.getElem?_map, Array.getElem?_toList, ho, Option.map_some, List.getElem?_range hi] at e
  injection e with e
  injection e with e1 e
  injection e with e2 e3
  refine ⟨e1, e2, e3, fun k hk => ?_⟩
  have := List.all_eq_true.1 (List.all_eq_true.1 h2 i (List.mem_range.2 hi)) k hk
  rw [ho] at this
  simp only [Option.map_some, Option.getD_some] at this
  rw [← Array.any_toList, List.any_eq_true] at this
  obtain ⟨x, hx, hv⟩ := this
  rw [Bool.and_eq_true] at hv
  exact ⟨x, Array.mem_toList_iff.1 hx, by simpa using hv.1, hv.2⟩
/-- Whether the options do not go together, as the region reckons it. -/
def oddP (p : Prm) : Bool := (!p.b1 && (p.lb || (p.tb || (p.b3 || (p.b4 || p.b5))))) || ((p.b2 && !p.lb) || ((p.b3 && ((p.t == 3) || (p.t == 4))) || (p.b7 && !p.b6)))
theorem check_region {id : Nat} (hm : Tryz.prog.follows .mixedOrders = true) (h1 : ops.toList.map (fun o => (o.dst, o.op, o.guard)) = (List.range 43).map fun i => (some (slotF i), opF i, guF i)) (h2 : depB ops = true) (h3 : backB ops = true) (h : HoldsAt p w0 w.drew a)
    (hend : ∀ a' w', HoldsAt p w0 w' a' → a'.tmps[19]? = some (.bool (oddP p)) → Q .normal a' w') : (Code.region id ops true).wp Tryz.prog Q a w := by
  obtain ⟨hsz, hops⟩ := isOp_of h1 h2
  exact wp_region_inv hm (fun a w => HoldsAt p w0 w a) (GoodAt p) (back_of h3) h (fun i o ho a w hS hd => all_steps hsz hops i o ho a w hS hd) (fun a' w' hS hG => hend a' w' hS (hG 42 (by omega) rfl))
end
set_option maxRecDepth 100000 in
theorem arr62 (t : Array Value) (h : t.size = 62) : ∃ u0 u1 u2 u3 u4 u5 u6 u7 u8 u9 u10 u11 u12 u13 u14 u15 u16 u17 u18 u19 u20 u21 u22 u23 u24 u25 u26 u27 u28 u29 u30 u31 u32 u33 u34 u35 u36 u37 u38 u39 u40 u41 u42 u43 u44 u45 u46 u47 u48 u49 u50 u51 u52 u53 u54 u55 u56 u57 u58 u59 u60 u61, t = #[u0, u1, u2, u3, u4, u5, u6, u7, u8, u9, u10, u11, u12, u13, u14, u15, u16, u17, u18, u19, u20, u21, u22, u23, u24, u25, u26, u27, u28, u29, u30, u31, u32, u33, u34, u35, u36, u37, u38, u39, u40, u41, u42, u43, u44, u45, u46, u47, u48, u49, u50, u51, u52, u53, u54, u55, u56, u57, u58, u59, u60, u61] := by
  obtain ⟨l⟩ := t
  simp only [List.size_toArray] at h
  rcases l with _ | ⟨u0, l⟩
  · simp at h
  rcases l with _ | ⟨u1, l⟩
  · simp at h
  rcases l with _ | ⟨u2, l⟩
  · simp at h
  rcases l with _ | ⟨u3, l⟩
  · simp at h
  rcases l with _ | ⟨u4, l⟩
  · simp at h
  rcases l with _ | ⟨u5, l⟩
  · simp at h
  rcases l with _ | ⟨u6, l⟩
  · simp at h
  rcases l with _ | ⟨u7, l⟩
  · simp at h
  rcases l with _ | ⟨u8, l⟩
  · simp at h
  rcases l with _ | ⟨u9, l⟩
  · simp at h
  rcases l with _ | ⟨u10, l⟩
  · simp at h
  rcases l with _ | ⟨u11, l⟩
  · simp at h
  rcases l with _ | ⟨u12, l⟩
  · simp at h
  rcases l with _ | ⟨u13, l⟩
  · simp at h
  rcases l with _ | ⟨u14, l⟩
  · simp at h
  rcases l with _ | ⟨u15, l⟩
  · simp at h
  rcases l with _ | ⟨u16, l⟩
  · simp at h
  rcases l with _ | ⟨u17, l⟩
  · simp at h
  rcases l with _ | ⟨u18, l⟩
  · simp at h
  rcases l with _ | ⟨u19, l⟩
  · simp at h
  rcases l with _ | ⟨u20, l⟩
  · simp at h
  rcases l with _ | ⟨u21, l⟩
  · simp at h
  rcases l with _ | ⟨u22, l⟩
  · simp at h
  rcases l with _ | ⟨u23, l⟩
  · simp at h
  rcases l with _ | ⟨u24, l⟩
  · simp at h
  rcases l with _ | ⟨u25, l⟩
  · simp at h
  rcases l with _ | ⟨u26, l⟩
  · simp at h
  rcases l with _ | ⟨u27, l⟩
  · simp at h
  rcases l with _ | ⟨u28, l⟩
  · simp at h
  rcases l with _ | ⟨u29, l⟩
  · simp at h
  rcases l with _ | ⟨u30, l⟩
  · simp at h
  rcases l with _ | ⟨u31, l⟩
  · simp at h
  rcases l with _ | ⟨u32, l⟩
  · simp at h
  rcases l with _ | ⟨u33, l⟩
  · simp at h
  rcases l with _ | ⟨u34, l⟩
  · simp at h
  rcases l with _ | ⟨u35, l⟩
  · simp at h
  rcases l with _ | ⟨u36, l⟩
  · simp at h
  rcases l with _ | ⟨u37, l⟩
  · simp at h
  rcases l with _ | ⟨u38, l⟩
  · simp at h
  rcases l with _ | ⟨u39, l⟩
  · simp at h
  rcases l with _ | ⟨u40, l⟩
  · simp at h
  rcases l with _ | ⟨u41, l⟩
  · simp at h
  rcases l with _ | ⟨u42, l⟩
  · simp at h
  rcases l with _ | ⟨u43, l⟩
  · simp at h
  rcases l with _ | ⟨u44, l⟩
  · simp at h
  rcases l with _ | ⟨u45, l⟩
  · simp at h
  rcases l with _ | ⟨u46, l⟩
  · simp at h
  rcases l with _ | ⟨u47, l⟩
  · simp at h
  rcases l with _ | ⟨u48, l⟩
  · simp at h
  rcases l with _ | ⟨u49, l⟩
  · simp at h
  rcases l with _ | ⟨u50, l⟩
  · simp at h
  rcases l with _ | ⟨u51, l⟩
  · simp at h
  rcases l with _ | ⟨u52, l⟩
  · simp at h
  rcases l with _ | ⟨u53, l⟩
  · simp at h
  rcases l with _ | ⟨u54, l⟩
  · simp at h
  rcases l with _ | ⟨u55, l⟩
  · simp at h
  rcases l with _ | ⟨u56, l⟩
  · simp at h
  rcases l with _ | ⟨u57, l⟩
  · simp at h
  rcases l with _ | ⟨u58, l⟩
  · simp at h
  rcases l with _ | ⟨u59, l⟩
  · simp at h
  rcases l with _ | ⟨u60, l⟩
  · simp at h
  rcases l with _ | ⟨u61, l⟩
  · simp at h
  rcases l with _ | ⟨x, l⟩
  · exact ⟨u0, u1, u2, u3, u4, u5, u6, u7, u8, u9, u10, u11, u12, u13, u14, u15, u16, u17, u18, u19, u20, u21, u22, u23, u24, u25, u26, u27, u28, u29, u30, u31, u32, u33, u34, u35, u36, u37, u38, u39, u40, u41, u42, u43, u44, u45, u46, u47, u48, u49, u50, u51, u52, u53, u54, u55, u56, u57, u58, u59, u60, u61, rfl⟩
  · simp at h
end Go.Proofs.YtanngknhbgcobaaGreatDoor
/- slices.Equal at []int: whether the two slices read alike; the world is as it was, but for draws. -/
namespace Go.Proofs.YtanngknhbgcobaaGreatDoor
open Go.RowKit

theorem take_eq_succ {xs ys : List Int} {k : Nat} (h : xs.take k = ys.take k) {x : Int} (h1 : xs[k]? = some x) (h2 : ys[k]? = some x) : xs.take (k + 1) = ys.take (k + 1) := by
  rw [List.take_add_one, List.take_add_one, h, h1, h2]

set_option maxRecDepth 100000 in
set_option maxHeartbeats 1000000 in
theorem equalInt_same (n : Nat) (A B : Option Addr) (c d : Nat) (xs ys : List Int) (w : World) (hxn : xs.length = n) (hyn : ys.length = n)
    (hx : Rd w 1 A n (xs.map (Value.int .i64))) (hy : Rd w 1 B n (ys.map (Value.int .i64))) (hn : n ≤ maxLen) :
    Calls Tryz.prog 13 #[.slice A n c, .slice B n d] w fun e w' => e = .returned (.bool (decide (xs = ys))) ∧ ∃ q, w' = w.drewN q := by
  unfold maxLen at hn
  have HX := Lib.hid hxn
  have HY := Lib.hid hyn
  clear hxn hyn
  go_enter Tryz.func13, Tryz.ntmps13
  go_wp2
  go_loopw [13] (fun i wr => ∃ k q : Nat, k ≤ n ∧ i = .int .i64 k ∧ wr = w.drewN q ∧ xs.take k = ys.take k) (fun i _ => n - (intOf i).toNat)
  case atStart => exact ⟨0, 0, Nat.zero_le _, rfl, rfl, rfl⟩
  case round =>
    obtain ⟨k, q, hk, rfl, rfl, ht⟩ := hrel
    have HT := Lib.hid ht
    clear ht
    by_cases hlt : k < n
    · obtain ⟨x, hxk⟩ : ∃ x, xs[k]? = some x := ⟨_, List.getElem?_eq_getElem (by rw [HX.out]; exact hlt)⟩
      obtain ⟨y, hyk⟩ : ∃ y, ys[k]? = some y := ⟨_, List.getElem?_eq_getElem (by rw [HY.out]; exact hlt)⟩
      obtain ⟨a, rfl, _, ha⟩ := hx.at_ hlt
      obtain ⟨b, rfl, _, hb⟩ := hy.at_ hlt
      have ca : w.cell? (a.add k) = some (.int .i64 x) := ha _ (by rw [List.getElem?_map, hxk]; rfl)
      have cb : w.cell? (b.add k) = some (.int .i64 y) := hb _ (by rw [List.getElem?_map, hyk]; rfl)
      have HXK := Lib.hid hxk
      have HYK := Lib.hid hyk
      clear hxk hyk ha hb
      by_cases he : x = y
      · subst he
        go_wp2
        go_quiet (fail)
        go_wp2
        go_roundw
        case rel => exact ⟨k + 1, _, by omega, by go_num, rfl, take_eq_succ HT.out HXK.out HYK.out⟩
        case measure => simp [intOf]; omega
      · have hne : (x == y) = false := by simpa using he
        have hne' : (x != y) = true := by simpa using he
        have hf : decide (xs = ys) = false := decide_eq_false (fun e => he (by have h1 := HXK.out; rw [e, HYK.out] at h1; injection h1 with h1; exact h1.symm))
        clear he
        go_wp2
        go_quiet (fail)
        go_wp2
        go_ret
        exact ⟨retB (by simp [hf]), _, World.drewN_drewN _ _ _⟩
    · have hkn : k = n := by omega
      have htr : decide (xs = ys) = true := decide_eq_true (by
        have h := HT.out
        rwa [List.take_of_length_le (by rw [HX.out]; omega), List.take_of_length_le (by rw [HY.out]; omega)] at h)
      clear hkn
      go_wp2
      go_ret
      exact ⟨retB (by simp [htr]), _, rfl⟩

theorem equalInt_any (A B : Option Addr) (n m c d : Nat) (xs ys : List Int) (w : World) (hx : Rd w 1 A n (xs.map (Value.int .i64))) (hy : Rd w 1 B m (ys.map (Value.int .i64))) (hn : n ≤ maxLen) (hm : m ≤ maxLen) :
    Calls Tryz.prog 13 #[.slice A n c, .slice B m d] w fun e w' => e = .returned (.bool (decide (xs = ys))) ∧ ∃ q, w' = w.drewN q := by
  have hxl : xs.length = n := by simpa using hx.len1
  have hyl : ys.length = m := by simpa using hy.len1
  by_cases h : n = m
  · subst h
    exact equalInt_same n A B c d xs ys w hxl hyl hx hy hn
  · have hne : decide (xs = ys) = false := decide_eq_false (fun e => h (by rw [← hxl, ← hyl, e]))
    have h1 : ((n : Int) == m) = false := by simp; omega
    have h2 : ((n : Int) != m) = true := by simp; omega
    clear hxl hyl
    go_enter Tryz.func13, Tryz.ntmps13
    go_wp2
    go_ret
    exact ⟨retB (by simp [hne]), 0, rfl⟩
theorem equalInt_b (A B : Option Addr) (n m c d : Nat) (xs ys : List Int) (w : World) (hx : Rd w 1 A n (xs.map (Value.int .i64))) (hy : Rd w 1 B m (ys.map (Value.int .i64))) (hn : n ≤ maxLen) (hm : m ≤ maxLen) :
    Calls Tryz.prog 13 #[.slice A n c, .slice B m d] w fun e w' => e = .returned (.bool (decide (xs = ys))) ∧ Below w.heap.size w w' :=
  (equalInt_any A B n m c d xs ys w hx hy hn hm).mono fun _ _ ⟨he, q, hq⟩ => ⟨he, hq ▸ drewBelow q⟩
end Go.Proofs.YtanngknhbgcobaaGreatDoor
/- Fourteen cells, on a later world. -/
namespace Go.Proofs.YtanngknhbgcobaaGreatDoor
open Go.RowKit
theorem s14_on {w0 X Y : World} {b : Nat} {d l t g : Int} {b0 b1 b2 b3 b4 b5 b6 b7 b8 b9 : Bool} (h : X.cell? ⟨b, 0, none⟩ = some (.int .i64 d) ∧ X.cell? ⟨b, 1, none⟩ = some (.int .i64 l) ∧ X.cell? ⟨b, 2, none⟩ = some (.int .i64 t) ∧ X.cell? ⟨b, 3, none⟩ = some (.int .i64 g) ∧ X.cell? ⟨b, 4, none⟩ = some (.bool b0) ∧ X.cell? ⟨b, 5, none⟩ = some (.bool b1) ∧ X.cell? ⟨b, 6, none⟩ = some (.bool b2) ∧ X.cell? ⟨b, 7, none⟩ = some (.bool b3) ∧ X.cell? ⟨b, 8, none⟩ = some (.bool b4) ∧ X.cell? ⟨b, 9, none⟩ = some (.bool b5) ∧ X.cell? ⟨b, 10, none⟩ = some (.bool b6) ∧ X.cell? ⟨b, 11, none⟩ = some (.bool b7) ∧ X.cell? ⟨b, 12, none⟩ = some (.bool b8) ∧ X.cell? ⟨b, 13, none⟩ = some (.bool b9) ∧ Below w0.heap.size w0 X) (hb : Below X.heap.size X Y) : Y.cell? ⟨b, 0, none⟩ = some (.int .i64 d) ∧ Y.cell? ⟨b, 1, none⟩ = some (.int .i64 l) ∧ Y.cell? ⟨b, 2, none⟩ = some (.int .i64 t) ∧ Y.cell? ⟨b, 3, none⟩ = some (.int .i64 g) ∧ Y.cell? ⟨b, 4, none⟩ = some (.bool b0) ∧ Y.cell? ⟨b, 5, none⟩ = some (.bool b1) ∧ Y.cell? ⟨b, 6, none⟩ = some (.bool b2) ∧ Y.cell? ⟨b, 7, none⟩ = some (.bool b3) ∧ Y.cell? ⟨b, 8, none⟩ = some (.bool b4) ∧ Y.cell? ⟨b, 9, none⟩ = some (.bool b5) ∧ Y.cell? ⟨b, 10, none⟩ = some (.bool b6) ∧ Y.cell? ⟨b, 11, none⟩ = some (.bool b7) ∧ Y.cell? ⟨b, 12, none⟩ = some (.bool b8) ∧ Y.cell? ⟨b, 13, none⟩ = some (.bool b9) ∧ Below w0.heap.size w0 Y :=
  ⟨cell_below hb h.1, cell_below hb h.2.1, cell_below hb h.2.2.1, cell_below hb h.2.2.2.1, cell_below hb h.2.2.2.2.1, cell_below hb h.2.2.2.2.2.1, cell_below hb h.2.2.2.2.2.2.1, cell_below hb h.2.2.2.2.2.2.2.1, cell_below hb h.2.2.2.2.2.2.2.2.1, cell_below hb h.2.2.2.2.2.2.2.2.2.1, cell_below hb h.2.2.2.2.2.2.2.2.2.2.1, cell_below hb h.2.2.2.2.2.2.2.2.2.2.2.1, cell_below hb h.2.2.2.2.2.2.2.2.2.2.2.2.1, cell_below hb h.2.2.2.2.2.2.2.2.2.2.2.2.2.1, below_self h.2.2.2.2.2.2.2.2.2.2.2.2.2.2 hb⟩
end Go.Proofs.YtanngknhbgcobaaGreatDoor
/- Options in memory. -/
namespace Go.Proofs.YtanngknhbgcobaaGreatDoor
open Go.RowKit
/-- Fourteen cells of options, in a block that may be written. -/
def OptAt (W : World) (b : Nat) (o : Opt) : Prop := (∀ (j : Nat) (u : Value), o.cells[j]? = some u → W.cell? ⟨b, j, none⟩ = some u) ∧ ∀ i, W.frozen? ⟨b, i, none⟩ = false
theorem OptAt.new_ (w : World) (o : Opt) (T : TypeId) : OptAt (w.alloc (.cells o.cells T)) w.heap.size o := by
  refine ⟨fun j u hu => ?_, fun i => by simp [go_sem]⟩
  rw [World.cell?_alloc_at _ _ _ _ rfl]
  exact hu
theorem OptAt.below {W W' : World} {b : Nat} {o : Opt} (h : OptAt W b o) (hb : Below W.heap.size W W') : OptAt W' b o := by
  have hl : b < W.heap.size := cell_lt (h.1 0 _ rfl)
  exact ⟨fun j u hu => cell_below hb (h.1 j u hu), fun i => (hb.frozen hl).trans (h.2 i)⟩
theorem OptAt.flag {W : World} {b : Nat} {o : Opt} (h : OptAt W b o) {k : Nat} {x : Bool} (hk : o.flags[k]? = some x) : W.cell? ⟨b, 4 + k, none⟩ = some (.bool x) := by
  have hk10 : k < 10 := (List.getElem?_eq_some_iff.1 hk).1
  refine h.1 (4 + k) (.bool x) ?_
  have hc : k = 0 ∨ k = 1 ∨ k = 2 ∨ k = 3 ∨ k = 4 ∨ k = 5 ∨ k = 6 ∨ k = 7 ∨ k = 8 ∨ k = 9 := by omega
  rcases hc with rfl | rfl | rfl | rfl | rfl | rfl | rfl | rfl | rfl | rfl <;> (rw [← Option.some.inj hk]; rfl)
end Go.Proofs.YtanngknhbgcobaaGreatDoor
/- Options in memory: a field set. -/
namespace Go.Proofs.YtanngknhbgcobaaGreatDoor
open Go.RowKit

theorem OptAt.lt {W : World} {b : Nat} {o : Opt} (h : OptAt W b o) : b < W.heap.size := cell_lt (h.1 0 _ rfl)
theorem OptAt.set {W : World} {b : Nat} {o : Opt} (h : OptAt W b o) (j : Nat) (u : Value) (o' : Opt) (he : o'.cells = o.cells.setIfInBounds j u) (hj : j < 14) : OptAt (W.setCell ⟨b, j, none⟩ u) b o' := by
  refine ⟨fun i v hv => ?_, fun i => (frozen_setO ..).trans (h.2 i)⟩
  rw [he] at hv
  by_cases hi : i = j
  · subst hi
    have hs : i < o.cells.size := hj
    rw [Array.getElem?_setIfInBounds_self_of_lt hs] at hv
    obtain rfl := Option.some.inj hv
    exact set_same (h.1 i _ (Array.getElem?_eq_getElem hs))
  · rw [Array.getElem?_setIfInBounds_ne (fun e => hi e.symm)] at hv
    exact set_other (h.1 i v hv) hi
theorem OptAt.set0 {W : World} {b : Nat} {o : Opt} (h : OptAt W b o) (x : Int) : OptAt (W.setCell ⟨b, 0, none⟩ (.int .i64 x)) b { o with d := x } := h.set 0 _ _ rfl (by decide)
theorem OptAt.set1 {W : World} {b : Nat} {o : Opt} (h : OptAt W b o) (x : Int) : OptAt (W.setCell ⟨b, 1, none⟩ (.int .i64 x)) b { o with l := x } := h.set 1 _ _ rfl (by decide)
theorem OptAt.set2 {W : World} {b : Nat} {o : Opt} (h : OptAt W b o) (x : Int) : OptAt (W.setCell ⟨b, 2, none⟩ (.int .i64 x)) b { o with t := x } := h.set 2 _ _ rfl (by decide)
theorem OptAt.set3 {W : World} {b : Nat} {o : Opt} (h : OptAt W b o) (x : Int) : OptAt (W.setCell ⟨b, 3, none⟩ (.int .i64 x)) b { o with g := x } := h.set 3 _ _ rfl (by decide)
/-- A flag by its place. -/
def Opt.putB (o : Opt) (k : Nat) (x : Bool) : Opt := match k with
  | 0 => { o with b0 := x }
  | 1 => { o with b1 := x }
  | 2 => { o with b2 := x }
  | 3 => { o with b3 := x }
  | 4 => { o with b4 := x }
  | 5 => { o with b5 := x }
  | 6 => { o with b6 := x }
  | 7 => { o with b7 := x }
  | 8 => { o with b8 := x }
  | 9 => { o with b9 := x }
  | _ => o
theorem OptAt.setB {W : World} {b : Nat} {o : Opt} (h : OptAt W b o) (k : Nat) (hk : k < 10) (x : Bool) : OptAt (W.setCell ⟨b, 4 + k, none⟩ (.bool x)) b (o.putB k x) := by
  have hkc : k = 0 ∨ k = 1 ∨ k = 2 ∨ k = 3 ∨ k = 4 ∨ k = 5 ∨ k = 6 ∨ k = 7 ∨ k = 8 ∨ k = 9 := by omega
  refine h.set _ _ _ ?_ (by omega)
  rcases hkc with rfl | rfl | rfl | rfl | rfl | rfl | rfl | rfl | rfl | rfl <;> rfl
theorem below_setB {B : Nat} {w wr : World} {b : Nat} (h : Below B w wr) (hb : B ≤ b) (j : Nat) (u : Value) : Below B w (wr.setCell ⟨b, j, none⟩ u) :=
  ⟨h.os, h.tape, h.output, by simpa [World.setCell] using h.size, fun i hi => (Below.heap_setCell wr ⟨b, j, none⟩ u i (by simp only; omega)).trans (h.block i hi)⟩
end Go.Proofs.YtanngknhbgcobaaGreatDoor
/- Options in memory, whole: stored field by field, and told as a result. -/
namespace Go.Proofs.YtanngknhbgcobaaGreatDoor
open Go.RowKit

/-- Fourteen stores. -/
def stored (W : World) (b : Nat) (o' : Opt) : World := ((((((((((((((W.setCell ⟨b, 0, none⟩ (.int .i64 o'.d)).setCell ⟨b, 1, none⟩ (.int .i64 o'.l)).setCell ⟨b, 2, none⟩ (.int .i64 o'.t)).setCell ⟨b, 3, none⟩ (.int .i64 o'.g)).setCell ⟨b, 4, none⟩ (.bool o'.b0)).setCell ⟨b, 5, none⟩ (.bool o'.b1)).setCell ⟨b, 6, none⟩ (.bool o'.b2)).setCell ⟨b, 7, none⟩ (.bool o'.b3)).setCell ⟨b, 8, none⟩ (.bool o'.b4)).setCell ⟨b, 9, none⟩ (.bool o'.b5)).setCell ⟨b, 10, none⟩ (.bool o'.b6)).setCell ⟨b, 11, none⟩ (.bool o'.b7)).setCell ⟨b, 12, none⟩ (.bool o'.b8)).setCell ⟨b, 13, none⟩ (.bool o'.b9))
theorem OptAt.setF0 {W : World} {b : Nat} {o : Opt} (h : OptAt W b o) (x : Bool) : OptAt (W.setCell ⟨b, 4, none⟩ (.bool x)) b { o with b0 := x } := h.set 4 _ _ rfl (by decide)
theorem OptAt.setF1 {W : World} {b : Nat} {o : Opt} (h : OptAt W b o) (x : Bool) : OptAt (W.setCell ⟨b, 5, none⟩ (.bool x)) b { o with b1 := x } := h.set 5 _ _ rfl (by decide)
theorem OptAt.setF2 {W : World} {b : Nat} {o : Opt} (h : OptAt W b o) (x : Bool) : OptAt (W.setCell ⟨b, 6, none⟩ (.bool x)) b { o with b2 := x } := h.set 6 _ _ rfl (by decide)
theorem OptAt.setF3 {W : World} {b : Nat} {o : Opt} (h : OptAt W b o) (x : Bool) : OptAt (W.setCell ⟨b, 7, none⟩ (.bool x)) b { o with b3 := x } := h.set 7 _ _ rfl (by decide)
theorem OptAt.setF4 {W : World} {b : Nat} {o : Opt} (h : OptAt W b o) (x : Bool) : OptAt (W.setCell ⟨b, 8, none⟩ (.bool x)) b { o with b4 := x } := h.set 8 _ _ rfl (by decide)
theorem OptAt.setF5 {W : World} {b : Nat} {o : Opt} (h : OptAt W b o) (x : Bool) : OptAt (W.setCell ⟨b, 9, none⟩ (.bool x)) b { o with b5 := x } := h.set 9 _ _ rfl (by decide)
theorem OptAt.setF6 {W : World} {b : Nat} {o : Opt} (h : OptAt W b o) (x : Bool) : OptAt (W.setCell ⟨b, 10, none⟩ (.bool x)) b { o with b6 := x } := h.set 10 _ _ rfl (by decide)
theorem OptAt.setF7 {W : World} {b : Nat} {o : Opt} (h : OptAt W b o) (x : Bool) : OptAt (W.setCell ⟨b, 11, none⟩ (.bool x)) b { o with b7 := x } := h.set 11 _ _ rfl (by decide)
theorem OptAt.setF8 {W : World} {b : Nat} {o : Opt} (h : OptAt W b o) (x : Bool) : OptAt (W.setCell ⟨b, 12, none⟩ (.bool x)) b { o with b8 := x } := h.set 12 _ _ rfl (by decide)
theorem OptAt.setF9 {W : World} {b : Nat} {o : Opt} (h : OptAt W b o) (x : Bool) : OptAt (W.setCell ⟨b, 13, none⟩ (.bool x)) b { o with b9 := x } := h.set 13 _ _ rfl (by decide)
theorem OptAt.stored {W : World} {b : Nat} {o : Opt} (h : OptAt W b o) (o' : Opt) : OptAt (stored W b o') b o' := by
  obtain ⟨d', l', t', g', a0, a1, a2, a3, a4, a5, a6, a7, a8, a9⟩ := o'
  obtain ⟨d, l, t, g, b0, b1, b2, b3, b4, b5, b6, b7, b8, b9⟩ := o
  unfold Proofs.YtanngknhbgcobaaGreatDoor.stored
  simp only
  have h1 := ((((h.set0 d').set1 l').set2 t').set3 g')
  simp only at h1
  have h2 := ((((h1.setF0 a0).setF1 a1).setF2 a2).setF3 a3).setF4 a4
  simp only at h2
  exact ((((h2.setF5 a5).setF6 a6).setF7 a7).setF8 a8).setF9 a9
theorem below_stored {W ww : World} {b B : Nat} (o' : Opt) (hB : B ≤ b) (hw : Below B ww W) : Below B ww (stored W b o') := by
  unfold stored
  exact (below_setB (below_setB (below_setB (below_setB (below_setB (below_setB (below_setB (below_setB (below_setB (below_setB (below_setB (below_setB (below_setB (below_setB hw hB _ _) hB _ _) hB _ _) hB _ _) hB _ _) hB _ _) hB _ _) hB _ _) hB _ _) hB _ _) hB _ _) hB _ _) hB _ _) hB _ _)
theorem cell_upto {W W' : World} {B : Nat} {a : Addr} (hb : Below B W W') (h : a.block < B) : W'.cell? a = W.cell? a := by
  unfold World.cell?
  rw [hb.block _ h]
theorem OptAt.upto {W W' : World} {b B : Nat} {o : Opt} (h : OptAt W b o) (hb : Below B W W') (hl : b < B) : OptAt W' b o :=
  ⟨fun j u hu => (cell_upto hb hl).trans (h.1 j u hu), fun i => (hb.frozen hl).trans (h.2 i)⟩
theorem KindsAt.upto {W W' : World} {B : Nat} (h : KindsAt W) (hb : Below B W W') (hl : 0 < B) : KindsAt W' :=
  ⟨(cell_upto hb hl).trans h.1, (cell_upto hb hl).trans h.2.1, (cell_upto hb hl).trans h.2.2.1, (cell_upto hb hl).trans h.2.2.2⟩
/-- The result's cell and the error, told together. -/
theorem res_opt {fn : Func} {p u : Tmp} (hf : fn.results = #[.cell p 24, .tmp u]) (tmps : Array Value) (w : World) (g : Nat) (o : Opt) (E : Value) (hp : tmps.getD p undef = .pointer (some ⟨g, 0, none⟩)) (hu : tmps.getD u undef = E)
    (hO : OptAt w g o) : (results fn tmps).run Tryz.prog w = .ok (.tuple #[o.val, E]) w := by
  have hc := hO.1
  have c0 := hc 0 _ rfl
  have c1 := hc 1 _ rfl
  have c2 := hc 2 _ rfl
  have c3 := hc 3 _ rfl
  have c4 := hc 4 _ rfl
  have c5 := hc 5 _ rfl
  have c6 := hc 6 _ rfl
  have c7 := hc 7 _ rfl
  have c8 := hc 8 _ rfl
  have c9 := hc 9 _ rfl
  have c10 := hc 10 _ rfl
  have c11 := hc 11 _ rfl
  have c12 := hc 12 _ rfl
  have c13 := hc 13 _ rfl
  rw [results_cell_tmp hf, hp, hu]
  obtain ⟨d, l, t, g, b0, b1, b2, b3, b4, b5, b6, b7, b8, b9⟩ := o
  simp only [Opt.val, Opt.cells] at *
  clear hc hp hu hf hO
  go_simp
end Go.Proofs.YtanngknhbgcobaaGreatDoor
/- Options that go together, made of any: naskhplain.held and Right. -/
namespace Go.Proofs.YtanngknhbgcobaaGreatDoor
open Go.RowKit

def heldF (n m : Int) : Int := n % 18446744073709551616 % (m + 1)
theorem heldF_le (n m : Int) (hm : 0 ≤ m) : 0 ≤ heldF n m ∧ heldF n m ≤ m := by
  unfold heldF
  have h1 := Int.emod_nonneg (n % 18446744073709551616) (show m + 1 ≠ 0 by omega)
  have h2 := Int.emod_lt_of_pos (n % 18446744073709551616) (show 0 < m + 1 by omega)
  omega
set_option maxRecDepth 100000 in
theorem held_any (n m : Int) (hm : 0 ≤ m ∧ m ≤ 4) (w : World) : Calls Tryz.prog 83 #[.int .i64 n, .int .i64 m] w fun e w' => e = .returned (.int .i64 (heldF n m)) ∧ w = w' := by
  obtain ⟨m0, m1⟩ := hm
  go_enter Tryz.func83, Tryz.ntmps83
  go_wp2
  go_ret
  refine ⟨?_, rfl⟩
  have h1 : IntKind.u64.wrap n = n % 18446744073709551616 := IntKind.wrap_u64 n
  have h0 := Int.emod_nonneg n (show (18446744073709551616 : Int) ≠ 0 by decide)
  have h2 := heldF_le n m m0
  rw [h1, Int.tmod_eq_emod_of_nonneg h0]
  have h3 : wrap64 (n % 18446744073709551616 % (m + 1)) = heldF n m := by
    unfold heldF at h2 ⊢
    unfold wrap64
    omega
  rw [h3]
  rfl
/-- What does not go together is let go. -/
def cut1 (o : Opt) : Opt := if o.b1 = true then o else { o with l := 0, t := 0, b3 := false, b4 := false, b5 := false }
def cut2 (o : Opt) : Opt := if o.l = 0 then { o with b2 := false } else o
def cut3 (o : Opt) : Opt := if o.t = 3 ∨ o.t = 4 then { o with b3 := false } else o
def cut4 (o : Opt) : Opt := if o.b6 = true then o else { o with b7 := false }
def heldO (o : Opt) : Opt := { o with d := heldF o.d 3, l := heldF o.l 4, t := heldF o.t 4, g := heldF o.g 4 }
def rightF (o : Opt) : Opt := cut4 (cut3 (cut2 (cut1 (heldO o))))
end Go.Proofs.YtanngknhbgcobaaGreatDoor
