/- Texts of one claim, one behind the other. -/
import Derived.Test.YtanngknhbgcobaaGreatDoorMgTb5
/- naskhplain.Right's region that draws its order. -/
namespace Go.Proofs.YtanngknhbgcobaaGreatDoor
open Go.RowKit

structure RPrm where
  B : Nat
  o : Opt
def oldX (o : Opt) : Nat → Int
  | 0 => o.d
  | 1 => o.l
  | 2 => o.t
  | _ => o.g
def mostX : Nat → Int
  | 0 => 3
  | _ => 4
def newX (o : Opt) (j : Nat) : Int := heldF (oldX o j) (mostX j)
theorem heldF_twice (n m : Int) (hm : 0 ≤ m ∧ m ≤ 4) : heldF (heldF n m) m = heldF n m := by
  have h := heldF_le n m hm.1
  have e : heldF (heldF n m) m = heldF n m % 18446744073709551616 % (m + 1) := rfl
  rw [e]
  have e1 : heldF n m % 18446744073709551616 = heldF n m := Int.emod_eq_of_lt h.1 (by omega)
  rw [e1]
  exact Int.emod_eq_of_lt h.1 (by omega)
def slotR (i : Nat) : Option Nat := if i < 12 then some (3 + i) else if i = 12 then some 15 else if i = 14 then some 16 else if i = 16 then some 17 else if i = 18 then some 18 else none
def valR (p : RPrm) (i : Nat) (v : Value) : Prop := match i with
  | 0 => v = .pointer (some ⟨p.B, 0, none⟩)
  | 1 => ∃ y, v = .int .i64 y ∧ heldF y 3 = newX p.o 0
  | 2 => v = .int .i64 (newX p.o 0)
  | 3 => v = .pointer (some ⟨p.B, 1, none⟩)
  | 4 => ∃ y, v = .int .i64 y ∧ heldF y 4 = newX p.o 1
  | 5 => v = .int .i64 (newX p.o 1)
  | 6 => v = .pointer (some ⟨p.B, 2, none⟩)
  | 7 => ∃ y, v = .int .i64 y ∧ heldF y 4 = newX p.o 2
  | 8 => v = .int .i64 (newX p.o 2)
  | 9 => v = .pointer (some ⟨p.B, 3, none⟩)
  | 10 => ∃ y, v = .int .i64 y ∧ heldF y 4 = newX p.o 3
  | 11 => v = .int .i64 (newX p.o 3)
  | 12 => v = .pointer (some ⟨p.B, 0, none⟩)
  | 14 => v = .pointer (some ⟨p.B, 1, none⟩)
  | 16 => v = .pointer (some ⟨p.B, 2, none⟩)
  | 18 => v = .pointer (some ⟨p.B, 3, none⟩)
  | _ => True
def cellOkR (p : RPrm) (i : Nat) (w : World) : Prop := match i with
  | 13 => w.cell? ⟨p.B, 0, none⟩ = some (.int .i64 (newX p.o 0))
  | 15 => w.cell? ⟨p.B, 1, none⟩ = some (.int .i64 (newX p.o 1))
  | 17 => w.cell? ⟨p.B, 2, none⟩ = some (.int .i64 (newX p.o 2))
  | 19 => w.cell? ⟨p.B, 3, none⟩ = some (.int .i64 (newX p.o 3))
  | _ => True
def GoodR (p : RPrm) (i : Nat) (a : Act) (w : World) : Prop := (∀ s, slotR i = some s → ∃ v, a.tmps[s]? = some v ∧ valR p i v) ∧ cellOkR p i w
structure HoldsR (p : RPrm) (w0 : World) (w : World) (a : Act) : Prop where
  defers : a.defers = []
  size : a.tmps.size = 45
  s1 : a.tmps[1]? = some (.pointer (some ⟨p.B, 0, none⟩))
  s2 : ∃ r, a.tmps[2]? = some (.pointer (some ⟨r, 0, none⟩)) ∧ r ≠ p.B ∧ OptAt w r Opt.zero ∧ p.B ≤ r
  cells : ∃ y0 y1 y2 y3, OptAt w p.B ⟨y0, y1, y2, y3, p.o.b0, p.o.b1, p.o.b2, p.o.b3, p.o.b4, p.o.b5, p.o.b6, p.o.b7, p.o.b8, p.o.b9⟩ ∧ heldF y0 3 = newX p.o 0 ∧ heldF y1 4 = newX p.o 1 ∧ heldF y2 4 = newX p.o 2 ∧ heldF y3 4 = newX p.o 3
  below : ∀ B ww, B ≤ p.B → Below B ww w0 → Below B ww w
theorem slotR_inj {i j s : Nat} (hi : slotR i = some s) (hj : slotR j = some s) : i = j := by
  unfold slotR at hi hj
  repeat' split at hi
  all_goals repeat' split at hj
  all_goals simp only [Option.some.injEq, reduceCtorEq] at hi hj
  all_goals omega
theorem slotR_lt {i s : Nat} (h : slotR i = some s) : 3 ≤ s ∧ s < 19 := by
  unfold slotR at h
  repeat' split at h
  all_goals first | cases h; omega | cases h
theorem tmps_put {a : Act} {s k : Nat} {v : Value} (h : k ≠ s) : (a.put (some s) v).tmps[k]? = a.tmps[k]? := by
  simp only [Act.put]
  exact Array.getElem?_setIfInBounds_ne (fun e => h e.symm)
/-- Behind an operation that yields v and leaves the memory as it is. -/
theorem doneR {p : RPrm} {w0 w : World} {a : Act} {i s : Nat} (h : HoldsR p w0 w a) (hs : slotR i = some s) (v : Value) (hv : valR p i v) (hc : cellOkR p i w) :
    HoldsR p w0 w (a.put (some s) v) ∧ GoodR p i (a.put (some s) v) w ∧ ∀ j, j ≠ i → GoodR p j a w → GoodR p j (a.put (some s) v) w := by
  obtain ⟨h3, h19⟩ := slotR_lt hs
  refine ⟨⟨h.defers, by simpa [Act.put] using h.size, by rw [tmps_put (by omega)]; exact h.s1, ?_, h.cells, h.below⟩, ⟨fun s' hs' => ?_, hc⟩, fun j hj hg => ⟨fun s' hs' => ?_, hg.2⟩⟩
  · obtain ⟨r, hr, hr2⟩ := h.s2
    exact ⟨r, by rw [tmps_put (by omega)]; exact hr, hr2⟩
  · rw [hs] at hs'
    obtain rfl := Option.some.inj hs'
    exact ⟨v, by
      have hsz := h.size
      simp only [Act.put]
      rw [Array.getElem?_setIfInBounds_self_of_lt (by omega)], hv⟩
  · obtain ⟨v', hv', hv2⟩ := hg.1 s' hs'
    exact ⟨v', by rw [tmps_put (k := s') (s := s) (fun e : s' = s => hj (slotR_inj hs' (by rw [e]; exact hs)))]; exact hv', hv2⟩
theorem OptAt.far {W : World} {b c : Nat} {o : Opt} (h : OptAt W b o) (hc : b ≠ c) (j : Nat) (u : Value) : OptAt (W.setCell ⟨c, j, none⟩ u) b o :=
  ⟨fun i v hv => (World.cell?_setCell_other (h := fun e => hc (by injection e with e1 _ _; exact e1.symm)) ..).trans (h.1 i v hv), fun i => (frozen_setO ..).trans (h.2 i)⟩
theorem cell_far {p : RPrm} {k : Nat} {w : World} (hg : cellOkR p k w) (j : Nat) (_hj : j < 4) (hk : k ≠ 13 + 2 * j) (u : Value) : cellOkR p k (w.setCell ⟨p.B, j, none⟩ u) := by
  by_cases h1 : k = 13
  · subst h1
    exact set_other hg (by omega)
  · by_cases h2 : k = 15
    · subst h2
      exact set_other hg (by omega)
    · by_cases h3 : k = 17
      · subst h3
        exact set_other hg (by omega)
      · by_cases h4 : k = 19
        · subst h4
          exact set_other hg (by omega)
        · unfold cellOkR
          split <;> first | omega | trivial
def opR : Nat → Op
  | 0 => .fieldAddr 24 (.tmp 1) 0
  | 1 => .load 3 (.tmp 3)
  | 2 => .call { callee := .value (.func 83), args := #[.tmp 4, .const (.int .i64 3)], argTypes := #[3, 3] }
  | 3 => .fieldAddr 24 (.tmp 1) 1
  | 4 => .load 3 (.tmp 6)
  | 5 => .call { callee := .value (.func 83), args := #[.tmp 7, .const (.int .i64 4)], argTypes := #[3, 3] }
  | 6 => .fieldAddr 24 (.tmp 1) 2
  | 7 => .load 3 (.tmp 9)
  | 8 => .call { callee := .value (.func 83), args := #[.tmp 10, .const (.int .i64 4)], argTypes := #[3, 3] }
  | 9 => .fieldAddr 24 (.tmp 1) 3
  | 10 => .load 3 (.tmp 12)
  | 11 => .call { callee := .value (.func 83), args := #[.tmp 13, .const (.int .i64 4)], argTypes := #[3, 3] }
  | 12 => .fieldAddr 24 (.tmp 1) 0
  | 13 => .store 3 (.tmp 15) (.tmp 5)
  | 14 => .fieldAddr 24 (.tmp 1) 1
  | 15 => .store 3 (.tmp 16) (.tmp 8)
  | 16 => .fieldAddr 24 (.tmp 1) 2
  | 17 => .store 3 (.tmp 17) (.tmp 11)
  | 18 => .fieldAddr 24 (.tmp 1) 3
  | 19 => .store 3 (.tmp 18) (.tmp 14)
  | _ => .move (.tmp 0)
def depR : Nat → List Nat
  | 1 => [0]
  | 2 => [1]
  | 13 => [12, 2]
  | 4 => [3]
  | 5 => [4]
  | 15 => [14, 5]
  | 7 => [6]
  | 8 => [7]
  | 17 => [16, 8]
  | 10 => [9]
  | 11 => [10]
  | 19 => [18, 11]
  | _ => []
structure IsOpR (ops : Array Oper) (i : Nat) (o : Oper) : Prop where
  dst : o.dst = slotR i
  op : o.op = opR i
  guard : o.guard = none
  deps : ∀ k ∈ depR i, ∃ e ∈ o.after, e.on = k ∧ Region.binds .any e = true
section
variable {p : RPrm} {w0 w : World} {a : Act} {Q : Exit → Act → World → Prop} {o : Oper} {ops : Array Oper}
def StepR (p : RPrm) (w0 : World) (Q : Exit → Act → World → Prop) (ops : Array Oper) (i : Nat) (o : Oper) (a : Act) (w : World) : Prop :=
  if Region.wanted o (yielded ops a.tmps) = true then o.wp Tryz.prog a w (fun a' w' => HoldsR p w0 w' a' ∧ GoodR p i a' w' ∧ ∀ j, j ≠ i → GoodR p j a w → GoodR p j a' w') Q else HoldsR p w0 w (a.put o.dst undef) ∧ GoodR p i (a.put o.dst undef) w ∧ ∀ j, j ≠ i → GoodR p j a w → GoodR p j (a.put o.dst undef) w
theorem oper_skip {K : Act → World → Prop} {w' : World} (h : (execOp a.eval o).run Tryz.prog w = .ok .skip w') (hd : o.dst = none) (hk : K a w') : o.wp Tryz.prog a w K Q := by
  unfold Oper.wp
  rw [h]
  show K (a.put o.dst undef) w'
  rw [hd]
  exact hk
theorem fieldR0 (B : Nat) (w : World) : (Instr.fieldAt 24 (.pointer (some ⟨B, 0, none⟩)) 0).run Tryz.prog w = .ok (.pointer (some ⟨B, 0, none⟩)) w := by
  go_simp
theorem fieldR1 (B : Nat) (w : World) : (Instr.fieldAt 24 (.pointer (some ⟨B, 0, none⟩)) 1).run Tryz.prog w = .ok (.pointer (some ⟨B, 1, none⟩)) w := by
  go_simp
theorem fieldR2 (B : Nat) (w : World) : (Instr.fieldAt 24 (.pointer (some ⟨B, 0, none⟩)) 2).run Tryz.prog w = .ok (.pointer (some ⟨B, 2, none⟩)) w := by
  go_simp
theorem fieldR3 (B : Nat) (w : World) : (Instr.fieldAt 24 (.pointer (some ⟨B, 0, none⟩)) 3).run Tryz.prog w = .ok (.pointer (some ⟨B, 3, none⟩)) w := by
  go_simp
theorem stepR0 (h : HoldsR p w0 w a) (hi : IsOpR ops 0 o) (_hg : ∀ k ∈ depR 0, GoodR p k a w) : StepR p w0 Q ops 0 o a w := by
  unfold StepR
  rw [if_pos (wanted_none hi.guard)]
  refine oper_val (v := .pointer (some ⟨p.B, 0, none⟩)) (w' := w) ?_ ?_
  · unfold execOp
    simp only [hi.op, opR, evalT h.s1, Sem.run_bind, fieldR0, Result.andThen_ok]
    rfl
  · rw [hi.dst]
    exact doneR h (s := 3) rfl _ rfl trivial
theorem stepR12 (h : HoldsR p w0 w a) (hi : IsOpR ops 12 o) (_hg : ∀ k ∈ depR 12, GoodR p k a w) : StepR p w0 Q ops 12 o a w := by
  unfold StepR
  rw [if_pos (wanted_none hi.guard)]
  refine oper_val (v := .pointer (some ⟨p.B, 0, none⟩)) (w' := w) ?_ ?_
  · unfold execOp
    simp only [hi.op, opR, evalT h.s1, Sem.run_bind, fieldR0, Result.andThen_ok]
    rfl
  · rw [hi.dst]
    exact doneR h (s := 15) rfl _ rfl trivial
theorem stepR1 (h : HoldsR p w0 w a) (hi : IsOpR ops 1 o) (hg : ∀ k ∈ depR 1, GoodR p k a w) : StepR p w0 Q ops 1 o a w := by
  unfold StepR
  rw [if_pos (wanted_none hi.guard)]
  obtain ⟨v, hv, rfl⟩ := (hg 0 (by simp [depR])).1 3 rfl
  obtain ⟨y0, y1, y2, y3, hO, e0, e1, e2, e3⟩ := h.cells
  have hc : w.cell? ⟨p.B, 0, none⟩ = some (.int .i64 y0) := hO.1 0 _ rfl
  have e : a.eval (.tmp 3) = .pointer (some ⟨p.B, 0, none⟩) := evalT hv
  refine oper_val (v := .int .i64 y0) (w' := w) ?_ ?_
  · unfold execOp
    simp only [hi.op, opR]
    rw [e]
    go_simp
  · rw [hi.dst]
    exact doneR h (s := 4) rfl _ ⟨y0, rfl, e0⟩ trivial
theorem stepR2 (h : HoldsR p w0 w a) (hi : IsOpR ops 2 o) (hg : ∀ k ∈ depR 2, GoodR p k a w) : StepR p w0 Q ops 2 o a w := by
  unfold StepR
  rw [if_pos (wanted_none hi.guard)]
  obtain ⟨v, hv, y, rfl, hy⟩ := (hg 1 (by simp [depR])).1 4 rfl
  refine oper_enter (f := 83) (args := #[.int .i64 y, .int .i64 3]) ?_ (.int .i64 (newX p.o 0)) ?_ ?_
  · unfold execOp
    simp only [hi.op, opR]
    simp [hv, go_sem]
  · rw [← hy]
    exact held_any y 3 (by decide) w
  · rw [hi.dst]
    exact doneR h (s := 5) rfl _ rfl trivial
theorem stepR13 (h : HoldsR p w0 w a) (hi : IsOpR ops 13 o) (hg : ∀ k ∈ depR 13, GoodR p k a w) : StepR p w0 Q ops 13 o a w := by
  unfold StepR
  rw [if_pos (wanted_none hi.guard)]
  obtain ⟨v, hv, rfl⟩ := (hg 12 (by simp [depR])).1 15 rfl
  obtain ⟨u, hu, rfl⟩ := (hg 2 (by simp [depR])).1 5 rfl
  obtain ⟨y0, y1, y2, y3, hO, e0, e1, e2, e3⟩ := h.cells
  have hc : w.cell? ⟨p.B, 0, none⟩ = some (.int .i64 y0) := hO.1 0 _ rfl
  have hf := hO.2 0
  have ev : a.eval (.tmp 15) = .pointer (some ⟨p.B, 0, none⟩) := evalT hv
  have eu : a.eval (.tmp 5) = .int .i64 (newX p.o 0) := evalT hu
  refine oper_skip (w' := w.setCell ⟨p.B, 0, none⟩ (.int .i64 (newX p.o 0))) ?_ (by rw [hi.dst]; rfl) ?_
  · unfold execOp
    simp only [hi.op, opR]
    rw [ev, eu]
    go_simp
  · refine ⟨⟨h.defers, h.size, h.s1, ?_, ⟨newX p.o 0, y1, y2, y3, hO.set0 _, heldF_twice _ _ (by decide), e1, e2, e3⟩, fun B ww hB hb => below_setB (h.below B ww hB hb) hB _ _⟩, ⟨(fun s' hs' => by cases hs'), set_same hc⟩, fun k hk hg => ?_⟩
    · obtain ⟨r, hr, hne, hr2, hr3⟩ := h.s2
      exact ⟨r, hr, hne, hr2.far hne _ _, hr3⟩
    · refine ⟨hg.1, ?_⟩
      exact cell_far hg.2 0 (by decide) hk _
theorem stepR3 (h : HoldsR p w0 w a) (hi : IsOpR ops 3 o) (_hg : ∀ k ∈ depR 3, GoodR p k a w) : StepR p w0 Q ops 3 o a w := by
  unfold StepR
  rw [if_pos (wanted_none hi.guard)]
  refine oper_val (v := .pointer (some ⟨p.B, 1, none⟩)) (w' := w) ?_ ?_
  · unfold execOp
    simp only [hi.op, opR, evalT h.s1, Sem.run_bind, fieldR1, Result.andThen_ok]
    rfl
  · rw [hi.dst]
    exact doneR h (s := 6) rfl _ rfl trivial
theorem stepR14 (h : HoldsR p w0 w a) (hi : IsOpR ops 14 o) (_hg : ∀ k ∈ depR 14, GoodR p k a w) : StepR p w0 Q ops 14 o a w := by
  unfold StepR
  rw [if_pos (wanted_none hi.guard)]
  refine oper_val (v := .pointer (some ⟨p.B, 1, none⟩)) (w' := w) ?_ ?_
  · unfold execOp
    simp only [hi.op, opR, evalT h.s1, Sem.run_bind, fieldR1, Result.andThen_ok]
    rfl
  · rw [hi.dst]
    exact doneR h (s := 16) rfl _ rfl trivial
theorem stepR4 (h : HoldsR p w0 w a) (hi : IsOpR ops 4 o) (hg : ∀ k ∈ depR 4, GoodR p k a w) : StepR p w0 Q ops 4 o a w := by
  unfold StepR
  rw [if_pos (wanted_none hi.guard)]
  obtain ⟨v, hv, rfl⟩ := (hg 3 (by simp [depR])).1 6 rfl
  obtain ⟨y0, y1, y2, y3, hO, e0, e1, e2, e3⟩ := h.cells
  have hc : w.cell? ⟨p.B, 1, none⟩ = some (.int .i64 y1) := hO.1 1 _ rfl
  have e : a.eval (.tmp 6) = .pointer (some ⟨p.B, 1, none⟩) := evalT hv
  refine oper_val (v := .int .i64 y1) (w' := w) ?_ ?_
  · unfold execOp
    simp only [hi.op, opR]
    rw [e]
    go_simp
  · rw [hi.dst]
    exact doneR h (s := 7) rfl _ ⟨y1, rfl, e1⟩ trivial
theorem stepR5 (h : HoldsR p w0 w a) (hi : IsOpR ops 5 o) (hg : ∀ k ∈ depR 5, GoodR p k a w) : StepR p w0 Q ops 5 o a w := by
  unfold StepR
  rw [if_pos (wanted_none hi.guard)]
  obtain ⟨v, hv, y, rfl, hy⟩ := (hg 4 (by simp [depR])).1 7 rfl
  refine oper_enter (f := 83) (args := #[.int .i64 y, .int .i64 4]) ?_ (.int .i64 (newX p.o 1)) ?_ ?_
  · unfold execOp
    simp only [hi.op, opR]
    simp [hv, go_sem]
  · rw [← hy]
    exact held_any y 4 (by decide) w
  · rw [hi.dst]
    exact doneR h (s := 8) rfl _ rfl trivial
theorem stepR15 (h : HoldsR p w0 w a) (hi : IsOpR ops 15 o) (hg : ∀ k ∈ depR 15, GoodR p k a w) : StepR p w0 Q ops 15 o a w := by
  unfold StepR
  rw [if_pos (wanted_none hi.guard)]
  obtain ⟨v, hv, rfl⟩ := (hg 14 (by simp [depR])).1 16 rfl
  obtain ⟨u, hu, rfl⟩ := (hg 5 (by simp [depR])).1 8 rfl
  obtain ⟨y0, y1, y2, y3, hO, e0, e1, e2, e3⟩ := h.cells
  have hc : w.cell? ⟨p.B, 1, none⟩ = some (.int .i64 y1) := hO.1 1 _ rfl
  have hf := hO.2 1
  have ev : a.eval (.tmp 16) = .pointer (some ⟨p.B, 1, none⟩) := evalT hv
  have eu : a.eval (.tmp 8) = .int .i64 (newX p.o 1) := evalT hu
  refine oper_skip (w' := w.setCell ⟨p.B, 1, none⟩ (.int .i64 (newX p.o 1))) ?_ (by rw [hi.dst]; rfl) ?_
  · unfold execOp
    simp only [hi.op, opR]
    rw [ev, eu]
    go_simp
  · refine ⟨⟨h.defers, h.size, h.s1, ?_, ⟨y0, newX p.o 1, y2, y3, hO.set1 _, e0, heldF_twice _ _ (by decide), e2, e3⟩, fun B ww hB hb => below_setB (h.below B ww hB hb) hB _ _⟩, ⟨(fun s' hs' => by cases hs'), set_same hc⟩, fun k hk hg => ?_⟩
    · obtain ⟨r, hr, hne, hr2, hr3⟩ := h.s2
      exact ⟨r, hr, hne, hr2.far hne _ _, hr3⟩
    · refine ⟨hg.1, ?_⟩
      exact cell_far hg.2 1 (by decide) hk _
theorem stepR6 (h : HoldsR p w0 w a) (hi : IsOpR ops 6 o) (_hg : ∀ k ∈ depR 6, GoodR p k a w) : StepR p w0 Q ops 6 o a w := by
  unfold StepR
  rw [if_pos (wanted_none hi.guard)]
  refine oper_val (v := .pointer (some ⟨p.B, 2, none⟩)) (w' := w) ?_ ?_
  · unfold execOp
    simp only [hi.op, opR, evalT h.s1, Sem.run_bind, fieldR2, Result.andThen_ok]
    rfl
  · rw [hi.dst]
    exact doneR h (s := 9) rfl _ rfl trivial
theorem stepR16 (h : HoldsR p w0 w a) (hi : IsOpR ops 16 o) (_hg : ∀ k ∈ depR 16, GoodR p k a w) : StepR p w0 Q ops 16 o a w := by
  unfold StepR
  rw [if_pos (wanted_none hi.guard)]
  refine oper_val (v := .pointer (some ⟨p.B, 2, none⟩)) (w' := w) ?_ ?_
  · unfold execOp
    simp only [hi.op, opR, evalT h.s1, Sem.run_bind, fieldR2, Result.andThen_ok]
    rfl
  · rw [hi.dst]
    exact doneR h (s := 17) rfl _ rfl trivial
theorem stepR7 (h : HoldsR p w0 w a) (hi : IsOpR ops 7 o) (hg : ∀ k ∈ depR 7, GoodR p k a w) : StepR p w0 Q ops 7 o a w := by
  unfold StepR
  rw [if_pos (wanted_none hi.guard)]
  obtain ⟨v, hv, rfl⟩ := (hg 6 (by simp [depR])).1 9 rfl
  obtain ⟨y0, y1, y2, y3, hO, e0, e1, e2, e3⟩ := h.cells
  have hc : w.cell? ⟨p.B, 2, none⟩ = some (.int .i64 y2) := hO.1 2 _ rfl
  have e : a.eval (.tmp 9) = .pointer (some ⟨p.B, 2, none⟩) := evalT hv
  refine oper_val (v := .int .i64 y2) (w' := w) ?_ ?_
  · unfold execOp
    simp only [hi.op, opR]
    rw [e]
    go_simp
  · rw [hi.dst]
    exact doneR h (s := 10) rfl _ ⟨y2, rfl, e2⟩ trivial
theorem stepR8 (h : HoldsR p w0 w a) (hi : IsOpR ops 8 o) (hg : ∀ k ∈ depR 8, GoodR p k a w) : StepR p w0 Q ops 8 o a w := by
  unfold StepR
  rw [if_pos (wanted_none hi.guard)]
  obtain ⟨v, hv, y, rfl, hy⟩ := (hg 7 (by simp [depR])).1 10 rfl
  refine oper_enter (f := 83) (args := #[.int .i64 y, .int .i64 4]) ?_ (.int .i64 (newX p.o 2)) ?_ ?_
  · unfold execOp
    simp only [hi.op, opR]
    simp [hv, go_sem]
  · rw [← hy]
    exact held_any y 4 (by decide) w
  · rw [hi.dst]
    exact doneR h (s := 11) rfl _ rfl trivial
theorem stepR17 (h : HoldsR p w0 w a) (hi : IsOpR ops 17 o) (hg : ∀ k ∈ depR 17, GoodR p k a w) : StepR p w0 Q ops 17 o a w := by
  unfold StepR
  rw [if_pos (wanted_none hi.guard)]
  obtain ⟨v, hv, rfl⟩ := (hg 16 (by simp [depR])).1 17 rfl
  obtain ⟨u, hu, rfl⟩ := (hg 8 (by simp [depR])).1 11 rfl
  obtain ⟨y0, y1, y2, y3, hO, e0, e1, e2, e3⟩ := h.cells
  have hc : w.cell? ⟨p.B, 2, none⟩ = some (.int .i64 y2) := hO.1 2 _ rfl
  have hf := hO.2 2
  have ev : a.eval (.tmp 17) = .pointer (some ⟨p.B, 2, none⟩) := evalT hv
  have eu : a.eval (.tmp 11) = .int .i64 (newX p.o 2) := evalT hu
  refine oper_skip (w' := w.setCell ⟨p.B, 2, none⟩ (.int .i64 (newX p.o 2))) ?_ (by rw [hi.dst]; rfl) ?_
  · unfold execOp
    simp only [hi.op, opR]
    rw [ev, eu]
    go_simp
  · refine ⟨⟨h.defers, h.size, h.s1, ?_, ⟨y0, y1, newX p.o 2, y3, hO.set2 _, e0, e1, heldF_twice _ _ (by decide), e3⟩, fun B ww hB hb => below_setB (h.below B ww hB hb) hB _ _⟩, ⟨(fun s' hs' => by cases hs'), set_same hc⟩, fun k hk hg => ?_⟩
    · obtain ⟨r, hr, hne, hr2, hr3⟩ := h.s2
      exact ⟨r, hr, hne, hr2.far hne _ _, hr3⟩
    · refine ⟨hg.1, ?_⟩
      exact cell_far hg.2 2 (by decide) hk _
theorem stepR9 (h : HoldsR p w0 w a) (hi : IsOpR ops 9 o) (_hg : ∀ k ∈ depR 9, GoodR p k a w) : StepR p w0 Q ops 9 o a w := by
  unfold StepR
  rw [if_pos (wanted_none hi.guard)]
  refine oper_val (v := .pointer (some ⟨p.B, 3, none⟩)) (w' := w) ?_ ?_
  · unfold execOp
    simp only [hi.op, opR, evalT h.s1, Sem.run_bind, fieldR3, Result.andThen_ok]
    rfl
  · rw [hi.dst]
    exact doneR h (s := 12) rfl _ rfl trivial
theorem stepR18 (h : HoldsR p w0 w a) (hi : IsOpR ops 18 o) (_hg : ∀ k ∈ depR 18, GoodR p k a w) : StepR p w0 Q ops 18 o a w := by
  unfold StepR
  rw [if_pos (wanted_none hi.guard)]
  refine oper_val (v := .pointer (some ⟨p.B, 3, none⟩)) (w' := w) ?_ ?_
  · unfold execOp
    simp only [hi.op, opR, evalT h.s1, Sem.run_bind, fieldR3, Result.andThen_ok]
    rfl
  · rw [hi.dst]
    exact doneR h (s := 18) rfl _ rfl trivial
theorem stepR10 (h : HoldsR p w0 w a) (hi : IsOpR ops 10 o) (hg : ∀ k ∈ depR 10, GoodR p k a w) : StepR p w0 Q ops 10 o a w := by
  unfold StepR
  rw [if_pos (wanted_none hi.guard)]
  obtain ⟨v, hv, rfl⟩ := (hg 9 (by simp [depR])).1 12 rfl
  obtain ⟨y0, y1, y2, y3, hO, e0, e1, e2, e3⟩ := h.cells
  have hc : w.cell? ⟨p.B, 3, none⟩ = some (.int .i64 y3) := hO.1 3 _ rfl
  have e : a.eval (.tmp 12) = .pointer (some ⟨p.B, 3, none⟩) := evalT hv
  refine oper_val (v := .int .i64 y3) (w' := w) ?_ ?_
  · unfold execOp
    simp only [hi.op, opR]
    rw [e]
    go_simp
  · rw [hi.dst]
    exact doneR h (s := 13) rfl _ ⟨y3, rfl, e3⟩ trivial
theorem stepR11 (h : HoldsR p w0 w a) (hi : IsOpR ops 11 o) (hg : ∀ k ∈ depR 11, GoodR p k a w) : StepR p w0 Q ops 11 o a w := by
  unfold StepR
  rw [if_pos (wanted_none hi.guard)]
  obtain ⟨v, hv, y, rfl, hy⟩ := (hg 10 (by simp [depR])).1 13 rfl
  refine oper_enter (f := 83) (args := #[.int .i64 y, .int .i64 4]) ?_ (.int .i64 (newX p.o 3)) ?_ ?_
  · unfold execOp
    simp only [hi.op, opR]
    simp [hv, go_sem]
  · rw [← hy]
    exact held_any y 4 (by decide) w
  · rw [hi.dst]
    exact doneR h (s := 14) rfl _ rfl trivial
theorem stepR19 (h : HoldsR p w0 w a) (hi : IsOpR ops 19 o) (hg : ∀ k ∈ depR 19, GoodR p k a w) : StepR p w0 Q ops 19 o a w := by
  unfold StepR
  rw [if_pos (wanted_none hi.guard)]
  obtain ⟨v, hv, rfl⟩ := (hg 18 (by simp [depR])).1 18 rfl
  obtain ⟨u, hu, rfl⟩ := (hg 11 (by simp [depR])).1 14 rfl
  obtain ⟨y0, y1, y2, y3, hO, e0, e1, e2, e3⟩ := h.cells
  have hc : w.cell? ⟨p.B, 3, none⟩ = some (.int .i64 y3) := hO.1 3 _ rfl
  have hf := hO.2 3
  have ev : a.eval (.tmp 18) = .pointer (some ⟨p.B, 3, none⟩) := evalT hv
  have eu : a.eval (.tmp 14) = .int .i64 (newX p.o 3) := evalT hu
  refine oper_skip (w' := w.setCell ⟨p.B, 3, none⟩ (.int .i64 (newX p.o 3))) ?_ (by rw [hi.dst]; rfl) ?_
  · unfold execOp
    simp only [hi.op, opR]
    rw [ev, eu]
    go_simp
  · refine ⟨⟨h.defers, h.size, h.s1, ?_, ⟨y0, y1, y2, newX p.o 3, hO.set3 _, e0, e1, e2, heldF_twice _ _ (by decide)⟩, fun B ww hB hb => below_setB (h.below B ww hB hb) hB _ _⟩, ⟨(fun s' hs' => by cases hs'), set_same hc⟩, fun k hk hg => ?_⟩
    · obtain ⟨r, hr, hne, hr2, hr3⟩ := h.s2
      exact ⟨r, hr, hne, hr2.far hne _ _, hr3⟩
    · refine ⟨hg.1, ?_⟩
      exact cell_far hg.2 3 (by decide) hk _
theorem all_stepsR (hsz : ops.size = 20) (hops : ∀ i o, ops[i]? = some o → IsOpR ops i o) (i : Nat) (o : Oper) (ho : ops[i]? = some o) (a : Act) (w : World) (h : HoldsR p w0 w a) (hd : ∀ e ∈ o.after, Region.binds .any e = true → GoodR p e.on a w) : StepR p w0 Q ops i o a w := by
  have hi := hops i o ho
  have hlt : i < 20 := by have := (Array.getElem?_eq_some_iff.1 ho).1; omega
  have hg : ∀ k ∈ depR i, GoodR p k a w := fun k hk => by
    obtain ⟨e, he, rfl, hb⟩ := hi.deps k hk
    exact hd e he hb
  clear hd ho hops
  have hc : i = 0 ∨ i = 1 ∨ i = 2 ∨ i = 3 ∨ i = 4 ∨ i = 5 ∨ i = 6 ∨ i = 7 ∨ i = 8 ∨ i = 9 ∨ i = 10 ∨ i = 11 ∨ i = 12 ∨ i = 13 ∨ i = 14 ∨ i = 15 ∨ i = 16 ∨ i = 17 ∨ i = 18 ∨ i = 19 := by omega
  rcases hc with rfl | rfl | rfl | rfl | rfl | rfl | rfl | rfl | rfl | rfl | rfl | rfl | rfl | rfl | rfl | rfl | rfl | rfl | rfl | rfl
  · exact stepR0 h hi hg
  · exact stepR1 h hi hg
  · exact stepR2 h hi hg
  · exact stepR3 h hi hg
  · exact stepR4 h hi hg
  · exact stepR5 h hi hg
  · exact stepR6 h hi hg
  · exact stepR7 h hi hg
  · exact stepR8 h hi hg
  · exact stepR9 h hi hg
  · exact stepR10 h hi hg
  · exact stepR11 h hi hg
  · exact stepR12 h hi hg
  · exact stepR13 h hi hg
  · exact stepR14 h hi hg
  · exact stepR15 h hi hg
  · exact stepR16 h hi hg
  · exact stepR17 h hi hg
  · exact stepR18 h hi hg
  · exact stepR19 h hi hg
def depBR (ops : Array Oper) : Bool := (List.range 20).all fun i => (depR i).all fun k => ((ops[i]?).map fun o => o.after.any fun e => e.on == k && Region.binds .any e).getD false
theorem isOpR_of (h1 : ops.toList.map (fun o => (o.dst, o.op, o.guard)) = (List.range 20).map fun i => (slotR i, opR i, none)) (h2 : depBR ops = true) : ops.size = 20 ∧ ∀ i o, ops[i]? = some o → IsOpR ops i o := by
  have hsz : ops.size = 20 := by
    have := congrArg List.length h1
    simpa using this
  refine ⟨hsz, fun i o ho => ?_⟩
  have hi : i < 20 := by have := (Array.getElem?_eq_some_iff.1 ho).1; omega
  have e := congrArg (fun l => l[i]?) h1
  simp only [List.getElem?_map, Array.getElem?_toList, ho, Option.map_some, List.getElem?_range hi] at e
  injection e with e
  injection e with e1 e
  injection e with e2 e3
  refine ⟨e1, e2, e3, fun k hk => ?_⟩
  have := List.all_eq_true.1 (List.all_eq_true.1 h2 i (List.mem_range.2 hi)) k hk
  rw [ho] at this
  simp only [Option.map_some, Option.getD_some] at this
  rw [← Array.any_toList, List.any_eq_true] at this
  obtain ⟨x, hx, hv⟩ := this
  rw [Bool.and_eq_true] at hv
  exact ⟨x, Array.mem_toList_iff.1 hx, by simpa using hv.1, hv.2⟩
theorem right_region {id : Nat} (hm : Tryz.prog.follows .mixedOrders = true) (h1 : ops.toList.map (fun o => (o.dst, o.op, o.guard)) = (List.range 20).map fun i => (slotR i, opR i, none)) (h2 : depBR ops = true) (h3 : backB ops = true) (h : HoldsR p w0 w.drew a)
    (hend : ∀ a' w', HoldsR p w0 w' a' → OptAt w' p.B (heldO p.o) → Q .normal a' w') : (Code.region id ops true).wp Tryz.prog Q a w := by
  obtain ⟨hsz, hops⟩ := isOpR_of h1 h2
  refine wp_region_inv hm (fun a w => HoldsR p w0 w a) (GoodR p) (back_of h3) h (fun i o ho a w hS hd => all_stepsR hsz hops i o ho a w hS hd) (fun a' w' hS hG => hend a' w' hS ?_)
  obtain ⟨y0, y1, y2, y3, hO, _⟩ := hS.cells
  have g0 : w'.cell? ⟨p.B, 0, none⟩ = some (.int .i64 (newX p.o 0)) := (hG 13 (by omega)).2
  have g1 : w'.cell? ⟨p.B, 1, none⟩ = some (.int .i64 (newX p.o 1)) := (hG 15 (by omega)).2
  have g2 : w'.cell? ⟨p.B, 2, none⟩ = some (.int .i64 (newX p.o 2)) := (hG 17 (by omega)).2
  have g3 : w'.cell? ⟨p.B, 3, none⟩ = some (.int .i64 (newX p.o 3)) := (hG 19 (by omega)).2
  have c0 : w'.cell? ⟨p.B, 0, none⟩ = some (.int .i64 y0) := hO.1 0 _ rfl
  have c1 : w'.cell? ⟨p.B, 1, none⟩ = some (.int .i64 y1) := hO.1 1 _ rfl
  have c2 : w'.cell? ⟨p.B, 2, none⟩ = some (.int .i64 y2) := hO.1 2 _ rfl
  have c3 : w'.cell? ⟨p.B, 3, none⟩ = some (.int .i64 y3) := hO.1 3 _ rfl
  rw [g0] at c0
  rw [g1] at c1
  rw [g2] at c2
  rw [g3] at c3
  injection c0 with c0
  injection c0 with _ c0
  injection c1 with c1
  injection c1 with _ c1
  injection c2 with c2
  injection c2 with _ c2
  injection c3 with c3
  injection c3 with _ c3
  subst c0 c1 c2 c3
  exact hO
end
end Go.Proofs.YtanngknhbgcobaaGreatDoor
/- Options made right go together. -/
namespace Go.Proofs.YtanngknhbgcobaaGreatDoor
open Go.RowKit
theorem right_err (o : Opt) : (rightF o).err = 0 := by
  unfold rightF heldO
  have h0 := heldF_le o.d 3 (by omega)
  have h1 := heldF_le o.l 4 (by omega)
  have h2 := heldF_le o.t 4 (by omega)
  have h3 := heldF_le o.g 4 (by omega)
  generalize heldF o.d 3 = d at *
  generalize heldF o.l 4 = l at *
  generalize heldF o.t 4 = t at *
  generalize heldF o.g 4 = g at *
  obtain ⟨_, _, _, _, b0, b1, b2, b3, b4, b5, b6, b7, b8, b9⟩ := o
  simp only
  cases b1
  · cases b6 <;> simp [cut1, cut2, cut3, cut4, Opt.err, Opt.may, Opt.odd] <;> omega
  · by_cases hl : l = 0
    · by_cases ht : t = 3 ∨ t = 4
      · cases b6 <;> rcases ht with ht | ht <;> simp [cut1, cut2, cut3, cut4, Opt.err, Opt.may, Opt.odd, hl, ht] <;> omega
      · have h3 : ¬ t = 3 := fun e => ht (.inl e)
        have h4 : ¬ t = 4 := fun e => ht (.inr e)
        cases b6 <;> simp [cut1, cut2, cut3, cut4, Opt.err, Opt.may, Opt.odd, hl, h3, h4] <;> omega
    · by_cases ht : t = 3 ∨ t = 4
      · cases b6 <;> rcases ht with ht | ht <;> simp [cut1, cut2, cut3, cut4, Opt.err, Opt.may, Opt.odd, hl, ht] <;> omega
      · have h3 : ¬ t = 3 := fun e => ht (.inl e)
        have h4 : ¬ t = 4 := fun e => ht (.inr e)
        cases b6 <;> simp [cut1, cut2, cut3, cut4, Opt.err, Opt.may, Opt.odd, hl, h3, h4] <;> omega
end Go.Proofs.YtanngknhbgcobaaGreatDoor
