/- Whole blocks loaded from wherever they stand, and compared. -/
import Derived.Test.YtcbiaeeifclieaaTrK2
import Derived.BigQuiet
namespace Go.Proofs.Ytcbiaeeifclieaa
open Go.RowKit

theorem grown_onT {a b c : World} {r : Option Nat} (h : a.grownBy b r) (h' : b.grownBy c none) : a.grownBy c r :=
  ⟨h'.os.trans h.os, h'.tape.trans h.tape, h'.output.trans h.output, Nat.le_trans h.size h'.size, fun i hi hne => (h'.block i (Nat.lt_of_lt_of_le hi h.size) (by simp)).trans (h.block i hi hne)⟩
theorem loadBlkAt {w : World} {a : Addr} {xs : List Int} (h : xs.length = 128) (hc : ∀ j x, xs[j]? = some x → w.cell? (a.add j) = some (.int .i64 x)) :
    (loadVar 154 a).run Try.prog w = .ok (.agg (intsA xs)) w ∧ (loadCellsFrom a 0 128 #[]).run Try.prog w = .ok (intsA xs) w := by
  have hl : (loadCells a (xs.map (Value.int .i64)).length).run Try.prog w = .ok (xs.map (Value.int .i64)).toArray w :=
    run_loadCells_list (P := Try.prog) w a (xs.map (Value.int .i64)) (fun j v hv => by
      rw [List.getElem?_map] at hv
      cases hx : xs[j]? with
      | none => rw [hx] at hv; cases hv
      | some x => rw [hx] at hv; cases hv; exact hc j x hx)
  rw [List.length_map, h] at hl
  refine ⟨?_, by simpa [loadCells, intsA] using hl⟩
  have ha := Try.isAgg154 w
  simp [loadVar, Sem.run_bind, ha, hl, intsA]
theorem IntBlk.load {w : World} {b : Nat} {xs : List Int} (h : IntBlk w b xs) (hl : xs.length = 128) : (loadVar 154 ⟨b, 0, none⟩).run Try.prog w = .ok (.agg (intsA xs)) w ∧ (loadCellsFrom ⟨b, 0, none⟩ 0 128 #[]).run Try.prog w = .ok (intsA xs) w :=
  loadBlkAt hl (fun j x hx => by rw [addNew]; exact h.cell hx)
set_option maxRecDepth 100000 in
theorem equalBlk {b d : List Int} {kb kd : Lit} (hb : keyOf Try.prog 154 (.agg (intsA b)) = some kb) (hd : keyOf Try.prog 154 (.agg (intsA d)) = some kd) (w : World) :
    (Op.equal 154 (.agg (intsA b)) (.agg (intsA d))).run Try.prog w = .ok (decide (b = d)) w := by
  obtain ⟨r, hr, hi⟩ := run_equal_deep (P := Try.prog) w (m := 5) (by decide) (k := 154) (by kernel_rfl) (by rw [Try.underlying154]) hb hd
  rw [hr]
  congr 1
  rw [Bool.eq_iff_iff, hi]
  simp only [decide_eq_true_eq]
  exact ⟨fun e => intsA_inj (blkKeyed.inj hb (e ▸ hd)), fun e => by subst e; exact Option.some.inj (hb.symm.trans hd)⟩
theorem eqlBlk {b d : List Int} {kb kd : Lit} (hb : keyOf Try.prog 154 (.agg (intsA b)) = some kb) (hd : keyOf Try.prog 154 (.agg (intsA d)) = some kd) (w : World) :
    (binOp .eql 154 (.agg (intsA b)) (.agg (intsA d))).run Try.prog w = .ok (.bool (decide (b = d))) w ∧ (Op.equalIn 10000 154 (.agg (intsA b)) (.agg (intsA d))).run Try.prog w = .ok (decide (b = d)) w := by
  have h := equalBlk hb hd w
  refine ⟨?_, ?_⟩
  · simp only [binOp]
    simp [h]
  · simpa [Op.equal, Op.maxDepth] using h
/-- The place of a block in the row. -/
theorem own_blk {w : World} {base g n cap q : Nat} {bl : List (List Int)} {b : List Int} (h : w.ownsRow base 154 128 (.slice (some ⟨g, 0, none⟩) n cap) n (cellsK bl)) (hl : ∀ b ∈ bl, b.length = 128) (hq : bl[q]? = some b) :
    ∀ j x, b[j]? = some x → w.cell? ((⟨g, 0, none⟩ : Addr).add (q * 128 + j)) = some (.int .i64 x) := by
  intro j x hx
  have hj := (List.getElem?_eq_some_iff.1 hx).1
  have hb := hl b (List.mem_of_getElem? hq)
  have := h.cells (g := g) rfl (q * 128 + j) (.int .i64 x) (by rw [cellsK_at hl hq (by omega), hx]; rfl)
  exact this
theorem own_some {w : World} {base : Nat} {e : TypeId} {size n : Nat} {v : Value} {xs : List Value} (h : w.ownsRow base e size v n xs) (hn : 0 < n) : ∃ g cap, v = .slice (some ⟨g, 0, none⟩) n cap ∧ n ≤ cap := by
  obtain ⟨g, cap, hv, _, _⟩ := h.form hn
  obtain ⟨A, c, e, hc⟩ := own_form h
  rw [hv] at e
  injection e with e1 e2 e3
  exact ⟨g, cap, hv, by omega⟩
/-- A load of a whole block at a step of a region that only reads. -/
theorem quiet_loadT {C : World → Prop} {a : Act} {o : Oper} {K : Act → Prop} (ty : TypeId) (x : Operand) (ho : o.op = .load ty x) (ad : Addr) (v : Value) (hx : a.eval x = .pointer (some ad)) (hl : ∀ w, C w → (loadVar ty ad).run Try.prog w = .ok v w) (hk : K (a.put o.dst v)) : o.quiet Try.prog a C K :=
  ⟨v, fun w hw => by
    have : (execOp a.eval o).run Try.prog w = .ok (.value v) w := by
      unfold execOp
      simp only [ho, hx, Instr.loadAt, Instr.sureAddr, Sem.run_bind, Sem.run_pure, Result.andThen_ok, hl w hw]
    unfold Oper.quietAt
    rw [this]
    exact ⟨rfl, rfl⟩, hk⟩
/-- == of two blocks at such a step. -/
theorem quiet_eqlT {C : World → Prop} {a : Act} {o : Oper} {K : Act → Prop} (t ty : TypeId) (x y : Operand) (ho : o.op = .binOp .eql t x y ty) (u v : Value) (r : Bool) (hx : a.eval x = u) (hy : a.eval y = v) (hg : ∀ w, (eqGuard .eql t x y u v).run Try.prog w = .ok () w) (hl : ∀ w, (binOp .eql t u v).run Try.prog w = .ok (.bool r) w) (hk : K (a.put o.dst (.bool r))) : o.quiet Try.prog a C K :=
  ⟨.bool r, fun w hw => by
    have : (execOp a.eval o).run Try.prog w = .ok (.value (.bool r)) w := by
      unfold execOp
      simp only [ho, hx, hy, Sem.run_bind, Sem.run_pure]
      rw [hg w]
      simp only [Result.andThen_ok, hl w]
    unfold Oper.quietAt
    rw [this]
    exact ⟨rfl, rfl⟩, hk⟩
end Go.Proofs.Ytcbiaeeifclieaa
