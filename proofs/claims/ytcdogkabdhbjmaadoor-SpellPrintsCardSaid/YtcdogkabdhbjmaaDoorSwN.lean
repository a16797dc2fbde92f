/- Options as words: numbers of flags, fields of options and back. -/
import Derived.Test.YtcdogkabdhbjmaaDoorSwT
import Derived.Test.YtcdogkabdhbjmaaDoorOpH2
import Derived.StillTailTactics
namespace Go.Proofs.YtcdogkabdhbjmaaDoor
open Go.RowKit

theorem swNumber_any (b : Bool) (w : World) : Calls Tryd.prog 53 #[.bool b] w fun e w' => e = .returned (.int .i64 (Opt.bi b)) ∧ w = w' := by
  cases b with
  | true =>
    go_enter Tryd.func53, Tryd.ntmps53
    go_wp2
    go_ret
    exact ⟨rfl, rfl⟩
  | false =>
    go_enter Tryd.func53, Tryd.ntmps53
    go_wp2
    go_ret
    exact ⟨rfl, rfl⟩
/-- The cells of a block of the call's own. -/
def CellsAt (w : World) (b : Nat) (cs : List Value) : Prop := (∀ j v, cs[j]? = some v → w.cell? ⟨b, j, none⟩ = some v) ∧ ∀ j, w.frozen? ⟨b, j, none⟩ = false
theorem CellsAt.new_ (w : World) (cs : List Value) (T : TypeId) : CellsAt (w.alloc (.cells cs.toArray T)) w.heap.size cs :=
  ⟨fun j v hv => by
    rw [World.cell?_alloc_at _ _ _ _ rfl]
    simpa using hv, fun j => by simp [go_sem]⟩
theorem CellsAt.below {w w' : World} {b : Nat} {cs : List Value} (h : CellsAt w b cs) (hb : Below w.heap.size w w') (hl : b < w.heap.size) : CellsAt w' b cs :=
  ⟨fun j v hv => cell_below hb (h.1 j v hv), fun j => (hb.frozen hl).trans (h.2 j)⟩
theorem CellsAt.set {w : World} {b : Nat} {cs : List Value} (h : CellsAt w b cs) (j : Nat) (u : Value) : CellsAt (w.setCell ⟨b, j, none⟩ u) b (cs.set j u) :=
  ⟨fun i v hv => by
    by_cases hi : i = j
    · subst hi
      rw [List.getElem?_set] at hv
      simp only [if_true] at hv
      split at hv
      · rename_i hlt
        obtain rfl := Option.some.inj hv
        exact set_same (h.1 i _ (List.getElem?_eq_getElem hlt))
      · cases hv
    · rw [List.getElem?_set_ne (fun e => hi e.symm)] at hv
      exact set_other (h.1 i v hv) hi, fun i => (frozen_set ..).trans (h.2 i)⟩
theorem CellsAt.far {w : World} {b c : Nat} {cs : List Value} (h : CellsAt w b cs) (hc : b ≠ c) (j : Nat) (u : Value) : CellsAt (w.setCell ⟨c, j, none⟩ u) b cs :=
  ⟨fun i v hv => (World.cell?_setCell_other (h := fun e => hc (by injection e with e1 _ _; exact e1.symm)) ..).trans (h.1 i v hv), fun i => (frozen_set ..).trans (h.2 i)⟩
theorem CellsAt.drew {w : World} {b : Nat} {cs : List Value} (h : CellsAt w b cs) : CellsAt w.drew b cs := h
theorem res_ints {fn : Func} {p : Tmp} (hf : fn.results = #[.cell p 62]) (tmps : Array Value) (w : World) (g : Nat) (y0 y1 y2 y3 y4 y5 y6 y7 y8 y9 y10 y11 y12 y13 : Int) (hp : tmps.getD p undef = .pointer (some ⟨g, 0, none⟩))
    (hC : CellsAt w g [.int .i64 y0, .int .i64 y1, .int .i64 y2, .int .i64 y3, .int .i64 y4, .int .i64 y5, .int .i64 y6, .int .i64 y7, .int .i64 y8, .int .i64 y9, .int .i64 y10, .int .i64 y11, .int .i64 y12, .int .i64 y13]) : (results fn tmps).run Tryd.prog w = .ok (.agg #[.int .i64 y0, .int .i64 y1, .int .i64 y2, .int .i64 y3, .int .i64 y4, .int .i64 y5, .int .i64 y6, .int .i64 y7, .int .i64 y8, .int .i64 y9, .int .i64 y10, .int .i64 y11, .int .i64 y12, .int .i64 y13]) w := by
  have hc := hC.1
  have c0 := hc 0 _ rfl
  have c1 := hc 1 _ rfl
  have c2 := hc 2 _ rfl
  have c3 := hc 3 _ rfl
  have c4 := hc 4 _ rfl
  have c5 := hc 5 _ rfl
  have c6 := hc 6 _ rfl
  have c7 := hc 7 _ rfl
  have c8 := hc 8 _ rfl
  have c9 := hc 9 _ rfl
  have c10 := hc 10 _ rfl
  have c11 := hc 11 _ rfl
  have c12 := hc 12 _ rfl
  have c13 := hc 13 _ rfl
  have hp' : tmps[p]?.getD undef = .pointer (some ⟨g, 0, none⟩) := by simpa using hp
  simp only [results, hf]
  clear hc hp hf hC
  go_simp
set_option maxRecDepth 100000 in
set_option maxHeartbeats 4000000 in
/-- The fields of options. -/
theorem swFields_any (d l t g : Int) (b0 b1 b2 b3 b4 b5 b6 b7 b8 b9 : Bool) (w : World) :
    Calls Tryd.prog 40 #[.agg #[.int .i64 d, .int .i64 l, .int .i64 t, .int .i64 g, .bool b0, .bool b1, .bool b2, .bool b3, .bool b4, .bool b5, .bool b6, .bool b7, .bool b8, .bool b9]] w fun e w' => e = .returned (.agg ((Opt.fields ⟨d, l, t, g, b0, b1, b2, b3, b4, b5, b6, b7, b8, b9⟩).map (Value.int .i64)).toArray) ∧ Below w.heap.size w w' := by
  have hc : ∀ (j : Nat) (u : Value), (Opt.cells ⟨d, l, t, g, b0, b1, b2, b3, b4, b5, b6, b7, b8, b9⟩)[j]? = some u → (w.alloc (.cells #[.int .i64 d, .int .i64 l, .int .i64 t, .int .i64 g, .bool b0, .bool b1, .bool b2, .bool b3, .bool b4, .bool b5, .bool b6, .bool b7, .bool b8, .bool b9] 23)).cell? ⟨w.heap.size, j, none⟩ = some u := (OptAt.new_ w ⟨d, l, t, g, b0, b1, b2, b3, b4, b5, b6, b7, b8, b9⟩ 23).1
  have HB := Lib.hid (below_self (below_new w (.cells #[.int .i64 d, .int .i64 l, .int .i64 t, .int .i64 g, .bool b0, .bool b1, .bool b2, .bool b3, .bool b4, .bool b5, .bool b6, .bool b7, .bool b8, .bool b9] 23)) (below_new _ (.cells #[.int .i64 0, .int .i64 0, .int .i64 0, .int .i64 0, .int .i64 0, .int .i64 0, .int .i64 0, .int .i64 0, .int .i64 0, .int .i64 0, .int .i64 0, .int .i64 0, .int .i64 0, .int .i64 0] 62)))
  obtain ⟨W1, hW1⟩ : ∃ W1, w.alloc (.cells #[.int .i64 d, .int .i64 l, .int .i64 t, .int .i64 g, .bool b0, .bool b1, .bool b2, .bool b3, .bool b4, .bool b5, .bool b6, .bool b7, .bool b8, .bool b9] 23) = W1 := ⟨_, rfl⟩
  rw [hW1] at hc HB
  obtain ⟨W2, hW2⟩ : ∃ W2, W1.alloc (.cells #[.int .i64 0, .int .i64 0, .int .i64 0, .int .i64 0, .int .i64 0, .int .i64 0, .int .i64 0, .int .i64 0, .int .i64 0, .int .i64 0, .int .i64 0, .int .i64 0, .int .i64 0, .int .i64 0] 62) = W2 := ⟨_, rfl⟩
  have hb2 : Below W1.heap.size W1 W2 := by rw [← hW2]; exact below_new _ _
  have hF : CellsAt W2 W1.heap.size (List.replicate 14 (.int .i64 0)) := by rw [← hW2]; exact CellsAt.new_ W1 (List.replicate 14 (.int .i64 0)) 62
  rw [hW2] at HB
  have c0 : W2.cell? ⟨w.heap.size, 0, none⟩ = some (.int .i64 d) := cell_below hb2 (hc 0 _ rfl)
  have c1 : W2.cell? ⟨w.heap.size, 1, none⟩ = some (.int .i64 l) := cell_below hb2 (hc 1 _ rfl)
  have c2 : W2.cell? ⟨w.heap.size, 2, none⟩ = some (.int .i64 t) := cell_below hb2 (hc 2 _ rfl)
  have c3 : W2.cell? ⟨w.heap.size, 3, none⟩ = some (.int .i64 g) := cell_below hb2 (hc 3 _ rfl)
  have c4 : W2.cell? ⟨w.heap.size, 4, none⟩ = some (.bool b0) := cell_below hb2 (hc 4 _ rfl)
  have c5 : W2.cell? ⟨w.heap.size, 5, none⟩ = some (.bool b1) := cell_below hb2 (hc 5 _ rfl)
  have c6 : W2.cell? ⟨w.heap.size, 6, none⟩ = some (.bool b2) := cell_below hb2 (hc 6 _ rfl)
  have c7 : W2.cell? ⟨w.heap.size, 7, none⟩ = some (.bool b3) := cell_below hb2 (hc 7 _ rfl)
  have c8 : W2.cell? ⟨w.heap.size, 8, none⟩ = some (.bool b4) := cell_below hb2 (hc 8 _ rfl)
  have c9 : W2.cell? ⟨w.heap.size, 9, none⟩ = some (.bool b5) := cell_below hb2 (hc 9 _ rfl)
  have c10 : W2.cell? ⟨w.heap.size, 10, none⟩ = some (.bool b6) := cell_below hb2 (hc 10 _ rfl)
  have c11 : W2.cell? ⟨w.heap.size, 11, none⟩ = some (.bool b7) := cell_below hb2 (hc 11 _ rfl)
  have c12 : W2.cell? ⟨w.heap.size, 12, none⟩ = some (.bool b8) := cell_below hb2 (hc 12 _ rfl)
  have c13 : W2.cell? ⟨w.heap.size, 13, none⟩ = some (.bool b9) := cell_below hb2 (hc 13 _ rfl)
  have z0 : W2.cell? ⟨W1.heap.size, 0, none⟩ = some (.int .i64 0) := hF.1 0 _ rfl
  have f0 := hF.2 0
  have z1 : W2.cell? ⟨W1.heap.size, 1, none⟩ = some (.int .i64 0) := hF.1 1 _ rfl
  have f1 := hF.2 1
  have z2 : W2.cell? ⟨W1.heap.size, 2, none⟩ = some (.int .i64 0) := hF.1 2 _ rfl
  have f2 := hF.2 2
  have z3 : W2.cell? ⟨W1.heap.size, 3, none⟩ = some (.int .i64 0) := hF.1 3 _ rfl
  have f3 := hF.2 3
  have z4 : W2.cell? ⟨W1.heap.size, 4, none⟩ = some (.int .i64 0) := hF.1 4 _ rfl
  have f4 := hF.2 4
  have z5 : W2.cell? ⟨W1.heap.size, 5, none⟩ = some (.int .i64 0) := hF.1 5 _ rfl
  have f5 := hF.2 5
  have z6 : W2.cell? ⟨W1.heap.size, 6, none⟩ = some (.int .i64 0) := hF.1 6 _ rfl
  have f6 := hF.2 6
  have z7 : W2.cell? ⟨W1.heap.size, 7, none⟩ = some (.int .i64 0) := hF.1 7 _ rfl
  have f7 := hF.2 7
  have z8 : W2.cell? ⟨W1.heap.size, 8, none⟩ = some (.int .i64 0) := hF.1 8 _ rfl
  have f8 := hF.2 8
  have z9 : W2.cell? ⟨W1.heap.size, 9, none⟩ = some (.int .i64 0) := hF.1 9 _ rfl
  have f9 := hF.2 9
  have z10 : W2.cell? ⟨W1.heap.size, 10, none⟩ = some (.int .i64 0) := hF.1 10 _ rfl
  have f10 := hF.2 10
  have z11 : W2.cell? ⟨W1.heap.size, 11, none⟩ = some (.int .i64 0) := hF.1 11 _ rfl
  have f11 := hF.2 11
  have z12 : W2.cell? ⟨W1.heap.size, 12, none⟩ = some (.int .i64 0) := hF.1 12 _ rfl
  have f12 := hF.2 12
  have z13 : W2.cell? ⟨W1.heap.size, 13, none⟩ = some (.int .i64 0) := hF.1 13 _ rfl
  have f13 := hF.2 13
  have HF := Lib.hid hF
  have hb1 := Lib.hid (show w.heap.size ≤ W1.heap.size from Nat.le_of_lt (cell_lt (hc 0 _ rfl)))
  clear hc hb2 hF
  have K := fun b w => (swNumber_any b w).mono (R' := fun e w'' => e = .returned (.int .i64 (Opt.bi b)) ∧ w'' = w) fun _ _ h => ⟨h.1, h.2.symm⟩
  go_enter Tryd.func40, Tryd.ntmps40
  go_wp2_with fail
  refine wp_region_still_tail 39 (by kernel_rfl) (by kernel_rfl) ?_
  simp only [List.take_succ_cons, List.take_zero, List.drop_succ_cons, List.drop_zero]
  iterate 8 still_step
  still_step
  still_step
  still_call (K b0 _)
  still_step
  still_step
  still_call (K b1 _)
  still_step
  still_step
  still_call (K b2 _)
  still_step
  still_step
  still_call (K b3 _)
  still_step
  still_step
  still_call (K b4 _)
  still_step
  still_step
  still_call (K b5 _)
  still_step
  still_step
  still_call (K b6 _)
  still_step
  still_step
  still_call (K b7 _)
  still_step
  still_step
  still_call (K b8 _)
  still_step
  still_step
  still_call (K b9 _)
  still_step
  refine wpStill_nil ?_
  clear K c0 c1 c2 c3 c4 c5 c6 c7 c8 c9 c10 c11 c12 c13
  go_wp2_with fail
  (try simp only [Exit.inBlock, Exit.then])
  refine bodyPost_ret (v := .agg #[.int .i64 d, .int .i64 l, .int .i64 t, .int .i64 g, .int .i64 (Opt.bi b0), .int .i64 (Opt.bi b1), .int .i64 (Opt.bi b2), .int .i64 (Opt.bi b3), .int .i64 (Opt.bi b4), .int .i64 (Opt.bi b5), .int .i64 (Opt.bi b6), .int .i64 (Opt.bi b7), .int .i64 (Opt.bi b8), .int .i64 (Opt.bi b9)]) ?_ rfl ⟨rfl, ?_⟩
  · have hC := ((((((((((((((HF.out.set 0 (.int .i64 d)).set 1 (.int .i64 l)).set 2 (.int .i64 t)).set 3 (.int .i64 g)).set 4 (.int .i64 (Opt.bi b0))).set 5 (.int .i64 (Opt.bi b1))).set 6 (.int .i64 (Opt.bi b2))).set 7 (.int .i64 (Opt.bi b3))).set 8 (.int .i64 (Opt.bi b4))).set 9 (.int .i64 (Opt.bi b5))).set 10 (.int .i64 (Opt.bi b6))).set 11 (.int .i64 (Opt.bi b7))).set 12 (.int .i64 (Opt.bi b8))).set 13 (.int .i64 (Opt.bi b9)))
    simp only [List.replicate, List.set_cons_zero, List.set_cons_succ] at hC
    exact res_ints rfl _ _ W1.heap.size d l t g (Opt.bi b0) (Opt.bi b1) (Opt.bi b2) (Opt.bi b3) (Opt.bi b4) (Opt.bi b5) (Opt.bi b6) (Opt.bi b7) (Opt.bi b8) (Opt.bi b9) rfl hC.drew
  · try refine Below.drew ?_
    iterate 14 (refine below_setB ?_ hb1.out _ _)
    try refine Below.drew ?_
    exact HB.out
end Go.Proofs.YtcdogkabdhbjmaaDoor
