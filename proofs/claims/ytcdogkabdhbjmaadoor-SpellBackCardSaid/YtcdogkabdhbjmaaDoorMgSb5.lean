/- Texts of one claim, one behind the other. -/
import Derived.StillTailTactics
import Derived.Deep.LoopGhost
import Derived.Shelf.Strings.FieldsFuncGrows
import Derived.Shelf.Strings.OnBuilder
import Derived.Test.YtcdogkabdhbjmaaDoorProg
import Derived.Deep.RegionHeld3
import Derived.BigQuiet
import Derived.Test.YtcdogkabdhbjmaaDoorMgSb2
import Derived.Test.YtcdogkabdhbjmaaDoorMgSb4
/- Options as words: numbers of flags, fields of options and back. -/
namespace Go.Proofs.YtcdogkabdhbjmaaDoor
open Go.RowKit

theorem swNumber_any (b : Bool) (w : World) : Calls Tryd.prog 53 #[.bool b] w fun e w' => e = .returned (.int .i64 (Opt.bi b)) ∧ w = w' := by
  cases b with
  | true =>
    go_enter Tryd.func53, Tryd.ntmps53
    go_wp2
    go_ret
    exact ⟨rfl, rfl⟩
  | false =>
    go_enter Tryd.func53, Tryd.ntmps53
    go_wp2
    go_ret
    exact ⟨rfl, rfl⟩
/-- The cells of a block of the call's own. -/
def CellsAt (w : World) (b : Nat) (cs : List Value) : Prop := (∀ j v, cs[j]? = some v → w.cell? ⟨b, j, none⟩ = some v) ∧ ∀ j, w.frozen? ⟨b, j, none⟩ = false
theorem CellsAt.new_ (w : World) (cs : List Value) (T : TypeId) : CellsAt (w.alloc (.cells cs.toArray T)) w.heap.size cs :=
  ⟨fun j v hv => by
    rw [World.cell?_alloc_at _ _ _ _ rfl]
    simpa using hv, fun j => by simp [go_sem]⟩
theorem CellsAt.below {w w' : World} {b : Nat} {cs : List Value} (h : CellsAt w b cs) (hb : Below w.heap.size w w') (hl : b < w.heap.size) : CellsAt w' b cs :=
  ⟨fun j v hv => cell_below hb (h.1 j v hv), fun j => (hb.frozen hl).trans (h.2 j)⟩
theorem CellsAt.set {w : World} {b : Nat} {cs : List Value} (h : CellsAt w b cs) (j : Nat) (u : Value) : CellsAt (w.setCell ⟨b, j, none⟩ u) b (cs.set j u) :=
  ⟨fun i v hv => by
    by_cases hi : i = j
    · subst hi
      rw [List.getElem?_set] at hv
      simp only [if_true] at hv
      split at hv
      · rename_i hlt
        obtain rfl := Option.some.inj hv
        exact set_same (h.1 i _ (List.getElem?_eq_getElem hlt))
      · cases hv
    · rw [List.getElem?_set_ne (fun e => hi e.symm)] at hv
      exact set_other (h.1 i v hv) hi, fun i => (frozen_set ..).trans (h.2 i)⟩
theorem CellsAt.far {w : World} {b c : Nat} {cs : List Value} (h : CellsAt w b cs) (hc : b ≠ c) (j : Nat) (u : Value) : CellsAt (w.setCell ⟨c, j, none⟩ u) b cs :=
  ⟨fun i v hv => (World.cell?_setCell_other (h := fun e => hc (by injection e with e1 _ _; exact e1.symm)) ..).trans (h.1 i v hv), fun i => (frozen_set ..).trans (h.2 i)⟩
theorem CellsAt.drew {w : World} {b : Nat} {cs : List Value} (h : CellsAt w b cs) : CellsAt w.drew b cs := h
theorem res_ints {fn : Func} {p : Tmp} (hf : fn.results = #[.cell p 62]) (tmps : Array Value) (w : World) (g : Nat) (y0 y1 y2 y3 y4 y5 y6 y7 y8 y9 y10 y11 y12 y13 : Int) (hp : tmps.getD p undef = .pointer (some ⟨g, 0, none⟩))
    (hC : CellsAt w g [.int .i64 y0, .int .i64 y1, .int .i64 y2, .int .i64 y3, .int .i64 y4, .int .i64 y5, .int .i64 y6, .int .i64 y7, .int .i64 y8, .int .i64 y9, .int .i64 y10, .int .i64 y11, .int .i64 y12, .int .i64 y13]) : (results fn tmps).run Tryd.prog w = .ok (.agg #[.int .i64 y0, .int .i64 y1, .int .i64 y2, .int .i64 y3, .int .i64 y4, .int .i64 y5, .int .i64 y6, .int .i64 y7, .int .i64 y8, .int .i64 y9, .int .i64 y10, .int .i64 y11, .int .i64 y12, .int .i64 y13]) w := by
  have hc := hC.1
  have c0 := hc 0 _ rfl
  have c1 := hc 1 _ rfl
  have c2 := hc 2 _ rfl
  have c3 := hc 3 _ rfl
  have c4 := hc 4 _ rfl
  have c5 := hc 5 _ rfl
  have c6 := hc 6 _ rfl
  have c7 := hc 7 _ rfl
  have c8 := hc 8 _ rfl
  have c9 := hc 9 _ rfl
  have c10 := hc 10 _ rfl
  have c11 := hc 11 _ rfl
  have c12 := hc 12 _ rfl
  have c13 := hc 13 _ rfl
  have hp' : tmps[p]?.getD undef = .pointer (some ⟨g, 0, none⟩) := by simpa using hp
  simp only [results, hf]
  clear hc hp hf hC
  go_simp
set_option maxRecDepth 100000 in
set_option maxHeartbeats 4000000 in
/-- The fields of options. -/
theorem swFields_any (d l t g : Int) (b0 b1 b2 b3 b4 b5 b6 b7 b8 b9 : Bool) (w : World) :
    Calls Tryd.prog 40 #[.agg #[.int .i64 d, .int .i64 l, .int .i64 t, .int .i64 g, .bool b0, .bool b1, .bool b2, .bool b3, .bool b4, .bool b5, .bool b6, .bool b7, .bool b8, .bool b9]] w fun e w' => e = .returned (.agg ((Opt.fields ⟨d, l, t, g, b0, b1, b2, b3, b4, b5, b6, b7, b8, b9⟩).map (Value.int .i64)).toArray) ∧ Below w.heap.size w w' := by
  have hc : ∀ (j : Nat) (u : Value), (Opt.cells ⟨d, l, t, g, b0, b1, b2, b3, b4, b5, b6, b7, b8, b9⟩)[j]? = some u → (w.alloc (.cells #[.int .i64 d, .int .i64 l, .int .i64 t, .int .i64 g, .bool b0, .bool b1, .bool b2, .bool b3, .bool b4, .bool b5, .bool b6, .bool b7, .bool b8, .bool b9] 23)).cell? ⟨w.heap.size, j, none⟩ = some u := (OptAt.new_ w ⟨d, l, t, g, b0, b1, b2, b3, b4, b5, b6, b7, b8, b9⟩ 23).1
  have HB := Lib.hid (below_self (below_new w (.cells #[.int .i64 d, .int .i64 l, .int .i64 t, .int .i64 g, .bool b0, .bool b1, .bool b2, .bool b3, .bool b4, .bool b5, .bool b6, .bool b7, .bool b8, .bool b9] 23)) (below_new _ (.cells #[.int .i64 0, .int .i64 0, .int .i64 0, .int .i64 0, .int .i64 0, .int .i64 0, .int .i64 0, .int .i64 0, .int .i64 0, .int .i64 0, .int .i64 0, .int .i64 0, .int .i64 0, .int .i64 0] 62)))
  obtain ⟨W1, hW1⟩ : ∃ W1, w.alloc (.cells #[.int .i64 d, .int .i64 l, .int .i64 t, .int .i64 g, .bool b0, .bool b1, .bool b2, .bool b3, .bool b4, .bool b5, .bool b6, .bool b7, .bool b8, .bool b9] 23) = W1 := ⟨_, rfl⟩
  rw [hW1] at hc HB
  obtain ⟨W2, hW2⟩ : ∃ W2, W1.alloc (.cells #[.int .i64 0, .int .i64 0, .int .i64 0, .int .i64 0, .int .i64 0, .int .i64 0, .int .i64 0, .int .i64 0, .int .i64 0, .int .i64 0, .int .i64 0, .int .i64 0, .int .i64 0, .int .i64 0] 62) = W2 := ⟨_, rfl⟩
  have hb2 : Below W1.heap.size W1 W2 := by rw [← hW2]; exact below_new _ _
  have hF : CellsAt W2 W1.heap.size (List.replicate 14 (.int .i64 0)) := by rw [← hW2]; exact CellsAt.new_ W1 (List.replicate 14 (.int .i64 0)) 62
  rw [hW2] at HB
  have c0 : W2.cell? ⟨w.heap.size, 0, none⟩ = some (.int .i64 d) := cell_below hb2 (hc 0 _ rfl)
  have c1 : W2.cell? ⟨w.heap.size, 1, none⟩ = some (.int .i64 l) := cell_below hb2 (hc 1 _ rfl)
  have c2 : W2.cell? ⟨w.heap.size, 2, none⟩ = some (.int .i64 t) := cell_below hb2 (hc 2 _ rfl)
  have c3 : W2.cell? ⟨w.heap.size, 3, none⟩ = some (.int .i64 g) := cell_below hb2 (hc 3 _ rfl)
  have c4 : W2.cell? ⟨w.heap.size, 4, none⟩ = some (.bool b0) := cell_below hb2 (hc 4 _ rfl)
  have c5 : W2.cell? ⟨w.heap.size, 5, none⟩ = some (.bool b1) := cell_below hb2 (hc 5 _ rfl)
  have c6 : W2.cell? ⟨w.heap.size, 6, none⟩ = some (.bool b2) := cell_below hb2 (hc 6 _ rfl)
  have c7 : W2.cell? ⟨w.heap.size, 7, none⟩ = some (.bool b3) := cell_below hb2 (hc 7 _ rfl)
  have c8 : W2.cell? ⟨w.heap.size, 8, none⟩ = some (.bool b4) := cell_below hb2 (hc 8 _ rfl)
  have c9 : W2.cell? ⟨w.heap.size, 9, none⟩ = some (.bool b5) := cell_below hb2 (hc 9 _ rfl)
  have c10 : W2.cell? ⟨w.heap.size, 10, none⟩ = some (.bool b6) := cell_below hb2 (hc 10 _ rfl)
  have c11 : W2.cell? ⟨w.heap.size, 11, none⟩ = some (.bool b7) := cell_below hb2 (hc 11 _ rfl)
  have c12 : W2.cell? ⟨w.heap.size, 12, none⟩ = some (.bool b8) := cell_below hb2 (hc 12 _ rfl)
  have c13 : W2.cell? ⟨w.heap.size, 13, none⟩ = some (.bool b9) := cell_below hb2 (hc 13 _ rfl)
  have z0 : W2.cell? ⟨W1.heap.size, 0, none⟩ = some (.int .i64 0) := hF.1 0 _ rfl
  have f0 := hF.2 0
  have z1 : W2.cell? ⟨W1.heap.size, 1, none⟩ = some (.int .i64 0) := hF.1 1 _ rfl
  have f1 := hF.2 1
  have z2 : W2.cell? ⟨W1.heap.size, 2, none⟩ = some (.int .i64 0) := hF.1 2 _ rfl
  have f2 := hF.2 2
  have z3 : W2.cell? ⟨W1.heap.size, 3, none⟩ = some (.int .i64 0) := hF.1 3 _ rfl
  have f3 := hF.2 3
  have z4 : W2.cell? ⟨W1.heap.size, 4, none⟩ = some (.int .i64 0) := hF.1 4 _ rfl
  have f4 := hF.2 4
  have z5 : W2.cell? ⟨W1.heap.size, 5, none⟩ = some (.int .i64 0) := hF.1 5 _ rfl
  have f5 := hF.2 5
  have z6 : W2.cell? ⟨W1.heap.size, 6, none⟩ = some (.int .i64 0) := hF.1 6 _ rfl
  have f6 := hF.2 6
  have z7 : W2.cell? ⟨W1.heap.size, 7, none⟩ = some (.int .i64 0) := hF.1 7 _ rfl
  have f7 := hF.2 7
  have z8 : W2.cell? ⟨W1.heap.size, 8, none⟩ = some (.int .i64 0) := hF.1 8 _ rfl
  have f8 := hF.2 8
  have z9 : W2.cell? ⟨W1.heap.size, 9, none⟩ = some (.int .i64 0) := hF.1 9 _ rfl
  have f9 := hF.2 9
  have z10 : W2.cell? ⟨W1.heap.size, 10, none⟩ = some (.int .i64 0) := hF.1 10 _ rfl
  have f10 := hF.2 10
  have z11 : W2.cell? ⟨W1.heap.size, 11, none⟩ = some (.int .i64 0) := hF.1 11 _ rfl
  have f11 := hF.2 11
  have z12 : W2.cell? ⟨W1.heap.size, 12, none⟩ = some (.int .i64 0) := hF.1 12 _ rfl
  have f12 := hF.2 12
  have z13 : W2.cell? ⟨W1.heap.size, 13, none⟩ = some (.int .i64 0) := hF.1 13 _ rfl
  have f13 := hF.2 13
  have HF := Lib.hid hF
  have hb1 := Lib.hid (show w.heap.size ≤ W1.heap.size from Nat.le_of_lt (cell_lt (hc 0 _ rfl)))
  clear hc hb2 hF
  have K := fun b w => (swNumber_any b w).mono (R' := fun e w'' => e = .returned (.int .i64 (Opt.bi b)) ∧ w'' = w) fun _ _ h => ⟨h.1, h.2.symm⟩
  go_enter Tryd.func40, Tryd.ntmps40
  go_wp2_with fail
  refine wp_region_still_tail 39 (by kernel_rfl) (by kernel_rfl) ?_
  simp only [List.take_succ_cons, List.take_zero, List.drop_succ_cons, List.drop_zero]
  iterate 8 still_step
  still_step
  still_step
  still_call (K b0 _)
  still_step
  still_step
  still_call (K b1 _)
  still_step
  still_step
  still_call (K b2 _)
  still_step
  still_step
  still_call (K b3 _)
  still_step
  still_step
  still_call (K b4 _)
  still_step
  still_step
  still_call (K b5 _)
  still_step
  still_step
  still_call (K b6 _)
  still_step
  still_step
  still_call (K b7 _)
  still_step
  still_step
  still_call (K b8 _)
  still_step
  still_step
  still_call (K b9 _)
  still_step
  refine wpStill_nil ?_
  clear K c0 c1 c2 c3 c4 c5 c6 c7 c8 c9 c10 c11 c12 c13
  go_wp2_with fail
  (try simp only [Exit.inBlock, Exit.then])
  refine bodyPost_ret (v := .agg #[.int .i64 d, .int .i64 l, .int .i64 t, .int .i64 g, .int .i64 (Opt.bi b0), .int .i64 (Opt.bi b1), .int .i64 (Opt.bi b2), .int .i64 (Opt.bi b3), .int .i64 (Opt.bi b4), .int .i64 (Opt.bi b5), .int .i64 (Opt.bi b6), .int .i64 (Opt.bi b7), .int .i64 (Opt.bi b8), .int .i64 (Opt.bi b9)]) ?_ rfl ⟨rfl, ?_⟩
  · have hC := ((((((((((((((HF.out.set 0 (.int .i64 d)).set 1 (.int .i64 l)).set 2 (.int .i64 t)).set 3 (.int .i64 g)).set 4 (.int .i64 (Opt.bi b0))).set 5 (.int .i64 (Opt.bi b1))).set 6 (.int .i64 (Opt.bi b2))).set 7 (.int .i64 (Opt.bi b3))).set 8 (.int .i64 (Opt.bi b4))).set 9 (.int .i64 (Opt.bi b5))).set 10 (.int .i64 (Opt.bi b6))).set 11 (.int .i64 (Opt.bi b7))).set 12 (.int .i64 (Opt.bi b8))).set 13 (.int .i64 (Opt.bi b9)))
    simp only [List.replicate, List.set_cons_zero, List.set_cons_succ] at hC
    exact res_ints rfl _ _ W1.heap.size d l t g (Opt.bi b0) (Opt.bi b1) (Opt.bi b2) (Opt.bi b3) (Opt.bi b4) (Opt.bi b5) (Opt.bi b6) (Opt.bi b7) (Opt.bi b8) (Opt.bi b9) rfl hC.drew
  · try refine Below.drew ?_
    iterate 14 (refine below_setB ?_ hb1.out _ _)
    try refine Below.drew ?_
    exact HB.out
end Go.Proofs.YtcdogkabdhbjmaaDoor
/- Options as words: options out of their fields. -/
namespace Go.Proofs.YtcdogkabdhbjmaaDoor
open Go.RowKit

/-- Options out of their fields. -/
def optOf (x0 x1 x2 x3 x4 x5 x6 x7 x8 x9 x10 x11 x12 x13 : Int) : Opt := ⟨x0, x1, x2, x3, x4 == 1, x5 == 1, x6 == 1, x7 == 1, x8 == 1, x9 == 1, x10 == 1, x11 == 1, x12 == 1, x13 == 1⟩
set_option maxRecDepth 100000 in
set_option maxHeartbeats 4000000 in
theorem swOptions_any (x0 x1 x2 x3 x4 x5 x6 x7 x8 x9 x10 x11 x12 x13 : Int) (w : World) :
    Calls Tryd.prog 57 #[.agg #[.int .i64 x0, .int .i64 x1, .int .i64 x2, .int .i64 x3, .int .i64 x4, .int .i64 x5, .int .i64 x6, .int .i64 x7, .int .i64 x8, .int .i64 x9, .int .i64 x10, .int .i64 x11, .int .i64 x12, .int .i64 x13]] w fun e w' => e = .returned (optOf x0 x1 x2 x3 x4 x5 x6 x7 x8 x9 x10 x11 x12 x13).val ∧ Below w.heap.size w w' := by
  obtain ⟨y4, h4⟩ : ∃ y, (x4 == 1) = y := ⟨_, rfl⟩
  obtain ⟨y5, h5⟩ : ∃ y, (x5 == 1) = y := ⟨_, rfl⟩
  obtain ⟨y6, h6⟩ : ∃ y, (x6 == 1) = y := ⟨_, rfl⟩
  obtain ⟨y7, h7⟩ : ∃ y, (x7 == 1) = y := ⟨_, rfl⟩
  obtain ⟨y8, h8⟩ : ∃ y, (x8 == 1) = y := ⟨_, rfl⟩
  obtain ⟨y9, h9⟩ : ∃ y, (x9 == 1) = y := ⟨_, rfl⟩
  obtain ⟨y10, h10⟩ : ∃ y, (x10 == 1) = y := ⟨_, rfl⟩
  obtain ⟨y11, h11⟩ : ∃ y, (x11 == 1) = y := ⟨_, rfl⟩
  obtain ⟨y12, h12⟩ : ∃ y, (x12 == 1) = y := ⟨_, rfl⟩
  obtain ⟨y13, h13⟩ : ∃ y, (x13 == 1) = y := ⟨_, rfl⟩
  have HO := Lib.hid (show optOf x0 x1 x2 x3 x4 x5 x6 x7 x8 x9 x10 x11 x12 x13 = ⟨x0, x1, x2, x3, y4, y5, y6, y7, y8, y9, y10, y11, y12, y13⟩ by unfold optOf; rw [h4, h5, h6, h7, h8, h9, h10, h11, h12, h13])
  obtain ⟨W1, hW1⟩ : ∃ W1, w.alloc (.cells #[.int .i64 x0, .int .i64 x1, .int .i64 x2, .int .i64 x3, .int .i64 x4, .int .i64 x5, .int .i64 x6, .int .i64 x7, .int .i64 x8, .int .i64 x9, .int .i64 x10, .int .i64 x11, .int .i64 x12, .int .i64 x13] 62) = W1 := ⟨_, rfl⟩
  have hF : CellsAt W1 w.heap.size [.int .i64 x0, .int .i64 x1, .int .i64 x2, .int .i64 x3, .int .i64 x4, .int .i64 x5, .int .i64 x6, .int .i64 x7, .int .i64 x8, .int .i64 x9, .int .i64 x10, .int .i64 x11, .int .i64 x12, .int .i64 x13] := by rw [← hW1]; exact CellsAt.new_ w _ _
  have hb1 : Below w.heap.size w W1 := by rw [← hW1]; exact below_new _ _
  have hl1 : w.heap.size < W1.heap.size := by rw [← hW1]; simp
  obtain ⟨W2, hW2⟩ : ∃ W2, W1.alloc (.cells #[.int .i64 0, .int .i64 0, .int .i64 0, .int .i64 0, .bool false, .bool false, .bool false, .bool false, .bool false, .bool false, .bool false, .bool false, .bool false, .bool false] 23) = W2 := ⟨_, rfl⟩
  have hR2 : OptAt W2 W1.heap.size Opt.zero := by rw [← hW2]; exact OptAt.new_ W1 Opt.zero 23
  have hb2 : Below W1.heap.size W1 W2 := by rw [← hW2]; exact below_new _ _
  have hF2 := hF.below hb2 hl1
  have c0 : W2.cell? ⟨w.heap.size, 0, none⟩ = some (.int .i64 x0) := hF2.1 0 _ rfl
  have c1 : W2.cell? ⟨w.heap.size, 1, none⟩ = some (.int .i64 x1) := hF2.1 1 _ rfl
  have c2 : W2.cell? ⟨w.heap.size, 2, none⟩ = some (.int .i64 x2) := hF2.1 2 _ rfl
  have c3 : W2.cell? ⟨w.heap.size, 3, none⟩ = some (.int .i64 x3) := hF2.1 3 _ rfl
  have c4 : W2.cell? ⟨w.heap.size, 4, none⟩ = some (.int .i64 x4) := hF2.1 4 _ rfl
  have c5 : W2.cell? ⟨w.heap.size, 5, none⟩ = some (.int .i64 x5) := hF2.1 5 _ rfl
  have c6 : W2.cell? ⟨w.heap.size, 6, none⟩ = some (.int .i64 x6) := hF2.1 6 _ rfl
  have c7 : W2.cell? ⟨w.heap.size, 7, none⟩ = some (.int .i64 x7) := hF2.1 7 _ rfl
  have c8 : W2.cell? ⟨w.heap.size, 8, none⟩ = some (.int .i64 x8) := hF2.1 8 _ rfl
  have c9 : W2.cell? ⟨w.heap.size, 9, none⟩ = some (.int .i64 x9) := hF2.1 9 _ rfl
  have c10 : W2.cell? ⟨w.heap.size, 10, none⟩ = some (.int .i64 x10) := hF2.1 10 _ rfl
  have c11 : W2.cell? ⟨w.heap.size, 11, none⟩ = some (.int .i64 x11) := hF2.1 11 _ rfl
  have c12 : W2.cell? ⟨w.heap.size, 12, none⟩ = some (.int .i64 x12) := hF2.1 12 _ rfl
  have c13 : W2.cell? ⟨w.heap.size, 13, none⟩ = some (.int .i64 x13) := hF2.1 13 _ rfl
  have r0 : W2.cell? ⟨W1.heap.size, 0, none⟩ = some (.int .i64 0) := hR2.1 0 _ rfl
  have f0 := hR2.2 0
  have r1 : W2.cell? ⟨W1.heap.size, 1, none⟩ = some (.int .i64 0) := hR2.1 1 _ rfl
  have f1 := hR2.2 1
  have r2 : W2.cell? ⟨W1.heap.size, 2, none⟩ = some (.int .i64 0) := hR2.1 2 _ rfl
  have f2 := hR2.2 2
  have r3 : W2.cell? ⟨W1.heap.size, 3, none⟩ = some (.int .i64 0) := hR2.1 3 _ rfl
  have f3 := hR2.2 3
  have r4 : W2.cell? ⟨W1.heap.size, 4, none⟩ = some (.bool false) := hR2.1 4 _ rfl
  have f4 := hR2.2 4
  have r5 : W2.cell? ⟨W1.heap.size, 5, none⟩ = some (.bool false) := hR2.1 5 _ rfl
  have f5 := hR2.2 5
  have r6 : W2.cell? ⟨W1.heap.size, 6, none⟩ = some (.bool false) := hR2.1 6 _ rfl
  have f6 := hR2.2 6
  have r7 : W2.cell? ⟨W1.heap.size, 7, none⟩ = some (.bool false) := hR2.1 7 _ rfl
  have f7 := hR2.2 7
  have r8 : W2.cell? ⟨W1.heap.size, 8, none⟩ = some (.bool false) := hR2.1 8 _ rfl
  have f8 := hR2.2 8
  have r9 : W2.cell? ⟨W1.heap.size, 9, none⟩ = some (.bool false) := hR2.1 9 _ rfl
  have f9 := hR2.2 9
  have r10 : W2.cell? ⟨W1.heap.size, 10, none⟩ = some (.bool false) := hR2.1 10 _ rfl
  have f10 := hR2.2 10
  have r11 : W2.cell? ⟨W1.heap.size, 11, none⟩ = some (.bool false) := hR2.1 11 _ rfl
  have f11 := hR2.2 11
  have r12 : W2.cell? ⟨W1.heap.size, 12, none⟩ = some (.bool false) := hR2.1 12 _ rfl
  have f12 := hR2.2 12
  have r13 : W2.cell? ⟨W1.heap.size, 13, none⟩ = some (.bool false) := hR2.1 13 _ rfl
  have f13 := hR2.2 13
  have HR := Lib.hid hR2
  have HB := Lib.hid (below_self hb1 hb2)
  have HL := Lib.hid (Nat.le_of_lt hl1)
  clear hF hF2 hb1 hb2 hR2 hl1
  go_enter Tryd.func57, Tryd.ntmps57
  go_wp2_with fail
  (try simp only [Exit.inBlock, Exit.then])
  refine bodyPost_ret (v := Opt.val ⟨x0, x1, x2, x3, y4, y5, y6, y7, y8, y9, y10, y11, y12, y13⟩) ?_ rfl ⟨by rw [HO.out], below_stored ⟨x0, x1, x2, x3, y4, y5, y6, y7, y8, y9, y10, y11, y12, y13⟩ HL.out HB.out⟩
  exact res_opt1 rfl _ _ W1.heap.size ⟨x0, x1, x2, x3, y4, y5, y6, y7, y8, y9, y10, y11, y12, y13⟩ rfl (HR.out.stored ⟨x0, x1, x2, x3, y4, y5, y6, y7, y8, y9, y10, y11, y12, y13⟩)
end Go.Proofs.YtcdogkabdhbjmaaDoor
/- Options as words: the options of words. -/
namespace Go.Proofs.YtcdogkabdhbjmaaDoor
open Go.RowKit

/-- Where the words are gone through: the fields, what is known, the result's cell. -/
def SaidAt (w0 : World) (B fb kb : Nat) (A : Option Addr) (ws : List ByteArray) (k : Nat) (o : Opt) (kn : List Bool) (wx : World) : Prop :=
  saidL (ws.drop k) o kn = saidF ws ∧ kn.length = 14 ∧ OptAt wx B Opt.zero ∧ CellsAt wx fb (o.fields.map (Value.int .i64)) ∧ CellsAt wx kb (kn.map Value.bool) ∧ TermsAt wx ∧ Rd wx 1 A ws.length (ws.map Value.string) ∧ Below B w0 wx
theorem opts_fields (d l t g : Int) (b0 b1 b2 b3 b4 b5 b6 b7 b8 b9 : Bool) : optOf d l t g (Opt.bi b0) (Opt.bi b1) (Opt.bi b2) (Opt.bi b3) (Opt.bi b4) (Opt.bi b5) (Opt.bi b6) (Opt.bi b7) (Opt.bi b8) (Opt.bi b9) = ⟨d, l, t, g, b0, b1, b2, b3, b4, b5, b6, b7, b8, b9⟩ := by
  unfold optOf
  rw [bi_eq, bi_eq, bi_eq, bi_eq, bi_eq, bi_eq, bi_eq, bi_eq, bi_eq, bi_eq]
/-- No word so far is this one. -/
def NoTerm (x : ByteArray) (j : Nat) : Prop := ∀ i t, i < j → termsL[i]? = some t → ¬ t.1 = x
theorem find_not {x : ByteArray} (h : NoTerm x 26) : findT x = none := by
  unfold findT
  rw [Option.map_eq_none_iff, List.find?_eq_none]
  intro t ht he
  obtain ⟨i, hi, rfl⟩ := List.getElem_of_mem ht
  exact h i _ (by rw [terms_len] at hi; exact hi) (List.getElem?_eq_getElem hi) (ba_beq he)
theorem find_first : ∀ (T : List (ByteArray × Nat × Int)) (x : ByteArray) (j : Nat) (t : ByteArray × Nat × Int), (∀ i u, i < j → T[i]? = some u → ¬ u.1 = x) → T[j]? = some t → t.1 = x → T.find? (fun u => u.1 == x) = some t
  | [], _, _, _, _, h, _ => by cases h
  | u :: T, x, 0, t, _, h, e => by
    obtain rfl := Option.some.inj h
    have : (u.1 == x) = true := by
      subst e
      obtain ⟨⟨y⟩, _⟩ := u
      show (y == y) = true
      simp
    rw [List.find?_cons, this]
  | u :: T, x, j + 1, t, hn, h, e => by
    have h0 := hn 0 u (by omega) rfl
    have : (u.1 == x) = false := by
      apply Bool.eq_false_iff.2
      intro hb
      exact h0 (ba_beq hb)
    rw [List.find?_cons, this]
    exact find_first T x j t (fun i v hi hv => hn (i + 1) v (by omega) hv) h e
theorem find_yes {x : ByteArray} {j : Nat} {t : ByteArray × Nat × Int} (hn : NoTerm x j) (h : termsL[j]? = some t) (e : t.1 = x) : findT x = some t.2 := by
  unfold findT
  rw [find_first termsL x j t (fun i u hi hu => hn i u hi hu) h e]
  rfl
theorem fields_len (o : Opt) : o.fields.length = 14 := rfl
set_option maxRecDepth 100000 in
set_option maxHeartbeats 1200000 in
theorem swSaid_any (A : Option Addr) (n c : Nat) (ws : List ByteArray) (hn : ws.length = n) (hn2 : n ≤ 100000) (R : Opt) (E : Int) (hR : saidF ws = (R, E)) (w : World) (hT : TermsAt w) (hrd : Rd w 1 A n (ws.map Value.string)) :
    Calls Tryd.prog 44 #[.slice A n c] w fun e w' => e = .returned (.tuple #[R.val, .int .i64 E]) ∧ Below w.heap.size w w' := by
  have HN := Lib.hid hn
  subst hn
  obtain ⟨W1, hW1⟩ : ∃ W1, w.alloc (.cells #[.int .i64 0, .int .i64 0, .int .i64 0, .int .i64 0, .bool false, .bool false, .bool false, .bool false, .bool false, .bool false, .bool false, .bool false, .bool false, .bool false] 23) = W1 := ⟨_, rfl⟩
  have hO1 : OptAt W1 w.heap.size Opt.zero := by rw [← hW1]; exact OptAt.new_ w Opt.zero 23
  have hb1 : Below w.heap.size w W1 := by rw [← hW1]; exact below_new _ _
  have hl1 := hO1.lt
  obtain ⟨W2, hW2⟩ : ∃ W2, W1.alloc (.cells #[.int .i64 0, .int .i64 0, .int .i64 0, .int .i64 0, .int .i64 0, .int .i64 0, .int .i64 0, .int .i64 0, .int .i64 0, .int .i64 0, .int .i64 0, .int .i64 0, .int .i64 0, .int .i64 0] 62) = W2 := ⟨_, rfl⟩
  have hF2 : CellsAt W2 W1.heap.size (Opt.zero.fields.map (Value.int .i64)) := by rw [← hW2]; exact CellsAt.new_ W1 _ _
  have hb2 : Below W1.heap.size W1 W2 := by rw [← hW2]; exact below_new _ _
  have hl2 : W1.heap.size < W2.heap.size := by rw [← hW2]; simp
  obtain ⟨W3, hW3⟩ : ∃ W3, W2.alloc (.cells #[.bool false, .bool false, .bool false, .bool false, .bool false, .bool false, .bool false, .bool false, .bool false, .bool false, .bool false, .bool false, .bool false, .bool false] 74) = W3 := ⟨_, rfl⟩
  have hK3 : CellsAt W3 W2.heap.size ((List.replicate 14 false).map Value.bool) := by rw [← hW3]; exact CellsAt.new_ W2 _ _
  have hb3 : Below W2.heap.size W2 W3 := by rw [← hW3]; exact below_new _ _
  have hl3 : W2.heap.size < W3.heap.size := by rw [← hW3]; simp
  have hI : SaidAt w w.heap.size W1.heap.size W2.heap.size A ws 0 Opt.zero (List.replicate 14 false) W3 :=
    ⟨rfl, rfl, (hO1.below hb2).below hb3, hF2.below hb3 hl2, hK3, ((hT.below hb1).below hb2).below hb3, ((hrd.below hb1).below hb2).below hb3, below_self (below_self hb1 hb2) hb3⟩
  have HI := Lib.hid hI
  have HR := Lib.hid hR
  have HRW := Lib.hid hrd
  have hgl : 0 < w.heap.size := cell_lt (hT 0 _ rfl)
  clear hO1 hb1 hF2 hb2 hK3 hb3 hI hR hT hrd
  go_enter Tryd.func44, Tryd.ntmps44
  go_wp2
  go_step3
  go_wp2
  go_step3
  go_wp2
  clear hW1 hW2 hW3
  generalize W1.heap.size = fb at *
  generalize W2.heap.size = kb at *
  generalize hB : w.heap.size = B at *
  have HB := Lib.hid hB
  have hx1 : ¬ fb = B := by omega
  have hx2 : ¬ kb = B := by omega
  have hx3 : ¬ fb = kb := by omega
  clear hB hl3
  go_loopg [12] ws.length (fun gh s12 wx => ∃ (k : Nat) (o : Opt) (kn : List Bool), k + gh = ws.length ∧ s12 = .int .i64 k ∧ SaidAt w B fb kb A ws k o kn wx)
  case atStart => exact ⟨0, _, _, by omega, rfl, HI.out⟩
  case round =>
    obtain ⟨k, o, kn, hkg, rfl, hS⟩ := hrel
    have HS := Lib.hid hS
    clear hS HI
    cases gk with
    | zero =>
      have hk0 : k = ws.length := by omega
      have hkz : ¬ ((k : Int) < (ws.length : Int)) := by omega
      obtain ⟨d, l, t, g, b0, b1, b2, b3, b4, b5, b6, b7, b8, b9⟩ := o
      have HX := Lib.hid (show R = ⟨d, l, t, g, b0, b1, b2, b3, b4, b5, b6, b7, b8, b9⟩ ∧ E = 0 by
        have h1 := HS.out.1
        rw [hk0, List.drop_length, saidL, HR.out] at h1
        injection h1 with e1 e2
        exact ⟨e1.symm, e2.symm⟩)
      have hF := HS.out.2.2.2.1
      have c0 : wr.cell? ⟨fb, 0, none⟩ = some (.int .i64 d) := hF.1 0 _ rfl
      have c1 : wr.cell? ⟨fb, 1, none⟩ = some (.int .i64 l) := hF.1 1 _ rfl
      have c2 : wr.cell? ⟨fb, 2, none⟩ = some (.int .i64 t) := hF.1 2 _ rfl
      have c3 : wr.cell? ⟨fb, 3, none⟩ = some (.int .i64 g) := hF.1 3 _ rfl
      have c4 : wr.cell? ⟨fb, 4, none⟩ = some (.int .i64 (Opt.bi b0)) := hF.1 4 _ rfl
      have c5 : wr.cell? ⟨fb, 5, none⟩ = some (.int .i64 (Opt.bi b1)) := hF.1 5 _ rfl
      have c6 : wr.cell? ⟨fb, 6, none⟩ = some (.int .i64 (Opt.bi b2)) := hF.1 6 _ rfl
      have c7 : wr.cell? ⟨fb, 7, none⟩ = some (.int .i64 (Opt.bi b3)) := hF.1 7 _ rfl
      have c8 : wr.cell? ⟨fb, 8, none⟩ = some (.int .i64 (Opt.bi b4)) := hF.1 8 _ rfl
      have c9 : wr.cell? ⟨fb, 9, none⟩ = some (.int .i64 (Opt.bi b5)) := hF.1 9 _ rfl
      have c10 : wr.cell? ⟨fb, 10, none⟩ = some (.int .i64 (Opt.bi b6)) := hF.1 10 _ rfl
      have c11 : wr.cell? ⟨fb, 11, none⟩ = some (.int .i64 (Opt.bi b7)) := hF.1 11 _ rfl
      have c12 : wr.cell? ⟨fb, 12, none⟩ = some (.int .i64 (Opt.bi b8)) := hF.1 12 _ rfl
      have c13 : wr.cell? ⟨fb, 13, none⟩ = some (.int .i64 (Opt.bi b9)) := hF.1 13 _ rfl
      have HFF := Lib.hid hF
      clear hF hk0
      go_wp2_with fail
      refine (swOptions_any d l t g (Opt.bi b0) (Opt.bi b1) (Opt.bi b2) (Opt.bi b3) (Opt.bi b4) (Opt.bi b5) (Opt.bi b6) (Opt.bi b7) (Opt.bi b8) (Opt.bi b9) _).mono ?_
      rintro e w5 ⟨rfl, hb5⟩
      have hO5 := HS.out.2.2.1.below hb5
      have hsz : B ≤ wr.heap.size := by rw [← HB.out]; exact HS.out.2.2.2.2.2.2.2.size
      have HB5 := Lib.hid (HS.out.2.2.2.2.2.2.2.trans (hb5.mono hsz))
      have HO5 := Lib.hid hO5
      rw [opts_fields]
      simp only [Opt.val, Opt.cells]
      have r0 : w5.cell? ⟨B, 0, none⟩ = some (.int .i64 0) := hO5.1 0 _ rfl
      have f0 := hO5.2 0
      have r1 : w5.cell? ⟨B, 1, none⟩ = some (.int .i64 0) := hO5.1 1 _ rfl
      have f1 := hO5.2 1
      have r2 : w5.cell? ⟨B, 2, none⟩ = some (.int .i64 0) := hO5.1 2 _ rfl
      have f2 := hO5.2 2
      have r3 : w5.cell? ⟨B, 3, none⟩ = some (.int .i64 0) := hO5.1 3 _ rfl
      have f3 := hO5.2 3
      have r4 : w5.cell? ⟨B, 4, none⟩ = some (.bool false) := hO5.1 4 _ rfl
      have f4 := hO5.2 4
      have r5 : w5.cell? ⟨B, 5, none⟩ = some (.bool false) := hO5.1 5 _ rfl
      have f5 := hO5.2 5
      have r6 : w5.cell? ⟨B, 6, none⟩ = some (.bool false) := hO5.1 6 _ rfl
      have f6 := hO5.2 6
      have r7 : w5.cell? ⟨B, 7, none⟩ = some (.bool false) := hO5.1 7 _ rfl
      have f7 := hO5.2 7
      have r8 : w5.cell? ⟨B, 8, none⟩ = some (.bool false) := hO5.1 8 _ rfl
      have f8 := hO5.2 8
      have r9 : w5.cell? ⟨B, 9, none⟩ = some (.bool false) := hO5.1 9 _ rfl
      have f9 := hO5.2 9
      have r10 : w5.cell? ⟨B, 10, none⟩ = some (.bool false) := hO5.1 10 _ rfl
      have f10 := hO5.2 10
      have r11 : w5.cell? ⟨B, 11, none⟩ = some (.bool false) := hO5.1 11 _ rfl
      have f11 := hO5.2 11
      have r12 : w5.cell? ⟨B, 12, none⟩ = some (.bool false) := hO5.1 12 _ rfl
      have f12 := hO5.2 12
      have r13 : w5.cell? ⟨B, 13, none⟩ = some (.bool false) := hO5.1 13 _ rfl
      have f13 := hO5.2 13
      clear hO5 hb5 c0 c1 c2 c3 c4 c5 c6 c7 c8 c9 c10 c11 c12 c13
      go_wp2_with fail
      (try rw [Exit.noGoto_ret])
      (try simp only [Exit.inBlock, Exit.then])
      refine bodyPost_ret (v := .tuple #[R.val, .int .i64 E]) ?_ rfl ⟨rfl, by rw [HB.out]; exact below_stored ⟨d, l, t, g, b0, b1, b2, b3, b4, b5, b6, b7, b8, b9⟩ (Nat.le_refl _) HB5.out⟩
      rw [HX.out.1, HX.out.2]
      exact res_opt rfl _ _ B ⟨d, l, t, g, b0, b1, b2, b3, b4, b5, b6, b7, b8, b9⟩ _ rfl rfl (HO5.out.stored ⟨d, l, t, g, b0, b1, b2, b3, b4, b5, b6, b7, b8, b9⟩)
    | succ gh =>
      have hkz : (k : Int) < (ws.length : Int) := by omega
      have hkn : k < ws.length := by omega
      obtain ⟨x, hx⟩ : ∃ x, ws[k]? = some x := ⟨_, List.getElem?_eq_getElem hkn⟩
      obtain ⟨ad, rfl, hab, hc⟩ := HS.out.2.2.2.2.2.2.1.at_ hkn
      have cx := hc (.string x) (by rw [List.getElem?_map, hx]; rfl)
      have HD := Lib.hid (show ws.drop k = x :: ws.drop (k + 1) by
        rw [List.getElem?_eq_getElem hkn] at hx
        injection hx with hx
        rw [List.drop_eq_getElem_cons hkn, hx])
      have HLT := Lib.hid (loadTerms HS.out.2.2.2.2.2.1)
      clear hx hc
      go_wp2_with ((with_reducible refine wpList_loadV rfl 66 _ rfl ⟨0, 0, none⟩ (.agg termsA) ?_ HLT.out ?_); rfl)
      go_loopg [17] 26 (fun g2 s17 wy => ∃ j : Nat, j + g2 = 26 ∧ s17 = .int .i64 j ∧ NoTerm x j ∧ SaidAt w B fb kb (some ad) ws k o kn wy)
      case atStart => exact ⟨0, by omega, rfl, (fun i t h => absurd h (by omega)), HS.out⟩
      case round =>
        obtain ⟨j, hjg, rfl, hnt, hS2⟩ := hrel
        have HNT := Lib.hid hnt
        have HS2 := Lib.hid hS2
        have hsz : B ≤ wr.heap.size := by rw [← HB.out]; exact hS2.2.2.2.2.2.2.2.size
        have hO := hS2.2.2.1
        have hlB := hO.lt
        have hlf : fb < wr.heap.size := cell_lt (hS2.2.2.2.1.1 0 _ (List.getElem?_eq_getElem (by rw [List.length_map, fields_len]; decide)))
        have hlk : kb < wr.heap.size := cell_lt (hS2.2.2.2.2.1.1 0 _ (List.getElem?_eq_getElem (by rw [List.length_map, hS2.2.1]; decide)))
        cases gk with
        | zero =>
          have hjz : ¬ ((j : Int) < 26) := by omega
          obtain rfl : j = 26 := by omega
          have HX := Lib.hid (show R = Opt.zero ∧ E = 11 by
            have h1 := HS2.out.1
            rw [HD.out, saidL, find_not HNT.out, HR.out] at h1
            injection h1 with e1 e2
            exact ⟨e1.symm, e2.symm⟩)
          have r0 : wr.cell? ⟨B, 0, none⟩ = some (.int .i64 0) := hO.1 0 _ rfl
          have f0 := hO.2 0
          have r1 : wr.cell? ⟨B, 1, none⟩ = some (.int .i64 0) := hO.1 1 _ rfl
          have f1 := hO.2 1
          have r2 : wr.cell? ⟨B, 2, none⟩ = some (.int .i64 0) := hO.1 2 _ rfl
          have f2 := hO.2 2
          have r3 : wr.cell? ⟨B, 3, none⟩ = some (.int .i64 0) := hO.1 3 _ rfl
          have f3 := hO.2 3
          have r4 : wr.cell? ⟨B, 4, none⟩ = some (.bool false) := hO.1 4 _ rfl
          have f4 := hO.2 4
          have r5 : wr.cell? ⟨B, 5, none⟩ = some (.bool false) := hO.1 5 _ rfl
          have f5 := hO.2 5
          have r6 : wr.cell? ⟨B, 6, none⟩ = some (.bool false) := hO.1 6 _ rfl
          have f6 := hO.2 6
          have r7 : wr.cell? ⟨B, 7, none⟩ = some (.bool false) := hO.1 7 _ rfl
          have f7 := hO.2 7
          have r8 : wr.cell? ⟨B, 8, none⟩ = some (.bool false) := hO.1 8 _ rfl
          have f8 := hO.2 8
          have r9 : wr.cell? ⟨B, 9, none⟩ = some (.bool false) := hO.1 9 _ rfl
          have f9 := hO.2 9
          have r10 : wr.cell? ⟨B, 10, none⟩ = some (.bool false) := hO.1 10 _ rfl
          have f10 := hO.2 10
          have r11 : wr.cell? ⟨B, 11, none⟩ = some (.bool false) := hO.1 11 _ rfl
          have f11 := hO.2 11
          have r12 : wr.cell? ⟨B, 12, none⟩ = some (.bool false) := hO.1 12 _ rfl
          have f12 := hO.2 12
          have r13 : wr.cell? ⟨B, 13, none⟩ = some (.bool false) := hO.1 13 _ rfl
          have f13 := hO.2 13
          clear hnt hS2 hO cx
          go_wp2_with fail
          (try rw [Exit.noGoto_ret])
          (try simp only [Exit.inBlock, Exit.then])
          refine bodyPost_ret (v := .tuple #[R.val, .int .i64 E]) ?_ rfl ⟨rfl, by rw [HB.out]; exact below_stored Opt.zero (Nat.le_refl _) HS2.out.2.2.2.2.2.2.2⟩
          rw [HX.out.1, HX.out.2]
          exact res_opt rfl _ _ B Opt.zero _ rfl rfl (HS2.out.2.2.1.stored Opt.zero)
        | succ g2 =>
          have hjz : (j : Int) < 26 := by omega
          obtain ⟨⟨wd, f, m⟩, ht⟩ : ∃ t, termsL[j]? = some t := ⟨_, List.getElem?_eq_getElem (by rw [terms_len]; omega)⟩
          obtain ⟨hf, hf1⟩ := terms_ok _ (List.mem_of_getElem? ht)
          simp only at hf hf1
          have hidx : ∀ w, (Instr.index 66 (.agg termsA) (.int .i64 (j : Int))).run Tryd.prog w = .ok (.agg #[.string wd, .int .i64 (f : Int), .int .i64 m]) w := fun w => idxTerms ht w
          have HF1 := Lib.hid hf1
          have HTM := Lib.hid ht
          clear hnt hS2 hf1 ht
          by_cases he : wd = x
          · subst he
            obtain ⟨W5, hW5⟩ : ∃ W5, wr.alloc (.cells #[.string wd, .int .i64 (f : Int), .int .i64 m] 65) = W5 := ⟨_, rfl⟩
            have hC5 : CellsAt W5 wr.heap.size [.string wd, .int .i64 (f : Int), .int .i64 m] := by rw [← hW5]; exact CellsAt.new_ wr _ _
            have hb5 : Below wr.heap.size wr W5 := by rw [← hW5]; exact below_new _ _
            have t0 : W5.cell? ⟨wr.heap.size, 0, none⟩ = some (.string wd) := hC5.1 0 _ rfl
            have t1 : W5.cell? ⟨wr.heap.size, 1, none⟩ = some (.int .i64 (f : Int)) := hC5.1 1 _ rfl
            have t2 : W5.cell? ⟨wr.heap.size, 2, none⟩ = some (.int .i64 m) := hC5.1 2 _ rfl
            have hO5 := hO.below hb5
            have HB5 := Lib.hid hb5
            have hF5 := HS2.out.2.2.2.1.below hb5 hlf
            have hK5 := HS2.out.2.2.2.2.1.below hb5 hlk
            have hne5 : wr.heap.size ≠ B := by omega
            have hne6 : ¬ wr.heap.size = fb := by omega
            have hne7 : ¬ wr.heap.size = kb := by omega
            have HF5 := Lib.hid hF5
            have HK5 := Lib.hid hK5
            have HO5 := Lib.hid hO5
            have HFY := Lib.hid (find_yes HNT.out HTM.out rfl)
            obtain ⟨y, hy⟩ : ∃ y, kn[f]? = some y := ⟨_, List.getElem?_eq_getElem (by rw [HS2.out.2.1]; exact hf)⟩
            have cy : W5.cell? ⟨kb, f, none⟩ = some (.bool y) := hK5.1 f _ (by rw [List.getElem?_map, hy]; rfl)
            have HY := Lib.hid hy
            clear hy
            cases y with
            | true =>
              have HX := Lib.hid (show R = Opt.zero ∧ E = 12 by
                have h1 := HS2.out.1
                rw [HD.out, saidL, HFY.out, HR.out] at h1
                simp only at h1
                rw [List.getD_eq_getElem?_getD, HY.out] at h1
                simp only [Option.getD_some, if_true] at h1
                injection h1 with e1 e2
                exact ⟨e1.symm, e2.symm⟩)
              have r0 : W5.cell? ⟨B, 0, none⟩ = some (.int .i64 0) := hO5.1 0 _ rfl
              have f0 := hO5.2 0
              have r1 : W5.cell? ⟨B, 1, none⟩ = some (.int .i64 0) := hO5.1 1 _ rfl
              have f1 := hO5.2 1
              have r2 : W5.cell? ⟨B, 2, none⟩ = some (.int .i64 0) := hO5.1 2 _ rfl
              have f2 := hO5.2 2
              have r3 : W5.cell? ⟨B, 3, none⟩ = some (.int .i64 0) := hO5.1 3 _ rfl
              have f3 := hO5.2 3
              have r4 : W5.cell? ⟨B, 4, none⟩ = some (.bool false) := hO5.1 4 _ rfl
              have f4 := hO5.2 4
              have r5 : W5.cell? ⟨B, 5, none⟩ = some (.bool false) := hO5.1 5 _ rfl
              have f5 := hO5.2 5
              have r6 : W5.cell? ⟨B, 6, none⟩ = some (.bool false) := hO5.1 6 _ rfl
              have f6 := hO5.2 6
              have r7 : W5.cell? ⟨B, 7, none⟩ = some (.bool false) := hO5.1 7 _ rfl
              have f7 := hO5.2 7
              have r8 : W5.cell? ⟨B, 8, none⟩ = some (.bool false) := hO5.1 8 _ rfl
              have f8 := hO5.2 8
              have r9 : W5.cell? ⟨B, 9, none⟩ = some (.bool false) := hO5.1 9 _ rfl
              have f9 := hO5.2 9
              have r10 : W5.cell? ⟨B, 10, none⟩ = some (.bool false) := hO5.1 10 _ rfl
              have f10 := hO5.2 10
              have r11 : W5.cell? ⟨B, 11, none⟩ = some (.bool false) := hO5.1 11 _ rfl
              have f11 := hO5.2 11
              have r12 : W5.cell? ⟨B, 12, none⟩ = some (.bool false) := hO5.1 12 _ rfl
              have f12 := hO5.2 12
              have r13 : W5.cell? ⟨B, 13, none⟩ = some (.bool false) := hO5.1 13 _ rfl
              have f13 := hO5.2 13
              clear hO hO5 hF5 hK5 hC5 hb5
              go_wp2_with fail
              (try rw [Exit.noGoto_ret])
              (try simp only [Exit.inBlock, Exit.then])
              refine bodyPost_ret (v := .tuple #[R.val, .int .i64 E]) ?_ rfl ⟨rfl, by rw [HB.out]; exact below_stored Opt.zero (Nat.le_refl _) (HS2.out.2.2.2.2.2.2.2.trans (HB5.out.mono hsz))⟩
              rw [HX.out.1, HX.out.2]
              exact res_opt rfl _ _ B Opt.zero _ rfl rfl (HO5.out.stored Opt.zero)
            | false =>
              obtain ⟨z, hz⟩ : ∃ z, o.fields[f]? = some z := ⟨_, List.getElem?_eq_getElem (by rw [fields_len]; exact hf)⟩
              have cz : W5.cell? ⟨fb, f, none⟩ = some (.int .i64 z) := hF5.1 f _ (by rw [List.getElem?_map, hz]; rfl)
              have fz := hF5.2 f
              have fy := hK5.2 f
              clear hz hO hO5 hF5 hK5 hC5 hb5
              have HW := Lib.hid (show SaidAt w B fb kb (some ad) ws (k + 1) (o.put f m) (kn.set f true) ((W5.setCell ⟨fb, f, none⟩ (.int .i64 m)).setCell ⟨kb, f, none⟩ (.bool true)).drew by
                have hbX : Below B wr ((W5.setCell ⟨fb, f, none⟩ (.int .i64 m)).setCell ⟨kb, f, none⟩ (.bool true)).drew := (below_setB (below_setB (HB5.out.mono hsz) (Nat.le_of_lt hl1) _ _) (Nat.le_of_lt (Nat.lt_trans hl1 hl2)) _ _).drew
                have hbY := HS2.out.2.2.2.2.2.2.2.trans hbX
                refine ⟨?_, ?_, ((HO5.out.far (fun e => hx1 e.symm) _ _).far (fun e => hx2 e.symm) _ _), ?_, ?_, HS2.out.2.2.2.2.2.1.upto hbX hgl, HRW.out.below (by rw [HB.out]; exact hbY), hbY⟩
                · have h1 := HS2.out.1
                  rw [HD.out, saidL, HFY.out] at h1
                  simp only at h1
                  rw [List.getD_eq_getElem?_getD, HY.out] at h1
                  simpa using h1
                · rw [List.length_set]
                  exact HS2.out.2.1
                · have h1 := (HF5.out.set f (.int .i64 m)).far hx3 f (.bool true)
                  rw [fields_put o f m hf HF1.out, List.map_set]
                  exact h1
                · have h1 := (HK5.out.far (fun e => hx3 e.symm) f (.int .i64 m)).set f (.bool true)
                  rw [List.map_set]
                  exact h1)
              go_wp2
              go_region
              go_wp2
              go_roundg gh
              case measure => omega
              case rel => exact ⟨k + 1, _, _, by omega, by go_num, HW.out⟩
          · have h1 : (wd.toList == x.toList) = false := ba_ne he
            have HNX := Lib.hid (show NoTerm x (j + 1) from fun i u hi hu => by
              by_cases hij : i = j
              · subst hij
                rw [HTM.out] at hu
                obtain rfl := Option.some.inj hu
                exact he
              · exact HNT.out i u (by omega) hu)
            clear he hO
            go_wp2
            go_roundg g2
            case measure => omega
            case rel => exact ⟨j + 1, by omega, by go_num, HNX.out, HS2.out.1, HS2.out.2.1, HS2.out.2.2.1.below (below_new _ _), HS2.out.2.2.2.1.below (below_new _ _) hlf, HS2.out.2.2.2.2.1.below (below_new _ _) hlk, HS2.out.2.2.2.2.2.1.below (below_new _ _), HS2.out.2.2.2.2.2.2.1.below (below_new _ _), HS2.out.2.2.2.2.2.2.2.trans ((below_new _ _).mono hsz)⟩
end Go.Proofs.YtcdogkabdhbjmaaDoor
/- Shelf contracts laid at this program's numbers. -/
namespace Go.Proofs.YtcdogkabdhbjmaaDoor
open Go.Shelf
def ff_lays_ren : Go.Shelf.Ren := ⟨fun | 229 => 45 | n => n, fun | 9 => 9 | 40 => 72 | 31 => 37 | 152 => 99 | 3 => 3 | 0 => 0 | 4 => 4 | 21 => 21 | 154 => 101 | n => n, fun | n => n⟩
theorem ff_lays : Go.Proofs.Lays.n229 Tryd.prog ff_lays_ren := {
  mixed := by kernel_rfl
  f229 := Tryd.func45.trans (congrArg some (by kernel_rfl))
  t0 := Tryd.underlying0
  a0 := Tryd.isAgg0
  z0 := Tryd.sizeOf0
  v0 := Tryd.zeroValue0
  t3 := Tryd.underlying3
  a3 := Tryd.isAgg3
  z3 := Tryd.sizeOf3
  v3 := Tryd.zeroValue3
  t4 := Tryd.underlying4
  a4 := Tryd.isAgg4
  z4 := Tryd.sizeOf4
  v4 := Tryd.zeroValue4
  t9 := Tryd.underlying9
  a9 := Tryd.isAgg9
  z9 := Tryd.sizeOf9
  v9 := Tryd.zeroValue9
  t21 := Tryd.underlying21
  a21 := Tryd.isAgg21
  z21 := Tryd.sizeOf21
  v21 := Tryd.zeroValue21
  t31 := Tryd.underlying37
  a31 := Tryd.isAgg37
  z31 := Tryd.sizeOf37
  v31 := Tryd.zeroValue37
  t40 := Tryd.underlying72
  a40 := Tryd.isAgg72
  z40 := Tryd.sizeOf72
  v40 := Tryd.zeroValue72
  t152 := Tryd.underlying99
  a152 := Tryd.isAgg99
  z152 := Tryd.sizeOf99
  v152 := Tryd.zeroValue99
  t154 := Tryd.underlying101
  a154 := Tryd.isAgg101
  z154 := Tryd.sizeOf101
  v154 := Tryd.zeroValue101 }
def jn_lays_ren : Go.Shelf.Ren := ⟨fun | 156 => 41 | 165 => 54 | 166 => 55 | 169 => 56 | 240 => 61 | 241 => 62 | 276 => 63 | 277 => 64 | n => n, fun | 31 => 37 | 9 => 9 | 3 => 3 | 4 => 4 | 0 => 0 | 20 => 20 | 72 => 90 | 76 => 94 | 70 => 88 | 37 => 43 | 75 => 93 | 127 => 109 | 164 => 110 | 5 => 5 | 80 => 96 | n => n, fun | n => n⟩
theorem jn_lays : Go.Proofs.Lays.n156 Tryd.prog jn_lays_ren := {
  mixed := by kernel_rfl
  f156 := Tryd.func41.trans (congrArg some (by kernel_rfl))
  f165 := Tryd.func54.trans (congrArg some (by kernel_rfl))
  f166 := Tryd.func55.trans (congrArg some (by kernel_rfl))
  f169 := Tryd.func56.trans (congrArg some (by kernel_rfl))
  f240 := Tryd.func61.trans (congrArg some (by kernel_rfl))
  f241 := Tryd.func62.trans (congrArg some (by kernel_rfl))
  f276 := Tryd.func63.trans (congrArg some (by kernel_rfl))
  f277 := Tryd.func64.trans (congrArg some (by kernel_rfl))
  t0 := Tryd.underlying0
  a0 := Tryd.isAgg0
  z0 := Tryd.sizeOf0
  v0 := Tryd.zeroValue0
  t3 := Tryd.underlying3
  a3 := Tryd.isAgg3
  z3 := Tryd.sizeOf3
  v3 := Tryd.zeroValue3
  t4 := Tryd.underlying4
  a4 := Tryd.isAgg4
  z4 := Tryd.sizeOf4
  v4 := Tryd.zeroValue4
  t9 := Tryd.underlying9
  a9 := Tryd.isAgg9
  z9 := Tryd.sizeOf9
  v9 := Tryd.zeroValue9
  t20 := Tryd.underlying20
  a20 := Tryd.isAgg20
  z20 := Tryd.sizeOf20
  v20 := Tryd.zeroValue20
  t31 := Tryd.underlying37
  a31 := Tryd.isAgg37
  z31 := Tryd.sizeOf37
  v31 := Tryd.zeroValue37
  t37 := Tryd.underlying43
  a37 := Tryd.isAgg43
  z37 := Tryd.sizeOf43
  v37 := Tryd.zeroValue43
  t70 := Tryd.underlying88
  a70 := Tryd.isAgg88
  z70 := Tryd.sizeOf88
  v70 := Tryd.zeroValue88
  t72 := Tryd.underlying90
  a72 := Tryd.isAgg90
  z72 := Tryd.sizeOf90
  v72 := Tryd.zeroValue90
  t75 := Tryd.underlying93
  a75 := Tryd.isAgg93
  z75 := Tryd.sizeOf93
  v75 := Tryd.zeroValue93
  t76 := Tryd.underlying94
  a76 := Tryd.isAgg94
  z76 := Tryd.sizeOf94
  v76 := Tryd.zeroValue94
  t127 := Tryd.underlying109
  a127 := Tryd.isAgg109
  z127 := Tryd.sizeOf109
  v127 := Tryd.zeroValue109
  t164 := Tryd.underlying110
  a164 := Tryd.isAgg110
  z164 := Tryd.sizeOf110
  v164 := Tryd.zeroValue110 }
end Go.Proofs.YtcdogkabdhbjmaaDoor
/- Options as words: FieldsFunc at blanks. -/
namespace Go.Proofs.YtcdogkabdhbjmaaDoor
open Go.RowKit Go.Shelf

theorem isBlank_any (x : Nat) (hx : x ≤ 1114111) (w : World) : Calls Tryd.prog 46 #[.int .i32 (x : Int)] w fun e w' => e = .returned (.bool (isB x)) ∧ w = w' := by
  obtain ⟨y, hy⟩ : ∃ y, isB x = y := ⟨_, rfl⟩
  have h1 : ((x : Int) == 32) = y := by
    rw [← hy]
    unfold isB
    rw [Bool.eq_iff_iff]
    simp only [beq_iff_eq]
    omega
  rw [hy]
  clear hy
  go_enter Tryd.func46, Tryd.ntmps46
  go_wp2
  go_ret
  exact ⟨rfl, rfl⟩
theorem blank_pays (w : World) : PredGrows Tryd.prog 46 #[] isB w := fun W x hx _ =>
  (isBlank_any x hx W).mono fun _ _ h => ⟨h.1, h.2 ▸ Below.refl _ _⟩
theorem fields_any (s : ByteArray) (hs : s.size ≤ 1000) (w : World) :
    Calls Tryd.prog 45 #[.string s, .func (.func 46) #[] #[]] w fun e w' => ∃ A c, e = .returned (.slice A (wordsF s).length c) ∧ Rd w' 1 A (wordsF s).length ((wordsF s).map Value.string) ∧ Below w.heap.size w w' := by
  refine (Any.strings_FieldsFunc_grows ff_lays 46 #[] (enters_of Tryd.func46 (by kernel_rfl) rfl) isB s w (by omega) (blank_pays w) (by kernel_rfl) (by kernel_rfl)).mono ?_
  rintro e w' ⟨A, he, hA, hown, hb⟩
  exact ⟨_, _, he, Rd.of_own hown, hb⟩
end Go.Proofs.YtcdogkabdhbjmaaDoor
/- The project's Check of options. -/
namespace Go.Proofs.YtcdogkabdhbjmaaDoor
open Go.RowKit

theorem near_same (m x : Int) (hm : 0 ≤ m) : (x == nrF m x) = decide (0 ≤ x ∧ x ≤ m) := by
  unfold nrF
  by_cases h0 : x < 0
  · rw [if_pos h0, if_neg (by omega)]
    have h1 : (x == 0) = false := by simp; omega
    rw [h1]
    exact (decide_eq_false (by omega)).symm
  · rw [if_neg h0]
    by_cases h1 : m < x
    · rw [if_pos h1]
      have h2 : (x == m) = false := by simp; omega
      rw [h2]
      exact (decide_eq_false (by omega)).symm
    · rw [if_neg h1]
      simp
      omega
set_option maxRecDepth 100000 in
theorem kindsEq (x0 x1 x2 x3 y0 y1 y2 y3 : Int) (w : World) : (Op.equalIn 10000 47 (.agg #[.int .i64 x0, .int .i64 x1, .int .i64 x2, .int .i64 x3]) (.agg #[.int .i64 y0, .int .i64 y1, .int .i64 y2, .int .i64 y3])).run Tryd.prog w = .ok ((x0 == y0) && (x1 == y1) && (x2 == y2) && (x3 == y3)) w := by
  have hi : Tryd.prog.info? 3 = some (Tryd.prog.info? 3 |>.getD default) := by kernel_rfl
  rw [show (10000 : Nat) = 9999 + 1 from rfl, equal_one (P := Tryd.prog) (Value.int .i64) 9999 4 (t := 47) (e := 3) Tryd.underlying47 hi (by kernel_rfl) (by kernel_rfl) (fun a b w => run_equalIn_int w 9998 _ _ _ a b Tryd.underlying3) _ _ (fun i => [x0, x1, x2, x3].getD i 0) (fun i => [y0, y1, y2, y3].getD i 0) (fun i h => by
    have : i = 0 ∨ i = 1 ∨ i = 2 ∨ i = 3 := by omega
    rcases this with rfl | rfl | rfl | rfl <;> exact ⟨rfl, rfl⟩) w]
  congr 1
  simp [List.range, List.range.loop, Bool.and_assoc]
theorem rdB2 (w : World) (o : Obj) (l : List Bool) (t : TypeId) : Rd ((w.alloc o).alloc (.cells (l.map Value.bool).toArray t)) 1 (some ⟨w.heap.size + 1, 0, none⟩) l.length (l.map Value.bool) := by
  have h := rdBools (w.alloc o) l t
  rwa [size_alloc] at h
theorem rdB3 (w : World) (o o' : Obj) (l : List Bool) (t : TypeId) : Rd (((w.alloc o).alloc o').alloc (.cells (l.map Value.bool).toArray t)) 1 (some ⟨w.heap.size + 1 + 1, 0, none⟩) l.length (l.map Value.bool) := by
  have h := rdBools ((w.alloc o).alloc o') l t
  rwa [size_alloc, size_alloc] at h
theorem rdB1k (w : World) (l : List Bool) (t : TypeId) (o : Obj) : Rd ((w.alloc (.cells (l.map Value.bool).toArray t)).alloc o) 1 (some ⟨w.heap.size, 0, none⟩) l.length (l.map Value.bool) := (rdBools w l t).alloc o
theorem s8_on {w0 X Y : World} {b : Nat} {t : Int} {b1 b2 b3 b4 b5 b6 b7 : Bool} (h : X.cell? ⟨b, 2, none⟩ = some (.int .i64 t) ∧ X.cell? ⟨b, 5, none⟩ = some (.bool b1) ∧ X.cell? ⟨b, 6, none⟩ = some (.bool b2) ∧ X.cell? ⟨b, 7, none⟩ = some (.bool b3) ∧ X.cell? ⟨b, 8, none⟩ = some (.bool b4) ∧ X.cell? ⟨b, 9, none⟩ = some (.bool b5) ∧ X.cell? ⟨b, 10, none⟩ = some (.bool b6) ∧ X.cell? ⟨b, 11, none⟩ = some (.bool b7) ∧ Below w0.heap.size w0 X) (hb : Below X.heap.size X Y) :
    Y.cell? ⟨b, 2, none⟩ = some (.int .i64 t) ∧ Y.cell? ⟨b, 5, none⟩ = some (.bool b1) ∧ Y.cell? ⟨b, 6, none⟩ = some (.bool b2) ∧ Y.cell? ⟨b, 7, none⟩ = some (.bool b3) ∧ Y.cell? ⟨b, 8, none⟩ = some (.bool b4) ∧ Y.cell? ⟨b, 9, none⟩ = some (.bool b5) ∧ Y.cell? ⟨b, 10, none⟩ = some (.bool b6) ∧ Y.cell? ⟨b, 11, none⟩ = some (.bool b7) ∧ Below w0.heap.size w0 Y :=
  ⟨cell_below hb h.1, cell_below hb h.2.1, cell_below hb h.2.2.1, cell_below hb h.2.2.2.1, cell_below hb h.2.2.2.2.1, cell_below hb h.2.2.2.2.2.1, cell_below hb h.2.2.2.2.2.2.1, cell_below hb h.2.2.2.2.2.2.2.1, below_self h.2.2.2.2.2.2.2.2 hb⟩
theorem odd_eq (d l t g : Int) (b0 b1 b2 b3 b4 b5 b6 b7 b8 b9 : Bool) (B : Nat) : Opt.odd ⟨d, l, t, g, b0, b1, b2, b3, b4, b5, b6, b7, b8, b9⟩ = oddP ⟨B, t, l != 0, t != 0, b1, b2, b3, b4, b5, b6, b7⟩ := by
  unfold Opt.odd oddP
  simp only
  have e1 : decide (l ≠ 0) = (l != 0) := by by_cases h : l = 0 <;> simp [h]
  have e2 : decide (t ≠ 0) = (t != 0) := by by_cases h : t = 0 <;> simp [h]
  have e3 : decide (l = 0) = !(l != 0) := by by_cases h : l = 0 <;> simp [h]
  have e4 : decide (t = 3) = (t == 3) := by by_cases h : t = 3 <;> simp [h]
  have e5 : decide (t = 4) = (t == 4) := by by_cases h : t = 4 <;> simp [h]
  rw [e1, e2, e3, e4, e5]
  generalize (l != 0) = x1
  generalize (t != 0) = x2
  generalize (t == 3) = x3
  generalize (t == 4) = x4
  revert x1 x2 x3 x4 b1 b2 b3 b4 b5 b6 b7
  decide
set_option maxRecDepth 100000 in
set_option maxHeartbeats 8000000 in
theorem opCheck_any (d l t g : Int) (b0 b1 b2 b3 b4 b5 b6 b7 b8 b9 : Bool) (E : Int) (hE : Opt.err ⟨d, l, t, g, b0, b1, b2, b3, b4, b5, b6, b7, b8, b9⟩ = E) (w : World) (hK : KindsAt w) :
    Calls Tryd.prog 10 #[.agg #[.int .i64 d, .int .i64 l, .int .i64 t, .int .i64 g, .bool b0, .bool b1, .bool b2, .bool b3, .bool b4, .bool b5, .bool b6, .bool b7, .bool b8, .bool b9]] w fun e w' => e = .returned (.int .i64 E) ∧ Below w.heap.size w w' := by
  have HE := Lib.hid hE
  have HK := Lib.hid hK
  have hb0 := below_new w (.cells #[.int .i64 d, .int .i64 l, .int .i64 t, .int .i64 g, .bool b0, .bool b1, .bool b2, .bool b3, .bool b4, .bool b5, .bool b6, .bool b7, .bool b8, .bool b9] 23)
  have hcel : ∀ (j : Nat) (u : Value), [Value.int .i64 d, .int .i64 l, .int .i64 t, .int .i64 g, .bool b0, .bool b1, .bool b2, .bool b3, .bool b4, .bool b5, .bool b6, .bool b7, .bool b8, .bool b9][j]? = some u → (w.alloc (.cells #[.int .i64 d, .int .i64 l, .int .i64 t, .int .i64 g, .bool b0, .bool b1, .bool b2, .bool b3, .bool b4, .bool b5, .bool b6, .bool b7, .bool b8, .bool b9] 23)).cell? ⟨w.heap.size, j, none⟩ = some u := fun j u hu => by
    rw [World.cell?_alloc_at _ _ _ _ rfl]
    simpa using hu
  clear hE hK
  go_enter Tryd.func10, Tryd.ntmps10
  go_wp2
  go_quiet (fail)
  have hbq := below_drewN hb0 nq
  have HKQ := Lib.hid (HK.out.below hbq)
  have hcq : ∀ (j : Nat) (u : Value), [Value.int .i64 d, .int .i64 l, .int .i64 t, .int .i64 g, .bool b0, .bool b1, .bool b2, .bool b3, .bool b4, .bool b5, .bool b6, .bool b7, .bool b8, .bool b9][j]? = some u → ((w.alloc (.cells #[.int .i64 d, .int .i64 l, .int .i64 t, .int .i64 g, .bool b0, .bool b1, .bool b2, .bool b3, .bool b4, .bool b5, .bool b6, .bool b7, .bool b8, .bool b9] 23)).drewN nq).cell? ⟨w.heap.size, j, none⟩ = some u := hcel
  clear hcel
  go_wp2_with fail
  generalize (w.alloc (.cells #[.int .i64 d, .int .i64 l, .int .i64 t, .int .i64 g, .bool b0, .bool b1, .bool b2, .bool b3, .bool b4, .bool b5, .bool b6, .bool b7, .bool b8, .bool b9] 23)).drewN nq = wq at *
  refine (opKinds_any d l t g b0 b1 b2 b3 b4 b5 b6 b7 b8 b9 wq).mono ?_
  rintro e w2 ⟨rfl, hb2⟩
  have hb3 := hbq.trans (hb2.mono hbq.size)
  have hb4 := hb3.alloc hb3.size (.cells #[.int .i64 d, .int .i64 l, .int .i64 t, .int .i64 g] 47)
  have HC := Lib.hid (fun (j : Nat) (u : Value) hu => cell_below (below_self hb2 (below_new w2 (.cells #[.int .i64 d, .int .i64 l, .int .i64 t, .int .i64 g] 47))) (hcq j u hu))
  obtain ⟨⟨k0, k1, k2, k3⟩, _⟩ := FourAt.new_ w2 d l t g 47
  have HK2 := Lib.hid (HKQ.out.below (below_self hb2 (below_new w2 (.cells #[.int .i64 d, .int .i64 l, .int .i64 t, .int .i64 g] 47))))
  clear hb0 hbq hb2 hb3 hcq HKQ
  go_wp2
  generalize w2.alloc (.cells #[.int .i64 d, .int .i64 l, .int .i64 t, .int .i64 g] 47) = w0 at *
  obtain ⟨bk, hbk⟩ : ∃ bk, w2.heap.size = bk := ⟨_, rfl⟩
  simp only [hbk] at k0 k1 k2 k3 ⊢
  have hq := kindsEq d l t g (nrF 3 d) (nrF 4 l) (nrF 4 t) (nrF 4 g)
  clear hbk
  go_region_held3 (fun w' => w'.cell? ⟨bk, 0, none⟩ = some (.int .i64 d) ∧ w'.cell? ⟨bk, 1, none⟩ = some (.int .i64 l) ∧ w'.cell? ⟨bk, 2, none⟩ = some (.int .i64 t) ∧ w'.cell? ⟨bk, 3, none⟩ = some (.int .i64 g) ∧ Below w0.heap.size w0 w')
    (first
      | exact ⟨k0, k1, k2, k3, (Below.refl _ _).drew⟩
      | exact ⟨cell_below h1 (by assumption : _ ∧ _ ∧ _ ∧ _ ∧ Below w0.heap.size w0 _).1, cell_below h1 (by assumption : _ ∧ _ ∧ _ ∧ _ ∧ Below w0.heap.size w0 _).2.1, cell_below h1 (by assumption : _ ∧ _ ∧ _ ∧ _ ∧ Below w0.heap.size w0 _).2.2.1, cell_below h1 (by assumption : _ ∧ _ ∧ _ ∧ _ ∧ Below w0.heap.size w0 _).2.2.2.1, below_self (by assumption : _ ∧ _ ∧ _ ∧ _ ∧ Below w0.heap.size w0 _).2.2.2.2 h1⟩
      | exact ⟨cell_below h1 k0, cell_below h1 k1, cell_below h1 k2, cell_below h1 k3, below_self (Below.refl _ _).drew h1⟩)
    (first
      | (go_at_call 30; with_reducible refine (opNearest_any d l t g _ (HK2.out.below (by first | exact (Below.refl _ _).drew | exact (by assumption : _ ∧ _ ∧ _ ∧ _ ∧ Below w0.heap.size w0 _).2.2.2.2))).mono ?_; rintro e w3 ⟨rfl, h1⟩)
      | fail)
  have hb5 := below_self hb4 ((by assumption : _ ∧ _ ∧ _ ∧ _ ∧ Below w0.heap.size w0 _).2.2.2.2)
  have HB := Lib.hid hb5
  have hin := (by assumption : _ ∧ _ ∧ _ ∧ _ ∧ Below w0.heap.size w0 _).2.2.2.2
  obtain ⟨m, hm⟩ : ∃ m, Opt.may ⟨d, l, t, g, b0, b1, b2, b3, b4, b5, b6, b7, b8, b9⟩ = m := ⟨_, rfl⟩
  have hmm : (!(d == nrF 3 d) || !(l == nrF 4 l) || !(t == nrF 4 t) || !(g == nrF 4 g)) = !m := by
    rw [← hm, near_same 3 d (by omega), near_same 4 l (by omega), near_same 4 t (by omega), near_same 4 g (by omega)]
    unfold Opt.may
    simp only
    rw [Bool.eq_iff_iff]
    simp only [Bool.or_eq_true, Bool.not_eq_true', decide_eq_false_iff_not]
    omega
  simp only [hmm]
  have HM := Lib.hid hm
  have c2 := cell_below hin (HC.out 2 _ rfl)
  have c5 := cell_below hin (HC.out 5 _ rfl)
  have c6 := cell_below hin (HC.out 6 _ rfl)
  have c7 := cell_below hin (HC.out 7 _ rfl)
  have c8 := cell_below hin (HC.out 8 _ rfl)
  have c9 := cell_below hin (HC.out 9 _ rfl)
  have c10 := cell_below hin (HC.out 10 _ rfl)
  have c11 := cell_below hin (HC.out 11 _ rfl)
  clear hm hmm hq hin hb4 hb5 k0 k1 k2 k3 h1
  cases m with
  | false =>
    have HF := Lib.hid (show E = 1 by rw [← HE.out, Opt.err, HM.out]; rfl)
    go_wp2
    go_ret
    exact ⟨by rw [HF.out]; rfl, HB.out⟩
  | true =>
    have HOD := Lib.hid (show E = if Opt.odd ⟨d, l, t, g, b0, b1, b2, b3, b4, b5, b6, b7, b8, b9⟩ = true then 3 else 0 by rw [← HE.out, Opt.err, HM.out]; rfl)
    clear HE HM HC HK2 HK
    go_wp2
    refine check_region (p := ⟨w.heap.size, t, l != 0, t != 0, b1, b2, b3, b4, b5, b6, b7⟩) (w0 := w3) (by rfl) (by kernel_rfl) (by kernel_rfl) (by kernel_rfl) ?hH ?_
    case hH => exact ⟨rfl, rfl, rfl, rfl, rfl, c2, c5, c6, c7, c8, c9, c10, c11, (Below.refl _ _).drew⟩
    intro a' w' hA e
    obtain ⟨tm, df⟩ := a'
    have hdf := hA.defers
    have hsz := hA.size
    have hbf := below_self HB.out hA.below
    simp only at hdf hsz e
    subst hdf
    obtain ⟨u0, u1, u2, u3, u4, u5, u6, u7, u8, u9, u10, u11, u12, u13, u14, u15, u16, u17, u18, u19, u20, u21, u22, u23, u24, u25, u26, u27, u28, u29, u30, u31, u32, u33, u34, u35, u36, u37, u38, u39, u40, u41, u42, u43, u44, u45, u46, u47, u48, u49, u50, u51, u52, u53, u54, u55, u56, u57, u58, u59, u60, u61, rfl⟩ := arr62 tm hsz
    clear hsz hA c2 c5 c6 c7 c8 c9 c10 c11
    cases ho : oddP ⟨w.heap.size, t, l != 0, t != 0, b1, b2, b3, b4, b5, b6, b7⟩ with
    | true =>
      rw [ho] at e
      have HF := Lib.hid (show E = 3 by rw [HOD.out, if_pos]; rw [← ho]; exact odd_eq ..)
      clear ho HOD
      obtain rfl := Option.some.inj e
      clear e
      go_wp2
      go_ret
      exact ⟨by rw [HF.out]; rfl, hbf⟩
    | false =>
      rw [ho] at e
      have HF := Lib.hid (show E = 0 by rw [HOD.out, if_neg]; rw [odd_eq, ho]; decide)
      clear ho HOD
      obtain rfl := Option.some.inj e
      clear e
      go_wp2
      go_ret
      exact ⟨by rw [HF.out]; rfl, hbf⟩
end Go.Proofs.YtcdogkabdhbjmaaDoor
