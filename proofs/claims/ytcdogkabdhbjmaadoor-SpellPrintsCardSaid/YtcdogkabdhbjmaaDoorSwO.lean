/- Options as words: options out of their fields. -/
import Derived.Test.YtcdogkabdhbjmaaDoorSwN
namespace Go.Proofs.YtcdogkabdhbjmaaDoor
open Go.RowKit

/-- Options out of their fields. -/
def optOf (x0 x1 x2 x3 x4 x5 x6 x7 x8 x9 x10 x11 x12 x13 : Int) : Opt := ⟨x0, x1, x2, x3, x4 == 1, x5 == 1, x6 == 1, x7 == 1, x8 == 1, x9 == 1, x10 == 1, x11 == 1, x12 == 1, x13 == 1⟩
set_option maxRecDepth 100000 in
set_option maxHeartbeats 4000000 in
theorem swOptions_any (x0 x1 x2 x3 x4 x5 x6 x7 x8 x9 x10 x11 x12 x13 : Int) (w : World) :
    Calls Tryd.prog 57 #[.agg #[.int .i64 x0, .int .i64 x1, .int .i64 x2, .int .i64 x3, .int .i64 x4, .int .i64 x5, .int .i64 x6, .int .i64 x7, .int .i64 x8, .int .i64 x9, .int .i64 x10, .int .i64 x11, .int .i64 x12, .int .i64 x13]] w fun e w' => e = .returned (optOf x0 x1 x2 x3 x4 x5 x6 x7 x8 x9 x10 x11 x12 x13).val ∧ Below w.heap.size w w' := by
  obtain ⟨y4, h4⟩ : ∃ y, (x4 == 1) = y := ⟨_, rfl⟩
  obtain ⟨y5, h5⟩ : ∃ y, (x5 == 1) = y := ⟨_, rfl⟩
  obtain ⟨y6, h6⟩ : ∃ y, (x6 == 1) = y := ⟨_, rfl⟩
  obtain ⟨y7, h7⟩ : ∃ y, (x7 == 1) = y := ⟨_, rfl⟩
  obtain ⟨y8, h8⟩ : ∃ y, (x8 == 1) = y := ⟨_, rfl⟩
  obtain ⟨y9, h9⟩ : ∃ y, (x9 == 1) = y := ⟨_, rfl⟩
  obtain ⟨y10, h10⟩ : ∃ y, (x10 == 1) = y := ⟨_, rfl⟩
  obtain ⟨y11, h11⟩ : ∃ y, (x11 == 1) = y := ⟨_, rfl⟩
  obtain ⟨y12, h12⟩ : ∃ y, (x12 == 1) = y := ⟨_, rfl⟩
  obtain ⟨y13, h13⟩ : ∃ y, (x13 == 1) = y := ⟨_, rfl⟩
  have HO := Lib.hid (show optOf x0 x1 x2 x3 x4 x5 x6 x7 x8 x9 x10 x11 x12 x13 = ⟨x0, x1, x2, x3, y4, y5, y6, y7, y8, y9, y10, y11, y12, y13⟩ by unfold optOf; rw [h4, h5, h6, h7, h8, h9, h10, h11, h12, h13])
  obtain ⟨W1, hW1⟩ : ∃ W1, w.alloc (.cells #[.int .i64 x0, .int .i64 x1, .int .i64 x2, .int .i64 x3, .int .i64 x4, .int .i64 x5, .int .i64 x6, .int .i64 x7, .int .i64 x8, .int .i64 x9, .int .i64 x10, .int .i64 x11, .int .i64 x12, .int .i64 x13] 62) = W1 := ⟨_, rfl⟩
  have hF : CellsAt W1 w.heap.size [.int .i64 x0, .int .i64 x1, .int .i64 x2, .int .i64 x3, .int .i64 x4, .int .i64 x5, .int .i64 x6, .int .i64 x7, .int .i64 x8, .int .i64 x9, .int .i64 x10, .int .i64 x11, .int .i64 x12, .int .i64 x13] := by rw [← hW1]; exact CellsAt.new_ w _ _
  have hb1 : Below w.heap.size w W1 := by rw [← hW1]; exact below_new _ _
  have hl1 : w.heap.size < W1.heap.size := by rw [← hW1]; simp
  obtain ⟨W2, hW2⟩ : ∃ W2, W1.alloc (.cells #[.int .i64 0, .int .i64 0, .int .i64 0, .int .i64 0, .bool false, .bool false, .bool false, .bool false, .bool false, .bool false, .bool false, .bool false, .bool false, .bool false] 23) = W2 := ⟨_, rfl⟩
  have hR2 : OptAt W2 W1.heap.size Opt.zero := by rw [← hW2]; exact OptAt.new_ W1 Opt.zero 23
  have hb2 : Below W1.heap.size W1 W2 := by rw [← hW2]; exact below_new _ _
  have hF2 := hF.below hb2 hl1
  have c0 : W2.cell? ⟨w.heap.size, 0, none⟩ = some (.int .i64 x0) := hF2.1 0 _ rfl
  have c1 : W2.cell? ⟨w.heap.size, 1, none⟩ = some (.int .i64 x1) := hF2.1 1 _ rfl
  have c2 : W2.cell? ⟨w.heap.size, 2, none⟩ = some (.int .i64 x2) := hF2.1 2 _ rfl
  have c3 : W2.cell? ⟨w.heap.size, 3, none⟩ = some (.int .i64 x3) := hF2.1 3 _ rfl
  have c4 : W2.cell? ⟨w.heap.size, 4, none⟩ = some (.int .i64 x4) := hF2.1 4 _ rfl
  have c5 : W2.cell? ⟨w.heap.size, 5, none⟩ = some (.int .i64 x5) := hF2.1 5 _ rfl
  have c6 : W2.cell? ⟨w.heap.size, 6, none⟩ = some (.int .i64 x6) := hF2.1 6 _ rfl
  have c7 : W2.cell? ⟨w.heap.size, 7, none⟩ = some (.int .i64 x7) := hF2.1 7 _ rfl
  have c8 : W2.cell? ⟨w.heap.size, 8, none⟩ = some (.int .i64 x8) := hF2.1 8 _ rfl
  have c9 : W2.cell? ⟨w.heap.size, 9, none⟩ = some (.int .i64 x9) := hF2.1 9 _ rfl
  have c10 : W2.cell? ⟨w.heap.size, 10, none⟩ = some (.int .i64 x10) := hF2.1 10 _ rfl
  have c11 : W2.cell? ⟨w.heap.size, 11, none⟩ = some (.int .i64 x11) := hF2.1 11 _ rfl
  have c12 : W2.cell? ⟨w.heap.size, 12, none⟩ = some (.int .i64 x12) := hF2.1 12 _ rfl
  have c13 : W2.cell? ⟨w.heap.size, 13, none⟩ = some (.int .i64 x13) := hF2.1 13 _ rfl
  have r0 : W2.cell? ⟨W1.heap.size, 0, none⟩ = some (.int .i64 0) := hR2.1 0 _ rfl
  have f0 := hR2.2 0
  have r1 : W2.cell? ⟨W1.heap.size, 1, none⟩ = some (.int .i64 0) := hR2.1 1 _ rfl
  have f1 := hR2.2 1
  have r2 : W2.cell? ⟨W1.heap.size, 2, none⟩ = some (.int .i64 0) := hR2.1 2 _ rfl
  have f2 := hR2.2 2
  have r3 : W2.cell? ⟨W1.heap.size, 3, none⟩ = some (.int .i64 0) := hR2.1 3 _ rfl
  have f3 := hR2.2 3
  have r4 : W2.cell? ⟨W1.heap.size, 4, none⟩ = some (.bool false) := hR2.1 4 _ rfl
  have f4 := hR2.2 4
  have r5 : W2.cell? ⟨W1.heap.size, 5, none⟩ = some (.bool false) := hR2.1 5 _ rfl
  have f5 := hR2.2 5
  have r6 : W2.cell? ⟨W1.heap.size, 6, none⟩ = some (.bool false) := hR2.1 6 _ rfl
  have f6 := hR2.2 6
  have r7 : W2.cell? ⟨W1.heap.size, 7, none⟩ = some (.bool false) := hR2.1 7 _ rfl
  have f7 := hR2.2 7
  have r8 : W2.cell? ⟨W1.heap.size, 8, none⟩ = some (.bool false) := hR2.1 8 _ rfl
  have f8 := hR2.2 8
  have r9 : W2.cell? ⟨W1.heap.size, 9, none⟩ = some (.bool false) := hR2.1 9 _ rfl
  have f9 := hR2.2 9
  have r10 : W2.cell? ⟨W1.heap.size, 10, none⟩ = some (.bool false) := hR2.1 10 _ rfl
  have f10 := hR2.2 10
  have r11 : W2.cell? ⟨W1.heap.size, 11, none⟩ = some (.bool false) := hR2.1 11 _ rfl
  have f11 := hR2.2 11
  have r12 : W2.cell? ⟨W1.heap.size, 12, none⟩ = some (.bool false) := hR2.1 12 _ rfl
  have f12 := hR2.2 12
  have r13 : W2.cell? ⟨W1.heap.size, 13, none⟩ = some (.bool false) := hR2.1 13 _ rfl
  have f13 := hR2.2 13
  have HR := Lib.hid hR2
  have HB := Lib.hid (below_self hb1 hb2)
  have HL := Lib.hid (Nat.le_of_lt hl1)
  clear hF hF2 hb1 hb2 hR2 hl1
  go_enter Tryd.func57, Tryd.ntmps57
  go_wp2_with fail
  (try simp only [Exit.inBlock, Exit.then])
  refine bodyPost_ret (v := Opt.val ⟨x0, x1, x2, x3, y4, y5, y6, y7, y8, y9, y10, y11, y12, y13⟩) ?_ rfl ⟨by rw [HO.out], below_stored ⟨x0, x1, x2, x3, y4, y5, y6, y7, y8, y9, y10, y11, y12, y13⟩ HL.out HB.out⟩
  exact res_opt1 rfl _ _ W1.heap.size ⟨x0, x1, x2, x3, y4, y5, y6, y7, y8, y9, y10, y11, y12, y13⟩ rfl (HR.out.stored ⟨x0, x1, x2, x3, y4, y5, y6, y7, y8, y9, y10, y11, y12, y13⟩)
end Go.Proofs.YtcdogkabdhbjmaaDoor
