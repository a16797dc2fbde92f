/- naskhlaw10.awake, OptionBits. -/
import Derived.Test.YtcdogkabdhbjmaaDoorOpOf
import Derived.Test.YtcdogkabdhbjmaaDoorOpRo
import Derived.Test.YtcdogkabdhbjmaaDoorOpRb
import Derived.Test.YtcdogkabdhbjmaaDoorOpE
namespace Go.Proofs.YtcdogkabdhbjmaaDoor
open Go.RowKit

theorem bits_awake : Opt.bits ⟨1, 0, 0, 0, false, true, false, false, false, false, false, false, false, false⟩ = (1001, 0) := by decide
theorem err_awake : Opt.err ⟨0, 1, 0, 0, false, false, false, false, false, false, false, false, false, false⟩ = 3 := by decide
set_option maxRecDepth 100000 in
set_option maxHeartbeats 4000000 in
theorem awake10_any (w : World) (hK : KindsAt w) : Calls Tryd.prog 14 #[] w fun e w' => e = .returned (.bool true) ∧ Below w.heap.size w w' := by
  have HK := Lib.hid hK
  clear hK
  go_enter Tryd.func14, Tryd.ntmps14
  go_wp2_with fail
  refine (opBitsOf_any 1 0 0 0 false true false false false false false false false false 1001 0 bits_awake w HK.out).mono ?_
  rintro e w1 ⟨rfl, hb1⟩
  have HK1 := Lib.hid (HK.out.below hb1)
  have HB1 := Lib.hid hb1
  clear hb1 HK
  go_wp2_with fail
  refine (opCheck_any 0 1 0 0 false false false false false false false false false false 3 err_awake w1 HK1.out).mono ?_
  rintro e w2 ⟨rfl, hb2⟩
  have HB2 := Lib.hid (below_self HB1.out hb2)
  clear hb2
  go_wp2_with fail
  go_ret
  exact ⟨rfl, HB2.out⟩
set_option maxRecDepth 100000 in
set_option maxHeartbeats 8000000 in
theorem optionBits_any (d l t g : Int) (b0 b1 b2 b3 b4 b5 b6 b7 b8 b9 : Bool) (n : Int) (w : World) (hK : KindsAt w) :
    Calls Tryd.prog 4 #[.agg #[.int .i64 d, .int .i64 l, .int .i64 t, .int .i64 g, .bool b0, .bool b1, .bool b2, .bool b3, .bool b4, .bool b5, .bool b6, .bool b7, .bool b8, .bool b9], .int .i64 n] w fun e w' => e = .returned (.bool true) ∧ Below w.heap.size w w' := by
  obtain ⟨N, E, hb⟩ : ∃ N E, Opt.bits ⟨d, l, t, g, b0, b1, b2, b3, b4, b5, b6, b7, b8, b9⟩ = (N, E) := ⟨_, _, rfl⟩
  obtain ⟨R, F, hf⟩ : ∃ R F, Opt.back n = (R, F) := ⟨_, _, rfl⟩
  obtain ⟨r0, r1, r2, r3, r4, r5, r6, r7, r8, r9, r10, r11, r12, r13⟩ := R
  obtain ⟨W1, hW1⟩ : ∃ W1, w.alloc (.cells #[.int .i64 d, .int .i64 l, .int .i64 t, .int .i64 g, .bool b0, .bool b1, .bool b2, .bool b3, .bool b4, .bool b5, .bool b6, .bool b7, .bool b8, .bool b9] 23) = W1 := ⟨_, rfl⟩
  have hO1 : OptAt W1 w.heap.size ⟨d, l, t, g, b0, b1, b2, b3, b4, b5, b6, b7, b8, b9⟩ := by rw [← hW1]; exact OptAt.new_ w ⟨d, l, t, g, b0, b1, b2, b3, b4, b5, b6, b7, b8, b9⟩ 23
  have hb1 : Below w.heap.size w W1 := by rw [← hW1]; exact below_new _ _
  have HK1 := Lib.hid (hK.below hb1)
  have HO1 := Lib.hid hO1
  have HB1 := Lib.hid hb1
  have HB := Lib.hid hb
  have HF := Lib.hid hf
  have hq := optsEq r0 r1 r2 r3 r4 r5 r6 r7 r8 r9 r10 r11 r12 r13 r0 r1 r2 r3 r4 r5 r6 r7 r8 r9 r10 r11 r12 r13
  have hy : ((r0 == r0) && (r1 == r1) && (r2 == r2) && (r3 == r3) && (r4 == r4) && (r5 == r5) && (r6 == r6) && (r7 == r7) && (r8 == r8) && (r9 == r9) && (r10 == r10) && (r11 == r11) && (r12 == r12) && (r13 == r13)) = true := by simp
  simp only [hy] at hq
  have c0 : W1.cell? ⟨w.heap.size, 0, none⟩ = some (.int .i64 d) := HO1.out.1 0 _ rfl
  have c1 : W1.cell? ⟨w.heap.size, 1, none⟩ = some (.int .i64 l) := HO1.out.1 1 _ rfl
  have c2 : W1.cell? ⟨w.heap.size, 2, none⟩ = some (.int .i64 t) := HO1.out.1 2 _ rfl
  have c3 : W1.cell? ⟨w.heap.size, 3, none⟩ = some (.int .i64 g) := HO1.out.1 3 _ rfl
  have c4 : W1.cell? ⟨w.heap.size, 4, none⟩ = some (.bool b0) := HO1.out.1 4 _ rfl
  have c5 : W1.cell? ⟨w.heap.size, 5, none⟩ = some (.bool b1) := HO1.out.1 5 _ rfl
  have c6 : W1.cell? ⟨w.heap.size, 6, none⟩ = some (.bool b2) := HO1.out.1 6 _ rfl
  have c7 : W1.cell? ⟨w.heap.size, 7, none⟩ = some (.bool b3) := HO1.out.1 7 _ rfl
  have c8 : W1.cell? ⟨w.heap.size, 8, none⟩ = some (.bool b4) := HO1.out.1 8 _ rfl
  have c9 : W1.cell? ⟨w.heap.size, 9, none⟩ = some (.bool b5) := HO1.out.1 9 _ rfl
  have c10 : W1.cell? ⟨w.heap.size, 10, none⟩ = some (.bool b6) := HO1.out.1 10 _ rfl
  have c11 : W1.cell? ⟨w.heap.size, 11, none⟩ = some (.bool b7) := HO1.out.1 11 _ rfl
  have c12 : W1.cell? ⟨w.heap.size, 12, none⟩ = some (.bool b8) := HO1.out.1 12 _ rfl
  have c13 : W1.cell? ⟨w.heap.size, 13, none⟩ = some (.bool b9) := HO1.out.1 13 _ rfl
  clear hy hK hO1 hb1 hb hf
  go_enter Tryd.func4, Tryd.ntmps4
  go_wp2_with fail
  refine (opBitsOf_any d l t g b0 b1 b2 b3 b4 b5 b6 b7 b8 b9 N E HB.out _ HK1.out).mono ?_
  rintro e w2 ⟨rfl, hb2⟩
  have HO2 := Lib.hid (HO1.out.below hb2)
  have HK2 := Lib.hid (HK1.out.below hb2)
  have HB2 := Lib.hid (below_self HB1.out hb2)
  clear hb2 HK1 HB1 HO1 c0 c1 c2 c3 c4 c5 c6 c7 c8 c9 c10 c11 c12 c13 hW1
  have c0 : w2.cell? ⟨w.heap.size, 0, none⟩ = some (.int .i64 d) := HO2.out.1 0 _ rfl
  have c1 : w2.cell? ⟨w.heap.size, 1, none⟩ = some (.int .i64 l) := HO2.out.1 1 _ rfl
  have c2 : w2.cell? ⟨w.heap.size, 2, none⟩ = some (.int .i64 t) := HO2.out.1 2 _ rfl
  have c3 : w2.cell? ⟨w.heap.size, 3, none⟩ = some (.int .i64 g) := HO2.out.1 3 _ rfl
  have c4 : w2.cell? ⟨w.heap.size, 4, none⟩ = some (.bool b0) := HO2.out.1 4 _ rfl
  have c5 : w2.cell? ⟨w.heap.size, 5, none⟩ = some (.bool b1) := HO2.out.1 5 _ rfl
  have c6 : w2.cell? ⟨w.heap.size, 6, none⟩ = some (.bool b2) := HO2.out.1 6 _ rfl
  have c7 : w2.cell? ⟨w.heap.size, 7, none⟩ = some (.bool b3) := HO2.out.1 7 _ rfl
  have c8 : w2.cell? ⟨w.heap.size, 8, none⟩ = some (.bool b4) := HO2.out.1 8 _ rfl
  have c9 : w2.cell? ⟨w.heap.size, 9, none⟩ = some (.bool b5) := HO2.out.1 9 _ rfl
  have c10 : w2.cell? ⟨w.heap.size, 10, none⟩ = some (.bool b6) := HO2.out.1 10 _ rfl
  have c11 : w2.cell? ⟨w.heap.size, 11, none⟩ = some (.bool b7) := HO2.out.1 11 _ rfl
  have c12 : w2.cell? ⟨w.heap.size, 12, none⟩ = some (.bool b8) := HO2.out.1 12 _ rfl
  have c13 : w2.cell? ⟨w.heap.size, 13, none⟩ = some (.bool b9) := HO2.out.1 13 _ rfl
  go_wp2_with fail
  refine (refBits_any d l t g b0 b1 b2 b3 b4 b5 b6 b7 b8 b9 N E HB.out _).mono ?_
  rintro e w3 ⟨rfl, hb3⟩
  have HK3 := Lib.hid (HK2.out.below hb3)
  have HB3 := Lib.hid (below_self HB2.out hb3)
  clear hb3 HK2 HB2 HO2 c0 c1 c2 c3 c4 c5 c6 c7 c8 c9 c10 c11 c12 c13
  go_wp2_with fail
  refine (opOf_any n ⟨r0, r1, r2, r3, r4, r5, r6, r7, r8, r9, r10, r11, r12, r13⟩ F HF.out _ HK3.out).mono ?_
  rintro e w4 ⟨rfl, hb4⟩
  have HK4 := Lib.hid (HK3.out.below hb4)
  have HB4 := Lib.hid (below_self HB3.out hb4)
  clear hb4 HK3 HB3
  simp only [Opt.val, Opt.cells]
  go_wp2_with fail
  obtain ⟨W5, hW5⟩ : ∃ W5, w4.alloc (.cells #[.int .i64 r0, .int .i64 r1, .int .i64 r2, .int .i64 r3, .bool r4, .bool r5, .bool r6, .bool r7, .bool r8, .bool r9, .bool r10, .bool r11, .bool r12, .bool r13] 23) = W5 := ⟨_, rfl⟩
  have hO5 : OptAt W5 w4.heap.size ⟨r0, r1, r2, r3, r4, r5, r6, r7, r8, r9, r10, r11, r12, r13⟩ := by rw [← hW5]; exact OptAt.new_ w4 ⟨r0, r1, r2, r3, r4, r5, r6, r7, r8, r9, r10, r11, r12, r13⟩ 23
  have hb5 : Below w4.heap.size w4 W5 := by rw [← hW5]; exact below_new _ _
  rw [hW5]
  clear hW5
  refine (refOf_any n ⟨r0, r1, r2, r3, r4, r5, r6, r7, r8, r9, r10, r11, r12, r13⟩ F HF.out _).mono ?_
  rintro e w6 ⟨rfl, hb6⟩
  have HO6 := Lib.hid (hO5.below hb6)
  have hl6 := HO6.out.lt
  have HK6 := Lib.hid ((HK4.out.below hb5).below hb6)
  have HB6 := Lib.hid (below_self (below_self HB4.out hb5) hb6)
  clear hb6 hO5 hb5 HK4 HB4
  have p0 : w6.cell? ⟨w4.heap.size, 0, none⟩ = some (.int .i64 r0) := HO6.out.1 0 _ rfl
  have p1 : w6.cell? ⟨w4.heap.size, 1, none⟩ = some (.int .i64 r1) := HO6.out.1 1 _ rfl
  have p2 : w6.cell? ⟨w4.heap.size, 2, none⟩ = some (.int .i64 r2) := HO6.out.1 2 _ rfl
  have p3 : w6.cell? ⟨w4.heap.size, 3, none⟩ = some (.int .i64 r3) := HO6.out.1 3 _ rfl
  have p4 : w6.cell? ⟨w4.heap.size, 4, none⟩ = some (.bool r4) := HO6.out.1 4 _ rfl
  have p5 : w6.cell? ⟨w4.heap.size, 5, none⟩ = some (.bool r5) := HO6.out.1 5 _ rfl
  have p6 : w6.cell? ⟨w4.heap.size, 6, none⟩ = some (.bool r6) := HO6.out.1 6 _ rfl
  have p7 : w6.cell? ⟨w4.heap.size, 7, none⟩ = some (.bool r7) := HO6.out.1 7 _ rfl
  have p8 : w6.cell? ⟨w4.heap.size, 8, none⟩ = some (.bool r8) := HO6.out.1 8 _ rfl
  have p9 : w6.cell? ⟨w4.heap.size, 9, none⟩ = some (.bool r9) := HO6.out.1 9 _ rfl
  have p10 : w6.cell? ⟨w4.heap.size, 10, none⟩ = some (.bool r10) := HO6.out.1 10 _ rfl
  have p11 : w6.cell? ⟨w4.heap.size, 11, none⟩ = some (.bool r11) := HO6.out.1 11 _ rfl
  have p12 : w6.cell? ⟨w4.heap.size, 12, none⟩ = some (.bool r12) := HO6.out.1 12 _ rfl
  have p13 : w6.cell? ⟨w4.heap.size, 13, none⟩ = some (.bool r13) := HO6.out.1 13 _ rfl
  simp only [Opt.val, Opt.cells]
  go_wp2_with fail
  refine (awake10_any _ (HK6.out.below (below_new _ _))).mono ?_
  rintro e w8 ⟨rfl, hb8⟩
  have HB8 := Lib.hid (below_self (below_self HB6.out (below_new _ _)) hb8)
  clear hb8
  go_wp2_with fail
  go_ret
  exact ⟨rfl, HB8.out⟩
end Go.Proofs.YtcdogkabdhbjmaaDoor
