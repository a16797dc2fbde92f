/- Options of a number: the reference's Of. -/
import Derived.Test.YtcdogkabdhbjmaaDoorOpRow
import Derived.Test.YtcdogkabdhbjmaaDoorOpR3
import Derived.Deep.DeepCutAuto
namespace Go.Proofs.YtcdogkabdhbjmaaDoor
open Go.RowKit

theorem bit_int (m k : Nat) : ((m : Int) / 500 / ((2 ^ k : Nat) : Int) % 2 == 1) = decide (m / 500 / 2 ^ k % 2 = 1) := by
  generalize 2 ^ k = p
  rw [Bool.eq_iff_iff]
  simp only [beq_iff_eq, decide_eq_true_eq]
  have : ((m / 500 / p % 2 : Nat) : Int) = (m : Int) / 500 / (p : Int) % 2 := by simp
  omega
set_option maxRecDepth 100000 in
set_option maxHeartbeats 8000000 in
theorem refOf_any (n : Int) (R : Opt) (E : Int) (hR : Opt.back n = (R, E)) (w : World) :
    Calls Tryd.prog 18 #[.int .i64 n] w fun e w' => e = .returned (.tuple #[R.val, .int .i64 E]) ∧ Below w.heap.size w w' := by
  have HR := Lib.hid hR
  have hb0 := below_new w (.cells Opt.zero.cells 23)
  have hO0 := OptAt.new_ w Opt.zero 23
  have hlt0 : w.heap.size < (w.alloc (.cells Opt.zero.cells 23)).heap.size := by simp
  clear hR
  have HB0 := Lib.hid hb0
  obtain ⟨W, hW⟩ : ∃ W, w.alloc (.cells Opt.zero.cells 23) = W := ⟨_, rfl⟩
  rw [hW] at HB0 hO0 hlt0
  have hW' : w.alloc (.cells #[.int .i64 0, .int .i64 0, .int .i64 0, .int .i64 0, .bool false, .bool false, .bool false, .bool false, .bool false, .bool false, .bool false, .bool false, .bool false, .bool false] 23) = W := hW
  obtain ⟨r, hr⟩ : ∃ r, w.heap.size = r := ⟨_, rfl⟩
  have HO0 := Lib.hid hO0
  have c0 : W.cell? ⟨w.heap.size, 0, none⟩ = some (.int .i64 0) := hO0.1 0 _ rfl
  have f0 := hO0.2 0
  have c1 : W.cell? ⟨w.heap.size, 1, none⟩ = some (.int .i64 0) := hO0.1 1 _ rfl
  have f1 := hO0.2 1
  have c2 : W.cell? ⟨w.heap.size, 2, none⟩ = some (.int .i64 0) := hO0.1 2 _ rfl
  have f2 := hO0.2 2
  have c3 : W.cell? ⟨w.heap.size, 3, none⟩ = some (.int .i64 0) := hO0.1 3 _ rfl
  have f3 := hO0.2 3
  have c4 : W.cell? ⟨w.heap.size, 4, none⟩ = some (.bool false) := hO0.1 4 _ rfl
  have f4 := hO0.2 4
  have c5 : W.cell? ⟨w.heap.size, 5, none⟩ = some (.bool false) := hO0.1 5 _ rfl
  have f5 := hO0.2 5
  have c6 : W.cell? ⟨w.heap.size, 6, none⟩ = some (.bool false) := hO0.1 6 _ rfl
  have f6 := hO0.2 6
  have c7 : W.cell? ⟨w.heap.size, 7, none⟩ = some (.bool false) := hO0.1 7 _ rfl
  have f7 := hO0.2 7
  have c8 : W.cell? ⟨w.heap.size, 8, none⟩ = some (.bool false) := hO0.1 8 _ rfl
  have f8 := hO0.2 8
  have c9 : W.cell? ⟨w.heap.size, 9, none⟩ = some (.bool false) := hO0.1 9 _ rfl
  have f9 := hO0.2 9
  have c10 : W.cell? ⟨w.heap.size, 10, none⟩ = some (.bool false) := hO0.1 10 _ rfl
  have f10 := hO0.2 10
  have c11 : W.cell? ⟨w.heap.size, 11, none⟩ = some (.bool false) := hO0.1 11 _ rfl
  have f11 := hO0.2 11
  have c12 : W.cell? ⟨w.heap.size, 12, none⟩ = some (.bool false) := hO0.1 12 _ rfl
  have f12 := hO0.2 12
  have c13 : W.cell? ⟨w.heap.size, 13, none⟩ = some (.bool false) := hO0.1 13 _ rfl
  have f13 := hO0.2 13
  clear hb0 hW hr hO0
  have HIN := Lib.hid (fun y hy => refIn_y n 511999 y hy W)
  by_cases hlo : n < 0
  · have HE := Lib.hid (show R = Opt.zero ∧ E = 1 by
      have := HR.out
      unfold Opt.back at this
      rw [if_pos (.inl hlo)] at this
      injection this with e1 e2
      exact ⟨e1.symm, e2.symm⟩)
    go_enter Tryd.func18, Tryd.ntmps18
    have C := HIN.out false (decide_eq_false (by omega))
    go_wp2_with fail
    refine C.mono ?_
    rintro e w1 ⟨rfl, rfl⟩
    go_wp2_with fail
    (try simp only [Exit.inBlock, Exit.then])
    refine bodyPost_ret (v := .tuple #[R.val, .int .i64 E]) ?_ rfl ⟨rfl, below_stored Opt.zero (Nat.le_refl _) HB0.out⟩
    rw [HE.out.1, HE.out.2]
    exact res_opt rfl _ _ w.heap.size Opt.zero _ rfl rfl (HO0.out.stored Opt.zero)
  · by_cases hhi : 511999 < n
    · have HE := Lib.hid (show R = Opt.zero ∧ E = 1 by
        have := HR.out
        unfold Opt.back at this
        rw [if_pos (.inr hhi)] at this
        injection this with e1 e2
        exact ⟨e1.symm, e2.symm⟩)
      go_enter Tryd.func18, Tryd.ntmps18
      have C := HIN.out false (decide_eq_false (by omega))
      go_wp2_with fail
      refine C.mono ?_
      rintro e w1 ⟨rfl, rfl⟩
      go_wp2_with fail
      (try simp only [Exit.inBlock, Exit.then])
      refine bodyPost_ret (v := .tuple #[R.val, .int .i64 E]) ?_ rfl ⟨rfl, below_stored Opt.zero (Nat.le_refl _) HB0.out⟩
      rw [HE.out.1, HE.out.2]
      exact res_opt rfl _ _ w.heap.size Opt.zero _ rfl rfl (HO0.out.stored Opt.zero)
    · obtain ⟨m, rfl⟩ : ∃ m : Nat, n = m := ⟨n.toNat, by omega⟩
      have HE := Lib.hid (show (if (Opt.of m).err = 0 then (Opt.of m, (0 : Int)) else (Opt.zero, (Opt.of m).err)) = (R, E) by
        have := HR.out
        unfold Opt.back at this
        rw [if_neg (by omega), Int.toNat_natCast] at this
        exact this)
      have hm : m < 512000 := by omega
      have C := HIN.out true (decide_eq_true (by omega))
      clear HR hlo hhi c0 c1 c2 c3 c4 c5 c6 c7 c8 c9 c10 c11 c12 c13 f0 f1 f2 f3 f4 f5 f6 f7 f8 f9 f10 f11 f12 f13
      go_enter Tryd.func18, Tryd.ntmps18
      go_wp2_with fail
      refine C.mono ?_
      rintro e w1 ⟨rfl, rfl⟩
      clear C hW'
      go_upto_region 5 with fail
      obtain ⟨q0, h0⟩ : ∃ q : Int, (m : Int) % 4 = q := ⟨_, rfl⟩
      obtain ⟨q1, h1⟩ : ∃ q : Int, (m : Int) / 4 % 5 = q := ⟨_, rfl⟩
      obtain ⟨q2, h2⟩ : ∃ q : Int, (m : Int) / 20 % 5 = q := ⟨_, rfl⟩
      obtain ⟨q3, h3⟩ : ∃ q : Int, (m : Int) / 100 % 5 = q := ⟨_, rfl⟩
      obtain ⟨F, hF⟩ : ∃ q : Int, (m : Int) / 500 = q := ⟨_, rfl⟩
      obtain ⟨x0, hx0⟩ : ∃ x, (m / 500).testBit 0 = x := ⟨_, rfl⟩
      have t0 : (F % 2 == 1) = x0 := by rw [← hx0, Nat.testBit_eq_decide_div_mod_eq, ← hF]; have := bit_int m 0; simpa using this
      obtain ⟨x1, hx1⟩ : ∃ x, (m / 500).testBit 1 = x := ⟨_, rfl⟩
      have t1 : (F / 2 % 2 == 1) = x1 := by rw [← hx1, Nat.testBit_eq_decide_div_mod_eq, ← hF]; exact bit_int m 1
      obtain ⟨x2, hx2⟩ : ∃ x, (m / 500).testBit 2 = x := ⟨_, rfl⟩
      have t2 : (F / 4 % 2 == 1) = x2 := by rw [← hx2, Nat.testBit_eq_decide_div_mod_eq, ← hF]; exact bit_int m 2
      obtain ⟨x3, hx3⟩ : ∃ x, (m / 500).testBit 3 = x := ⟨_, rfl⟩
      have t3 : (F / 8 % 2 == 1) = x3 := by rw [← hx3, Nat.testBit_eq_decide_div_mod_eq, ← hF]; exact bit_int m 3
      obtain ⟨x4, hx4⟩ : ∃ x, (m / 500).testBit 4 = x := ⟨_, rfl⟩
      have t4 : (F / 16 % 2 == 1) = x4 := by rw [← hx4, Nat.testBit_eq_decide_div_mod_eq, ← hF]; exact bit_int m 4
      obtain ⟨x5, hx5⟩ : ∃ x, (m / 500).testBit 5 = x := ⟨_, rfl⟩
      have t5 : (F / 32 % 2 == 1) = x5 := by rw [← hx5, Nat.testBit_eq_decide_div_mod_eq, ← hF]; exact bit_int m 5
      obtain ⟨x6, hx6⟩ : ∃ x, (m / 500).testBit 6 = x := ⟨_, rfl⟩
      have t6 : (F / 64 % 2 == 1) = x6 := by rw [← hx6, Nat.testBit_eq_decide_div_mod_eq, ← hF]; exact bit_int m 6
      obtain ⟨x7, hx7⟩ : ∃ x, (m / 500).testBit 7 = x := ⟨_, rfl⟩
      have t7 : (F / 128 % 2 == 1) = x7 := by rw [← hx7, Nat.testBit_eq_decide_div_mod_eq, ← hF]; exact bit_int m 7
      obtain ⟨x8, hx8⟩ : ∃ x, (m / 500).testBit 8 = x := ⟨_, rfl⟩
      have t8 : (F / 256 % 2 == 1) = x8 := by rw [← hx8, Nat.testBit_eq_decide_div_mod_eq, ← hF]; exact bit_int m 8
      obtain ⟨x9, hx9⟩ : ∃ x, (m / 500).testBit 9 = x := ⟨_, rfl⟩
      have t9 : (F / 512 % 2 == 1) = x9 := by rw [← hx9, Nat.testBit_eq_decide_div_mod_eq, ← hF]; exact bit_int m 9
      have HOF := Lib.hid (show Opt.of m = ⟨q0, q1, q2, q3, x0, x1, x2, x3, x4, x5, x6, x7, x8, x9⟩ by
        unfold Opt.of
        rw [hx0, hx1, hx2, hx3, hx4, hx5, hx6, hx7, hx8, hx9, ← h0, ← h1, ← h2, ← h3]
        rfl)
      rw [HOF.out] at HE
      obtain ⟨X, hX⟩ : ∃ X, (⟨q0, q1, q2, q3, x0, x1, x2, x3, x4, x5, x6, x7, x8, x9⟩ : Opt).err = X := ⟨_, rfl⟩
      rw [hX] at HE
      have HX := Lib.hid hX
      have hF0 : 0 ≤ F ∧ F ≤ 1023 := by omega
      obtain ⟨hF1, hF2⟩ := hF0
      clear HOF hX hx0 hx1 hx2 hx3 hx4 hx5 hx6 hx7 hx8 hx9
      have HO2 := Lib.hid (OptAt.new_ W ⟨q0, q1, q2, q3, false, false, false, false, false, false, false, false, false, false⟩ 23)
      obtain ⟨W2, hW2⟩ : ∃ W2, W.alloc (.cells #[.int .i64 q0, .int .i64 q1, .int .i64 q2, .int .i64 q3, .bool false, .bool false, .bool false, .bool false, .bool false, .bool false, .bool false, .bool false, .bool false, .bool false] 23) = W2 := ⟨_, rfl⟩
      have hb2 := below_new W (.cells #[.int .i64 q0, .int .i64 q1, .int .i64 q2, .int .i64 q3, .bool false, .bool false, .bool false, .bool false, .bool false, .bool false, .bool false, .bool false, .bool false, .bool false] 23)
      have hO2' : OptAt W2 W.heap.size ⟨q0, q1, q2, q3, false, false, false, false, false, false, false, false, false, false⟩ := by rw [← hW2]; exact HO2.out
      rw [hW2] at hb2
      have HB2 := Lib.hid hb2
      have HO3 := Lib.hid hO2'
      simp only [h0, h1, h2, h3, hF, hW2]
      clear h0 h1 h2 h3 hF hW2 HO2 hb2
      have c0 : W2.cell? ⟨W.heap.size, 0, none⟩ = some (.int .i64 q0) := hO2'.1 0 _ rfl
      have f0 := hO2'.2 0
      have c1 : W2.cell? ⟨W.heap.size, 1, none⟩ = some (.int .i64 q1) := hO2'.1 1 _ rfl
      have f1 := hO2'.2 1
      have c2 : W2.cell? ⟨W.heap.size, 2, none⟩ = some (.int .i64 q2) := hO2'.1 2 _ rfl
      have f2 := hO2'.2 2
      have c3 : W2.cell? ⟨W.heap.size, 3, none⟩ = some (.int .i64 q3) := hO2'.1 3 _ rfl
      have f3 := hO2'.2 3
      have c4 : W2.cell? ⟨W.heap.size, 4, none⟩ = some (.bool false) := hO2'.1 4 _ rfl
      have f4 := hO2'.2 4
      have c5 : W2.cell? ⟨W.heap.size, 5, none⟩ = some (.bool false) := hO2'.1 5 _ rfl
      have f5 := hO2'.2 5
      have c6 : W2.cell? ⟨W.heap.size, 6, none⟩ = some (.bool false) := hO2'.1 6 _ rfl
      have f6 := hO2'.2 6
      have c7 : W2.cell? ⟨W.heap.size, 7, none⟩ = some (.bool false) := hO2'.1 7 _ rfl
      have f7 := hO2'.2 7
      have c8 : W2.cell? ⟨W.heap.size, 8, none⟩ = some (.bool false) := hO2'.1 8 _ rfl
      have f8 := hO2'.2 8
      have c9 : W2.cell? ⟨W.heap.size, 9, none⟩ = some (.bool false) := hO2'.1 9 _ rfl
      have f9 := hO2'.2 9
      have c10 : W2.cell? ⟨W.heap.size, 10, none⟩ = some (.bool false) := hO2'.1 10 _ rfl
      have f10 := hO2'.2 10
      have c11 : W2.cell? ⟨W.heap.size, 11, none⟩ = some (.bool false) := hO2'.1 11 _ rfl
      have f11 := hO2'.2 11
      have c12 : W2.cell? ⟨W.heap.size, 12, none⟩ = some (.bool false) := hO2'.1 12 _ rfl
      have f12 := hO2'.2 12
      have c13 : W2.cell? ⟨W.heap.size, 13, none⟩ = some (.bool false) := hO2'.1 13 _ rfl
      have f13 := hO2'.2 13
      have hl3 := hO2'.lt
      clear hO2'
      have HO5 := Lib.hid ((((((((((HO3.out.setF0 x0).setF1 x1).setF2 x2).setF3 x3).setF4 x4).setF5 x5).setF6 x6).setF7 x7).setF8 x8).setF9 x9)
      have hk5 := (below_setB (below_setB (below_setB (below_setB (below_setB (below_setB (below_setB (below_setB (below_setB (below_setB HB2.out (Nat.le_refl _) 4 (.bool x0)) (Nat.le_refl _) 5 (.bool x1)) (Nat.le_refl _) 6 (.bool x2)) (Nat.le_refl _) 7 (.bool x3)) (Nat.le_refl _) 8 (.bool x4)) (Nat.le_refl _) 9 (.bool x5)) (Nat.le_refl _) 10 (.bool x6)) (Nat.le_refl _) 11 (.bool x7)) (Nat.le_refl _) 12 (.bool x8)) (Nat.le_refl _) 13 (.bool x9))
      have HR5 := Lib.hid (HO0.out.upto hk5 hlt0)
      have HB5 := Lib.hid (below_self HB0.out hk5)
      clear hk5
      go_wp2_with fail
      refine (refCheckO_any q0 q1 q2 q3 x0 x1 x2 x3 x4 x5 x6 x7 x8 x9 X HX.out _).mono ?_
      rintro e w6 ⟨rfl, hb6⟩
      have hO6 := HO5.out.below hb6
      have hR6 := HR5.out.below hb6
      have HB6 := Lib.hid (below_self HB5.out hb6)
      have HR6 := Lib.hid hR6
      have hl6 := hR6.lt
      clear hb6 HB5 HR5 HO5 HO3 HB2 c0 f0 c1 f1 c2 f2 c3 f3 c4 f4 c5 f5 c6 f6 c7 f7 c8 f8 c9 f9 c10 f10 c11 f11 c12 f12 c13 f13
      have c0 : w6.cell? ⟨W.heap.size, 0, none⟩ = some (.int .i64 q0) := hO6.1 0 _ rfl
      have c1 : w6.cell? ⟨W.heap.size, 1, none⟩ = some (.int .i64 q1) := hO6.1 1 _ rfl
      have c2 : w6.cell? ⟨W.heap.size, 2, none⟩ = some (.int .i64 q2) := hO6.1 2 _ rfl
      have c3 : w6.cell? ⟨W.heap.size, 3, none⟩ = some (.int .i64 q3) := hO6.1 3 _ rfl
      have c4 : w6.cell? ⟨W.heap.size, 4, none⟩ = some (.bool x0) := hO6.1 4 _ rfl
      have c5 : w6.cell? ⟨W.heap.size, 5, none⟩ = some (.bool x1) := hO6.1 5 _ rfl
      have c6 : w6.cell? ⟨W.heap.size, 6, none⟩ = some (.bool x2) := hO6.1 6 _ rfl
      have c7 : w6.cell? ⟨W.heap.size, 7, none⟩ = some (.bool x3) := hO6.1 7 _ rfl
      have c8 : w6.cell? ⟨W.heap.size, 8, none⟩ = some (.bool x4) := hO6.1 8 _ rfl
      have c9 : w6.cell? ⟨W.heap.size, 9, none⟩ = some (.bool x5) := hO6.1 9 _ rfl
      have c10 : w6.cell? ⟨W.heap.size, 10, none⟩ = some (.bool x6) := hO6.1 10 _ rfl
      have c11 : w6.cell? ⟨W.heap.size, 11, none⟩ = some (.bool x7) := hO6.1 11 _ rfl
      have c12 : w6.cell? ⟨W.heap.size, 12, none⟩ = some (.bool x8) := hO6.1 12 _ rfl
      have c13 : w6.cell? ⟨W.heap.size, 13, none⟩ = some (.bool x9) := hO6.1 13 _ rfl
      have r0 : w6.cell? ⟨w.heap.size, 0, none⟩ = some (.int .i64 0) := hR6.1 0 _ rfl
      have f0 := hR6.2 0
      have r1 : w6.cell? ⟨w.heap.size, 1, none⟩ = some (.int .i64 0) := hR6.1 1 _ rfl
      have f1 := hR6.2 1
      have r2 : w6.cell? ⟨w.heap.size, 2, none⟩ = some (.int .i64 0) := hR6.1 2 _ rfl
      have f2 := hR6.2 2
      have r3 : w6.cell? ⟨w.heap.size, 3, none⟩ = some (.int .i64 0) := hR6.1 3 _ rfl
      have f3 := hR6.2 3
      have r4 : w6.cell? ⟨w.heap.size, 4, none⟩ = some (.bool false) := hR6.1 4 _ rfl
      have f4 := hR6.2 4
      have r5 : w6.cell? ⟨w.heap.size, 5, none⟩ = some (.bool false) := hR6.1 5 _ rfl
      have f5 := hR6.2 5
      have r6 : w6.cell? ⟨w.heap.size, 6, none⟩ = some (.bool false) := hR6.1 6 _ rfl
      have f6 := hR6.2 6
      have r7 : w6.cell? ⟨w.heap.size, 7, none⟩ = some (.bool false) := hR6.1 7 _ rfl
      have f7 := hR6.2 7
      have r8 : w6.cell? ⟨w.heap.size, 8, none⟩ = some (.bool false) := hR6.1 8 _ rfl
      have f8 := hR6.2 8
      have r9 : w6.cell? ⟨w.heap.size, 9, none⟩ = some (.bool false) := hR6.1 9 _ rfl
      have f9 := hR6.2 9
      have r10 : w6.cell? ⟨w.heap.size, 10, none⟩ = some (.bool false) := hR6.1 10 _ rfl
      have f10 := hR6.2 10
      have r11 : w6.cell? ⟨w.heap.size, 11, none⟩ = some (.bool false) := hR6.1 11 _ rfl
      have f11 := hR6.2 11
      have r12 : w6.cell? ⟨w.heap.size, 12, none⟩ = some (.bool false) := hR6.1 12 _ rfl
      have f12 := hR6.2 12
      have r13 : w6.cell? ⟨w.heap.size, 13, none⟩ = some (.bool false) := hR6.1 13 _ rfl
      have f13 := hR6.2 13
      clear hO6 hR6 HX t0 t1 t2 t3 t4 t5 t6 t7 t8 t9 hF1 hF2
      by_cases hx : X = 0
      · have HF := Lib.hid (show R = ⟨q0, q1, q2, q3, x0, x1, x2, x3, x4, x5, x6, x7, x8, x9⟩ ∧ E = 0 by
          have := HE.out
          rw [if_pos hx] at this
          injection this with e1 e2
          exact ⟨e1.symm, e2.symm⟩)
        subst hx
        go_wp2_with fail
        (try simp only [Exit.inBlock, Exit.then])
        refine bodyPost_ret (v := .tuple #[R.val, .int .i64 E]) ?_ rfl ⟨rfl, below_stored ⟨q0, q1, q2, q3, x0, x1, x2, x3, x4, x5, x6, x7, x8, x9⟩ (Nat.le_refl _) HB6.out⟩
        rw [HF.out.1, HF.out.2]
        exact res_opt rfl _ _ w.heap.size ⟨q0, q1, q2, q3, x0, x1, x2, x3, x4, x5, x6, x7, x8, x9⟩ _ rfl rfl (HR6.out.stored ⟨q0, q1, q2, q3, x0, x1, x2, x3, x4, x5, x6, x7, x8, x9⟩)
      · have HF := Lib.hid (show R = Opt.zero ∧ E = X by
          have := HE.out
          rw [if_neg hx] at this
          injection this with e1 e2
          exact ⟨e1.symm, e2.symm⟩)
        have g1 : (X != 0) = true := by simp [hx]
        clear hx c0 c1 c2 c3 c4 c5 c6 c7 c8 c9 c10 c11 c12 c13
        go_wp2_with fail
        (try simp only [Exit.inBlock, Exit.then])
        refine bodyPost_ret (v := .tuple #[R.val, .int .i64 E]) ?_ rfl ⟨rfl, below_stored Opt.zero (Nat.le_refl _) HB6.out⟩
        rw [HF.out.1, HF.out.2]
        exact res_opt rfl _ _ w.heap.size Opt.zero _ rfl rfl (HR6.out.stored Opt.zero)
end Go.Proofs.YtcdogkabdhbjmaaDoor
