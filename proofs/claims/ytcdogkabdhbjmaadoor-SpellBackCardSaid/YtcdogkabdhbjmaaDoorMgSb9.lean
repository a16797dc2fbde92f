/- Texts of one claim, one behind the other. -/
import Derived.Deep.DeepCutAuto
import Derived.StillTailTactics
import Derived.Test.YtcdogkabdhbjmaaDoorMgSb2
import Derived.Test.YtcdogkabdhbjmaaDoorMgSb5
import Derived.Test.YtcdogkabdhbjmaaDoorMgSb7
import Derived.Test.YtcdogkabdhbjmaaDoorMgSb8
/- Options of a number: the project's Of. -/
namespace Go.Proofs.YtcdogkabdhbjmaaDoor
open Go.RowKit

theorem setK_of (n : Nat) : ({ Opt.zero with d := ((n % 500 % 4 : Nat) : Int), l := ((n % 500 / 4 % 5 : Nat) : Int), t := ((n % 500 / 20 % 5 : Nat) : Int), g := ((n % 500 / 100 % 5 : Nat) : Int) } : Opt).setK (n / 500) 10 = Opt.of n := by
  have e0 : n % 500 % 4 = n % 4 := by omega
  have e1 : n % 500 / 4 % 5 = n / 4 % 5 := by omega
  have e2 : n % 500 / 20 % 5 = n / 20 % 5 := by omega
  have e3 : n % 500 / 100 % 5 = n / 100 % 5 := by omega
  rw [e0, e1, e2, e3]
  rfl
set_option maxRecDepth 100000 in
set_option maxHeartbeats 8000000 in
theorem opOf_any (n : Int) (R : Opt) (E : Int) (hR : Opt.back n = (R, E)) (w : World) (hK : KindsAt w) :
    Calls Tryd.prog 17 #[.int .i64 n] w fun e w' => e = .returned (.tuple #[R.val, .int .i64 E]) ∧ Below w.heap.size w w' := by
  have HR := Lib.hid hR
  have hb0 := below_new w (.cells Opt.zero.cells 23)
  have hO0 := OptAt.new_ w Opt.zero 23
  have hlt0 : w.heap.size < (w.alloc (.cells Opt.zero.cells 23)).heap.size := by simp
  have HG := Lib.hid (show 1 < w.heap.size from cell_lt hK.1)
  have HK := Lib.hid (hK.below hb0)
  clear hR hK
  have HB0 := Lib.hid hb0
  obtain ⟨W, hW⟩ : ∃ W, w.alloc (.cells Opt.zero.cells 23) = W := ⟨_, rfl⟩
  rw [hW] at HB0 HK hO0 hlt0
  have hW' : w.alloc (.cells #[.int .i64 0, .int .i64 0, .int .i64 0, .int .i64 0, .bool false, .bool false, .bool false, .bool false, .bool false, .bool false, .bool false, .bool false, .bool false, .bool false] 23) = W := hW
  obtain ⟨r, hr⟩ : ∃ r, w.heap.size = r := ⟨_, rfl⟩
  have HO0 := Lib.hid hO0
  have c0 : W.cell? ⟨w.heap.size, 0, none⟩ = some (.int .i64 0) := hO0.1 0 _ rfl
  have f0 := hO0.2 0
  have c1 : W.cell? ⟨w.heap.size, 1, none⟩ = some (.int .i64 0) := hO0.1 1 _ rfl
  have f1 := hO0.2 1
  have c2 : W.cell? ⟨w.heap.size, 2, none⟩ = some (.int .i64 0) := hO0.1 2 _ rfl
  have f2 := hO0.2 2
  have c3 : W.cell? ⟨w.heap.size, 3, none⟩ = some (.int .i64 0) := hO0.1 3 _ rfl
  have f3 := hO0.2 3
  have c4 : W.cell? ⟨w.heap.size, 4, none⟩ = some (.bool false) := hO0.1 4 _ rfl
  have f4 := hO0.2 4
  have c5 : W.cell? ⟨w.heap.size, 5, none⟩ = some (.bool false) := hO0.1 5 _ rfl
  have f5 := hO0.2 5
  have c6 : W.cell? ⟨w.heap.size, 6, none⟩ = some (.bool false) := hO0.1 6 _ rfl
  have f6 := hO0.2 6
  have c7 : W.cell? ⟨w.heap.size, 7, none⟩ = some (.bool false) := hO0.1 7 _ rfl
  have f7 := hO0.2 7
  have c8 : W.cell? ⟨w.heap.size, 8, none⟩ = some (.bool false) := hO0.1 8 _ rfl
  have f8 := hO0.2 8
  have c9 : W.cell? ⟨w.heap.size, 9, none⟩ = some (.bool false) := hO0.1 9 _ rfl
  have f9 := hO0.2 9
  have c10 : W.cell? ⟨w.heap.size, 10, none⟩ = some (.bool false) := hO0.1 10 _ rfl
  have f10 := hO0.2 10
  have c11 : W.cell? ⟨w.heap.size, 11, none⟩ = some (.bool false) := hO0.1 11 _ rfl
  have f11 := hO0.2 11
  have c12 : W.cell? ⟨w.heap.size, 12, none⟩ = some (.bool false) := hO0.1 12 _ rfl
  have f12 := hO0.2 12
  have c13 : W.cell? ⟨w.heap.size, 13, none⟩ = some (.bool false) := hO0.1 13 _ rfl
  have f13 := hO0.2 13
  clear hb0 hW hr hO0
  by_cases hlo : n < 0
  · have HE := Lib.hid (show R = Opt.zero ∧ E = 1 by
      have := HR.out
      unfold Opt.back at this
      rw [if_pos (.inl hlo)] at this
      injection this with e1 e2
      exact ⟨e1.symm, e2.symm⟩)
    go_enter Tryd.func17, Tryd.ntmps17
    go_wp2_with fail
    (try simp only [Exit.inBlock, Exit.then])
    refine bodyPost_ret (v := .tuple #[R.val, .int .i64 E]) ?_ rfl ⟨rfl, below_stored Opt.zero (Nat.le_refl _) HB0.out⟩
    rw [HE.out.1, HE.out.2]
    exact res_opt rfl _ _ w.heap.size Opt.zero _ rfl rfl (HO0.out.stored Opt.zero)
  · by_cases hhi : 511999 < n
    · have HE := Lib.hid (show R = Opt.zero ∧ E = 1 by
        have := HR.out
        unfold Opt.back at this
        rw [if_pos (.inr hhi)] at this
        injection this with e1 e2
        exact ⟨e1.symm, e2.symm⟩)
      go_enter Tryd.func17, Tryd.ntmps17
      go_wp2_with fail
      (try simp only [Exit.inBlock, Exit.then])
      refine bodyPost_ret (v := .tuple #[R.val, .int .i64 E]) ?_ rfl ⟨rfl, below_stored Opt.zero (Nat.le_refl _) HB0.out⟩
      rw [HE.out.1, HE.out.2]
      exact res_opt rfl _ _ w.heap.size Opt.zero _ rfl rfl (HO0.out.stored Opt.zero)
    · obtain ⟨m, rfl⟩ : ∃ m : Nat, n = m := ⟨n.toNat, by omega⟩
      have HE := Lib.hid (show (if (Opt.of m).err = 0 then (Opt.of m, (0 : Int)) else (Opt.zero, (Opt.of m).err)) = (R, E) by
        have := HR.out
        unfold Opt.back at this
        rw [if_neg (by omega), Int.toNat_natCast] at this
        exact this)
      have hm : m < 512000 := by omega
      clear HR hlo hhi c0 c1 c2 c3 c4 c5 c6 c7 c8 c9 c10 c11 c12 c13 f0 f1 f2 f3 f4 f5 f6 f7 f8 f9 f10 f11 f12 f13
      obtain ⟨W2, hW2⟩ : ∃ W2, W.alloc (.cells Opt.zero.cells 23) = W2 := ⟨_, rfl⟩
      have hW2' : W.alloc (.cells #[.int .i64 0, .int .i64 0, .int .i64 0, .int .i64 0, .bool false, .bool false, .bool false, .bool false, .bool false, .bool false, .bool false, .bool false, .bool false, .bool false] 23) = W2 := hW2
      have HO := Lib.hid (OptAt.new_ W Opt.zero 23)
      have hb2 := below_new W (.cells Opt.zero.cells 23)
      rw [hW2] at HO hb2
      clear hW2
      have HK2 := Lib.hid (HK.out.below hb2)
      have HB2 := Lib.hid (below_self HB0.out hb2)
      have HR2 := Lib.hid (HO0.out.below hb2)
      clear hb2 HO0 HK
      obtain ⟨q0, h0⟩ : ∃ q, ((m % 500 % 4 : Nat) : Int) = q := ⟨_, rfl⟩
      obtain ⟨q1, h1⟩ : ∃ q, ((m % 500 / 4 % 5 : Nat) : Int) = q := ⟨_, rfl⟩
      obtain ⟨q2, h2⟩ : ∃ q, ((m % 500 / 20 % 5 : Nat) : Int) = q := ⟨_, rfl⟩
      obtain ⟨q3, h3⟩ : ∃ q, ((m % 500 / 100 % 5 : Nat) : Int) = q := ⟨_, rfl⟩
      have HSK := Lib.hid (setK_of m)
      rw [h0, h1, h2, h3] at HSK
      have HNB := Lib.hid (opNumbered_any (m % 500) (by omega) q0 q1 q2 q3 ⟨h0, h1, h2, h3⟩ W2 HK2.out)
      clear h0 h1 h2 h3
      go_enter Tryd.func17, Tryd.ntmps17
      go_wp2_with fail
      clear hW2'
      refine HNB.out.mono ?_
      rintro e w3 ⟨rfl, hb3⟩
      have HO3 := Lib.hid (HO.out.below hb3)
      have HK3 := Lib.hid (HK2.out.below hb3)
      have HB3 := Lib.hid (below_self HB2.out hb3)
      have HR3 := Lib.hid (HR2.out.below hb3)
      clear hb3 HO HB2 HR2 HNB
      go_wp2_with fail
      refine (opPut_any q0 q1 q2 q3 W.heap.size Opt.zero w3 HO3.out).mono ?_
      rintro e w4 ⟨rfl, hO4, hf4⟩
      have hgl : 1 < w.heap.size := HG.out
      have hBl : w.heap.size < W.heap.size := hlt0
      have hk4 := hf4 W.heap.size w3 (Nat.le_refl _) (by have := HO3.out.lt; omega) (Below.refl _ _)
      have HK4 := Lib.hid (HK3.out.upto hk4 (by omega))
      have HR4 := Lib.hid (HR3.out.upto hk4 (by omega))
      have HB4 := Lib.hid (hf4 w.heap.size w (by omega) (by have := HO3.out.lt; omega) HB3.out)
      have HO4 := Lib.hid hO4
      clear hO4 hf4 hk4 HB3 HR3 HK3 HO3
      go_wp2_with fail
      refine (opPutBits_any W.heap.size _ (m / 500) (by omega) w4 HO4.out).mono ?_
      rintro e w5 ⟨rfl, hO5, hf5⟩
      have hk5 := hf5 W.heap.size w4 (Nat.le_refl _) (by have := HO4.out.lt; omega) (Below.refl _ _)
      have HK5 := Lib.hid (HK4.out.upto hk5 (by omega))
      have HR5 := Lib.hid (HR4.out.upto hk5 (by omega))
      have HB5 := Lib.hid (hf5 w.heap.size w (by omega) (by have := HO4.out.lt; omega) HB4.out)
      rw [HSK.out] at hO5
      obtain ⟨X, hX⟩ : ∃ X, (Opt.of m).err = X := ⟨_, rfl⟩
      rw [hX] at HE
      obtain ⟨O, hOe⟩ : ∃ O, Opt.of m = O := ⟨_, rfl⟩
      rw [hOe] at hX hO5 HE
      clear hOe HSK
      obtain ⟨d, l, t, g, b0, b1, b2, b3, b4, b5, b6, b7, b8, b9⟩ := O
      have HCK := Lib.hid (opCheck_any d l t g b0 b1 b2 b3 b4 b5 b6 b7 b8 b9 X hX w5 HK5.out)
      have HO5 := Lib.hid hO5
      have c0 : w5.cell? ⟨W.heap.size, 0, none⟩ = some (.int .i64 d) := hO5.1 0 _ rfl
      have c1 : w5.cell? ⟨W.heap.size, 1, none⟩ = some (.int .i64 l) := hO5.1 1 _ rfl
      have c2 : w5.cell? ⟨W.heap.size, 2, none⟩ = some (.int .i64 t) := hO5.1 2 _ rfl
      have c3 : w5.cell? ⟨W.heap.size, 3, none⟩ = some (.int .i64 g) := hO5.1 3 _ rfl
      have c4 : w5.cell? ⟨W.heap.size, 4, none⟩ = some (.bool b0) := hO5.1 4 _ rfl
      have c5 : w5.cell? ⟨W.heap.size, 5, none⟩ = some (.bool b1) := hO5.1 5 _ rfl
      have c6 : w5.cell? ⟨W.heap.size, 6, none⟩ = some (.bool b2) := hO5.1 6 _ rfl
      have c7 : w5.cell? ⟨W.heap.size, 7, none⟩ = some (.bool b3) := hO5.1 7 _ rfl
      have c8 : w5.cell? ⟨W.heap.size, 8, none⟩ = some (.bool b4) := hO5.1 8 _ rfl
      have c9 : w5.cell? ⟨W.heap.size, 9, none⟩ = some (.bool b5) := hO5.1 9 _ rfl
      have c10 : w5.cell? ⟨W.heap.size, 10, none⟩ = some (.bool b6) := hO5.1 10 _ rfl
      have c11 : w5.cell? ⟨W.heap.size, 11, none⟩ = some (.bool b7) := hO5.1 11 _ rfl
      have c12 : w5.cell? ⟨W.heap.size, 12, none⟩ = some (.bool b8) := hO5.1 12 _ rfl
      have c13 : w5.cell? ⟨W.heap.size, 13, none⟩ = some (.bool b9) := hO5.1 13 _ rfl
      clear hO5 hf5 hk5 HB4 HR4 HK4 HO4 hX
      go_wp2_with fail
      refine HCK.out.mono ?_
      rintro e w6 ⟨rfl, hb6⟩
      have hO6 := HO5.out.below hb6
      have hR6 := HR5.out.below hb6
      have HB6 := Lib.hid (below_self HB5.out hb6)
      have HR6 := Lib.hid hR6
      have hl6 := hR6.lt
      clear c0 c1 c2 c3 c4 c5 c6 c7 c8 c9 c10 c11 c12 c13
      have c0 : w6.cell? ⟨W.heap.size, 0, none⟩ = some (.int .i64 d) := hO6.1 0 _ rfl
      have c1 : w6.cell? ⟨W.heap.size, 1, none⟩ = some (.int .i64 l) := hO6.1 1 _ rfl
      have c2 : w6.cell? ⟨W.heap.size, 2, none⟩ = some (.int .i64 t) := hO6.1 2 _ rfl
      have c3 : w6.cell? ⟨W.heap.size, 3, none⟩ = some (.int .i64 g) := hO6.1 3 _ rfl
      have c4 : w6.cell? ⟨W.heap.size, 4, none⟩ = some (.bool b0) := hO6.1 4 _ rfl
      have c5 : w6.cell? ⟨W.heap.size, 5, none⟩ = some (.bool b1) := hO6.1 5 _ rfl
      have c6 : w6.cell? ⟨W.heap.size, 6, none⟩ = some (.bool b2) := hO6.1 6 _ rfl
      have c7 : w6.cell? ⟨W.heap.size, 7, none⟩ = some (.bool b3) := hO6.1 7 _ rfl
      have c8 : w6.cell? ⟨W.heap.size, 8, none⟩ = some (.bool b4) := hO6.1 8 _ rfl
      have c9 : w6.cell? ⟨W.heap.size, 9, none⟩ = some (.bool b5) := hO6.1 9 _ rfl
      have c10 : w6.cell? ⟨W.heap.size, 10, none⟩ = some (.bool b6) := hO6.1 10 _ rfl
      have c11 : w6.cell? ⟨W.heap.size, 11, none⟩ = some (.bool b7) := hO6.1 11 _ rfl
      have c12 : w6.cell? ⟨W.heap.size, 12, none⟩ = some (.bool b8) := hO6.1 12 _ rfl
      have c13 : w6.cell? ⟨W.heap.size, 13, none⟩ = some (.bool b9) := hO6.1 13 _ rfl
      have r0 : w6.cell? ⟨w.heap.size, 0, none⟩ = some (.int .i64 0) := hR6.1 0 _ rfl
      have f0 := hR6.2 0
      have r1 : w6.cell? ⟨w.heap.size, 1, none⟩ = some (.int .i64 0) := hR6.1 1 _ rfl
      have f1 := hR6.2 1
      have r2 : w6.cell? ⟨w.heap.size, 2, none⟩ = some (.int .i64 0) := hR6.1 2 _ rfl
      have f2 := hR6.2 2
      have r3 : w6.cell? ⟨w.heap.size, 3, none⟩ = some (.int .i64 0) := hR6.1 3 _ rfl
      have f3 := hR6.2 3
      have r4 : w6.cell? ⟨w.heap.size, 4, none⟩ = some (.bool false) := hR6.1 4 _ rfl
      have f4 := hR6.2 4
      have r5 : w6.cell? ⟨w.heap.size, 5, none⟩ = some (.bool false) := hR6.1 5 _ rfl
      have f5 := hR6.2 5
      have r6 : w6.cell? ⟨w.heap.size, 6, none⟩ = some (.bool false) := hR6.1 6 _ rfl
      have f6 := hR6.2 6
      have r7 : w6.cell? ⟨w.heap.size, 7, none⟩ = some (.bool false) := hR6.1 7 _ rfl
      have f7 := hR6.2 7
      have r8 : w6.cell? ⟨w.heap.size, 8, none⟩ = some (.bool false) := hR6.1 8 _ rfl
      have f8 := hR6.2 8
      have r9 : w6.cell? ⟨w.heap.size, 9, none⟩ = some (.bool false) := hR6.1 9 _ rfl
      have f9 := hR6.2 9
      have r10 : w6.cell? ⟨w.heap.size, 10, none⟩ = some (.bool false) := hR6.1 10 _ rfl
      have f10 := hR6.2 10
      have r11 : w6.cell? ⟨w.heap.size, 11, none⟩ = some (.bool false) := hR6.1 11 _ rfl
      have f11 := hR6.2 11
      have r12 : w6.cell? ⟨w.heap.size, 12, none⟩ = some (.bool false) := hR6.1 12 _ rfl
      have f12 := hR6.2 12
      have r13 : w6.cell? ⟨w.heap.size, 13, none⟩ = some (.bool false) := hR6.1 13 _ rfl
      have f13 := hR6.2 13
      clear hb6 hO6 hR6 HO5 HR5 HB5 HCK
      by_cases hx : X = 0
      · have HF := Lib.hid (show R = ⟨d, l, t, g, b0, b1, b2, b3, b4, b5, b6, b7, b8, b9⟩ ∧ E = 0 by
          have := HE.out
          rw [if_pos hx] at this
          injection this with e1 e2
          exact ⟨e1.symm, e2.symm⟩)
        subst hx
        go_wp2_with fail
        (try simp only [Exit.inBlock, Exit.then])
        refine bodyPost_ret (v := .tuple #[R.val, .int .i64 E]) ?_ rfl ⟨rfl, below_stored ⟨d, l, t, g, b0, b1, b2, b3, b4, b5, b6, b7, b8, b9⟩ (Nat.le_refl _) HB6.out⟩
        rw [HF.out.1, HF.out.2]
        exact res_opt rfl _ _ w.heap.size ⟨d, l, t, g, b0, b1, b2, b3, b4, b5, b6, b7, b8, b9⟩ _ rfl rfl (HR6.out.stored ⟨d, l, t, g, b0, b1, b2, b3, b4, b5, b6, b7, b8, b9⟩)
      · have HF := Lib.hid (show R = Opt.zero ∧ E = X by
          have := HE.out
          rw [if_neg hx] at this
          injection this with e1 e2
          exact ⟨e1.symm, e2.symm⟩)
        have g1 : (X != 0) = true := by simp [hx]
        clear hx c0 c1 c2 c3 c4 c5 c6 c7 c8 c9 c10 c11 c12 c13
        go_wp2_with fail
        (try simp only [Exit.inBlock, Exit.then])
        refine bodyPost_ret (v := .tuple #[R.val, .int .i64 E]) ?_ rfl ⟨rfl, below_stored Opt.zero (Nat.le_refl _) HB6.out⟩
        rw [HF.out.1, HF.out.2]
        exact res_opt rfl _ _ w.heap.size Opt.zero _ rfl rfl (HR6.out.stored Opt.zero)
end Go.Proofs.YtcdogkabdhbjmaaDoor
/- Options of a number: the reference's Of. -/
namespace Go.Proofs.YtcdogkabdhbjmaaDoor
open Go.RowKit

theorem bit_int (m k : Nat) : ((m : Int) / 500 / ((2 ^ k : Nat) : Int) % 2 == 1) = decide (m / 500 / 2 ^ k % 2 = 1) := by
  generalize 2 ^ k = p
  rw [Bool.eq_iff_iff]
  simp only [beq_iff_eq, decide_eq_true_eq]
  have : ((m / 500 / p % 2 : Nat) : Int) = (m : Int) / 500 / (p : Int) % 2 := by simp
  omega
set_option maxRecDepth 100000 in
set_option maxHeartbeats 8000000 in
theorem refOf_any (n : Int) (R : Opt) (E : Int) (hR : Opt.back n = (R, E)) (w : World) :
    Calls Tryd.prog 18 #[.int .i64 n] w fun e w' => e = .returned (.tuple #[R.val, .int .i64 E]) ∧ Below w.heap.size w w' := by
  have HR := Lib.hid hR
  have hb0 := below_new w (.cells Opt.zero.cells 23)
  have hO0 := OptAt.new_ w Opt.zero 23
  have hlt0 : w.heap.size < (w.alloc (.cells Opt.zero.cells 23)).heap.size := by simp
  clear hR
  have HB0 := Lib.hid hb0
  obtain ⟨W, hW⟩ : ∃ W, w.alloc (.cells Opt.zero.cells 23) = W := ⟨_, rfl⟩
  rw [hW] at HB0 hO0 hlt0
  have hW' : w.alloc (.cells #[.int .i64 0, .int .i64 0, .int .i64 0, .int .i64 0, .bool false, .bool false, .bool false, .bool false, .bool false, .bool false, .bool false, .bool false, .bool false, .bool false] 23) = W := hW
  obtain ⟨r, hr⟩ : ∃ r, w.heap.size = r := ⟨_, rfl⟩
  have HO0 := Lib.hid hO0
  have c0 : W.cell? ⟨w.heap.size, 0, none⟩ = some (.int .i64 0) := hO0.1 0 _ rfl
  have f0 := hO0.2 0
  have c1 : W.cell? ⟨w.heap.size, 1, none⟩ = some (.int .i64 0) := hO0.1 1 _ rfl
  have f1 := hO0.2 1
  have c2 : W.cell? ⟨w.heap.size, 2, none⟩ = some (.int .i64 0) := hO0.1 2 _ rfl
  have f2 := hO0.2 2
  have c3 : W.cell? ⟨w.heap.size, 3, none⟩ = some (.int .i64 0) := hO0.1 3 _ rfl
  have f3 := hO0.2 3
  have c4 : W.cell? ⟨w.heap.size, 4, none⟩ = some (.bool false) := hO0.1 4 _ rfl
  have f4 := hO0.2 4
  have c5 : W.cell? ⟨w.heap.size, 5, none⟩ = some (.bool false) := hO0.1 5 _ rfl
  have f5 := hO0.2 5
  have c6 : W.cell? ⟨w.heap.size, 6, none⟩ = some (.bool false) := hO0.1 6 _ rfl
  have f6 := hO0.2 6
  have c7 : W.cell? ⟨w.heap.size, 7, none⟩ = some (.bool false) := hO0.1 7 _ rfl
  have f7 := hO0.2 7
  have c8 : W.cell? ⟨w.heap.size, 8, none⟩ = some (.bool false) := hO0.1 8 _ rfl
  have f8 := hO0.2 8
  have c9 : W.cell? ⟨w.heap.size, 9, none⟩ = some (.bool false) := hO0.1 9 _ rfl
  have f9 := hO0.2 9
  have c10 : W.cell? ⟨w.heap.size, 10, none⟩ = some (.bool false) := hO0.1 10 _ rfl
  have f10 := hO0.2 10
  have c11 : W.cell? ⟨w.heap.size, 11, none⟩ = some (.bool false) := hO0.1 11 _ rfl
  have f11 := hO0.2 11
  have c12 : W.cell? ⟨w.heap.size, 12, none⟩ = some (.bool false) := hO0.1 12 _ rfl
  have f12 := hO0.2 12
  have c13 : W.cell? ⟨w.heap.size, 13, none⟩ = some (.bool false) := hO0.1 13 _ rfl
  have f13 := hO0.2 13
  clear hb0 hW hr hO0
  have HIN := Lib.hid (fun y hy => refIn_y n 511999 y hy W)
  by_cases hlo : n < 0
  · have HE := Lib.hid (show R = Opt.zero ∧ E = 1 by
      have := HR.out
      unfold Opt.back at this
      rw [if_pos (.inl hlo)] at this
      injection this with e1 e2
      exact ⟨e1.symm, e2.symm⟩)
    go_enter Tryd.func18, Tryd.ntmps18
    have C := HIN.out false (decide_eq_false (by omega))
    go_wp2_with fail
    refine C.mono ?_
    rintro e w1 ⟨rfl, rfl⟩
    go_wp2_with fail
    (try simp only [Exit.inBlock, Exit.then])
    refine bodyPost_ret (v := .tuple #[R.val, .int .i64 E]) ?_ rfl ⟨rfl, below_stored Opt.zero (Nat.le_refl _) HB0.out⟩
    rw [HE.out.1, HE.out.2]
    exact res_opt rfl _ _ w.heap.size Opt.zero _ rfl rfl (HO0.out.stored Opt.zero)
  · by_cases hhi : 511999 < n
    · have HE := Lib.hid (show R = Opt.zero ∧ E = 1 by
        have := HR.out
        unfold Opt.back at this
        rw [if_pos (.inr hhi)] at this
        injection this with e1 e2
        exact ⟨e1.symm, e2.symm⟩)
      go_enter Tryd.func18, Tryd.ntmps18
      have C := HIN.out false (decide_eq_false (by omega))
      go_wp2_with fail
      refine C.mono ?_
      rintro e w1 ⟨rfl, rfl⟩
      go_wp2_with fail
      (try simp only [Exit.inBlock, Exit.then])
      refine bodyPost_ret (v := .tuple #[R.val, .int .i64 E]) ?_ rfl ⟨rfl, below_stored Opt.zero (Nat.le_refl _) HB0.out⟩
      rw [HE.out.1, HE.out.2]
      exact res_opt rfl _ _ w.heap.size Opt.zero _ rfl rfl (HO0.out.stored Opt.zero)
    · obtain ⟨m, rfl⟩ : ∃ m : Nat, n = m := ⟨n.toNat, by omega⟩
      have HE := Lib.hid (show (if (Opt.of m).err = 0 then (Opt.of m, (0 : Int)) else (Opt.zero, (Opt.of m).err)) = (R, E) by
        have := HR.out
        unfold Opt.back at this
        rw [if_neg (by omega), Int.toNat_natCast] at this
        exact this)
      have hm : m < 512000 := by omega
      have C := HIN.out true (decide_eq_true (by omega))
      clear HR hlo hhi c0 c1 c2 c3 c4 c5 c6 c7 c8 c9 c10 c11 c12 c13 f0 f1 f2 f3 f4 f5 f6 f7 f8 f9 f10 f11 f12 f13
      go_enter Tryd.func18, Tryd.ntmps18
      go_wp2_with fail
      refine C.mono ?_
      rintro e w1 ⟨rfl, rfl⟩
      clear C hW'
      go_upto_region 5 with fail
      obtain ⟨q0, h0⟩ : ∃ q : Int, (m : Int) % 4 = q := ⟨_, rfl⟩
      obtain ⟨q1, h1⟩ : ∃ q : Int, (m : Int) / 4 % 5 = q := ⟨_, rfl⟩
      obtain ⟨q2, h2⟩ : ∃ q : Int, (m : Int) / 20 % 5 = q := ⟨_, rfl⟩
      obtain ⟨q3, h3⟩ : ∃ q : Int, (m : Int) / 100 % 5 = q := ⟨_, rfl⟩
      obtain ⟨F, hF⟩ : ∃ q : Int, (m : Int) / 500 = q := ⟨_, rfl⟩
      obtain ⟨x0, hx0⟩ : ∃ x, (m / 500).testBit 0 = x := ⟨_, rfl⟩
      have t0 : (F % 2 == 1) = x0 := by rw [← hx0, Nat.testBit_eq_decide_div_mod_eq, ← hF]; have := bit_int m 0; simpa using this
      obtain ⟨x1, hx1⟩ : ∃ x, (m / 500).testBit 1 = x := ⟨_, rfl⟩
      have t1 : (F / 2 % 2 == 1) = x1 := by rw [← hx1, Nat.testBit_eq_decide_div_mod_eq, ← hF]; exact bit_int m 1
      obtain ⟨x2, hx2⟩ : ∃ x, (m / 500).testBit 2 = x := ⟨_, rfl⟩
      have t2 : (F / 4 % 2 == 1) = x2 := by rw [← hx2, Nat.testBit_eq_decide_div_mod_eq, ← hF]; exact bit_int m 2
      obtain ⟨x3, hx3⟩ : ∃ x, (m / 500).testBit 3 = x := ⟨_, rfl⟩
      have t3 : (F / 8 % 2 == 1) = x3 := by rw [← hx3, Nat.testBit_eq_decide_div_mod_eq, ← hF]; exact bit_int m 3
      obtain ⟨x4, hx4⟩ : ∃ x, (m / 500).testBit 4 = x := ⟨_, rfl⟩
      have t4 : (F / 16 % 2 == 1) = x4 := by rw [← hx4, Nat.testBit_eq_decide_div_mod_eq, ← hF]; exact bit_int m 4
      obtain ⟨x5, hx5⟩ : ∃ x, (m / 500).testBit 5 = x := ⟨_, rfl⟩
      have t5 : (F / 32 % 2 == 1) = x5 := by rw [← hx5, Nat.testBit_eq_decide_div_mod_eq, ← hF]; exact bit_int m 5
      obtain ⟨x6, hx6⟩ : ∃ x, (m / 500).testBit 6 = x := ⟨_, rfl⟩
      have t6 : (F / 64 % 2 == 1) = x6 := by rw [← hx6, Nat.testBit_eq_decide_div_mod_eq, ← hF]; exact bit_int m 6
      obtain ⟨x7, hx7⟩ : ∃ x, (m / 500).testBit 7 = x := ⟨_, rfl⟩
      have t7 : (F / 128 % 2 == 1) = x7 := by rw [← hx7, Nat.testBit_eq_decide_div_mod_eq, ← hF]; exact bit_int m 7
      obtain ⟨x8, hx8⟩ : ∃ x, (m / 500).testBit 8 = x := ⟨_, rfl⟩
      have t8 : (F / 256 % 2 == 1) = x8 := by rw [← hx8, Nat.testBit_eq_decide_div_mod_eq, ← hF]; exact bit_int m 8
      obtain ⟨x9, hx9⟩ : ∃ x, (m / 500).testBit 9 = x := ⟨_, rfl⟩
      have t9 : (F / 512 % 2 == 1) = x9 := by rw [← hx9, Nat.testBit_eq_decide_div_mod_eq, ← hF]; exact bit_int m 9
      have HOF := Lib.hid (show Opt.of m = ⟨q0, q1, q2, q3, x0, x1, x2, x3, x4, x5, x6, x7, x8, x9⟩ by
        unfold Opt.of
        rw [hx0, hx1, hx2, hx3, hx4, hx5, hx6, hx7, hx8, hx9, ← h0, ← h1, ← h2, ← h3]
        rfl)
      rw [HOF.out] at HE
      obtain ⟨X, hX⟩ : ∃ X, (⟨q0, q1, q2, q3, x0, x1, x2, x3, x4, x5, x6, x7, x8, x9⟩ : Opt).err = X := ⟨_, rfl⟩
      rw [hX] at HE
      have HX := Lib.hid hX
      have hF0 : 0 ≤ F ∧ F ≤ 1023 := by omega
      obtain ⟨hF1, hF2⟩ := hF0
      clear HOF hX hx0 hx1 hx2 hx3 hx4 hx5 hx6 hx7 hx8 hx9
      have HO2 := Lib.hid (OptAt.new_ W ⟨q0, q1, q2, q3, false, false, false, false, false, false, false, false, false, false⟩ 23)
      obtain ⟨W2, hW2⟩ : ∃ W2, W.alloc (.cells #[.int .i64 q0, .int .i64 q1, .int .i64 q2, .int .i64 q3, .bool false, .bool false, .bool false, .bool false, .bool false, .bool false, .bool false, .bool false, .bool false, .bool false] 23) = W2 := ⟨_, rfl⟩
      have hb2 := below_new W (.cells #[.int .i64 q0, .int .i64 q1, .int .i64 q2, .int .i64 q3, .bool false, .bool false, .bool false, .bool false, .bool false, .bool false, .bool false, .bool false, .bool false, .bool false] 23)
      have hO2' : OptAt W2 W.heap.size ⟨q0, q1, q2, q3, false, false, false, false, false, false, false, false, false, false⟩ := by rw [← hW2]; exact HO2.out
      rw [hW2] at hb2
      have HB2 := Lib.hid hb2
      have HO3 := Lib.hid hO2'
      simp only [h0, h1, h2, h3, hF, hW2]
      clear h0 h1 h2 h3 hF hW2 HO2 hb2
      have c0 : W2.cell? ⟨W.heap.size, 0, none⟩ = some (.int .i64 q0) := hO2'.1 0 _ rfl
      have f0 := hO2'.2 0
      have c1 : W2.cell? ⟨W.heap.size, 1, none⟩ = some (.int .i64 q1) := hO2'.1 1 _ rfl
      have f1 := hO2'.2 1
      have c2 : W2.cell? ⟨W.heap.size, 2, none⟩ = some (.int .i64 q2) := hO2'.1 2 _ rfl
      have f2 := hO2'.2 2
      have c3 : W2.cell? ⟨W.heap.size, 3, none⟩ = some (.int .i64 q3) := hO2'.1 3 _ rfl
      have f3 := hO2'.2 3
      have c4 : W2.cell? ⟨W.heap.size, 4, none⟩ = some (.bool false) := hO2'.1 4 _ rfl
      have f4 := hO2'.2 4
      have c5 : W2.cell? ⟨W.heap.size, 5, none⟩ = some (.bool false) := hO2'.1 5 _ rfl
      have f5 := hO2'.2 5
      have c6 : W2.cell? ⟨W.heap.size, 6, none⟩ = some (.bool false) := hO2'.1 6 _ rfl
      have f6 := hO2'.2 6
      have c7 : W2.cell? ⟨W.heap.size, 7, none⟩ = some (.bool false) := hO2'.1 7 _ rfl
      have f7 := hO2'.2 7
      have c8 : W2.cell? ⟨W.heap.size, 8, none⟩ = some (.bool false) := hO2'.1 8 _ rfl
      have f8 := hO2'.2 8
      have c9 : W2.cell? ⟨W.heap.size, 9, none⟩ = some (.bool false) := hO2'.1 9 _ rfl
      have f9 := hO2'.2 9
      have c10 : W2.cell? ⟨W.heap.size, 10, none⟩ = some (.bool false) := hO2'.1 10 _ rfl
      have f10 := hO2'.2 10
      have c11 : W2.cell? ⟨W.heap.size, 11, none⟩ = some (.bool false) := hO2'.1 11 _ rfl
      have f11 := hO2'.2 11
      have c12 : W2.cell? ⟨W.heap.size, 12, none⟩ = some (.bool false) := hO2'.1 12 _ rfl
      have f12 := hO2'.2 12
      have c13 : W2.cell? ⟨W.heap.size, 13, none⟩ = some (.bool false) := hO2'.1 13 _ rfl
      have f13 := hO2'.2 13
      have hl3 := hO2'.lt
      clear hO2'
      have HO5 := Lib.hid ((((((((((HO3.out.setF0 x0).setF1 x1).setF2 x2).setF3 x3).setF4 x4).setF5 x5).setF6 x6).setF7 x7).setF8 x8).setF9 x9)
      have hk5 := (below_setB (below_setB (below_setB (below_setB (below_setB (below_setB (below_setB (below_setB (below_setB (below_setB HB2.out (Nat.le_refl _) 4 (.bool x0)) (Nat.le_refl _) 5 (.bool x1)) (Nat.le_refl _) 6 (.bool x2)) (Nat.le_refl _) 7 (.bool x3)) (Nat.le_refl _) 8 (.bool x4)) (Nat.le_refl _) 9 (.bool x5)) (Nat.le_refl _) 10 (.bool x6)) (Nat.le_refl _) 11 (.bool x7)) (Nat.le_refl _) 12 (.bool x8)) (Nat.le_refl _) 13 (.bool x9))
      have HR5 := Lib.hid (HO0.out.upto hk5 hlt0)
      have HB5 := Lib.hid (below_self HB0.out hk5)
      clear hk5
      go_wp2_with fail
      refine (refCheckO_any q0 q1 q2 q3 x0 x1 x2 x3 x4 x5 x6 x7 x8 x9 X HX.out _).mono ?_
      rintro e w6 ⟨rfl, hb6⟩
      have hO6 := HO5.out.below hb6
      have hR6 := HR5.out.below hb6
      have HB6 := Lib.hid (below_self HB5.out hb6)
      have HR6 := Lib.hid hR6
      have hl6 := hR6.lt
      clear hb6 HB5 HR5 HO5 HO3 HB2 c0 f0 c1 f1 c2 f2 c3 f3 c4 f4 c5 f5 c6 f6 c7 f7 c8 f8 c9 f9 c10 f10 c11 f11 c12 f12 c13 f13
      have c0 : w6.cell? ⟨W.heap.size, 0, none⟩ = some (.int .i64 q0) := hO6.1 0 _ rfl
      have c1 : w6.cell? ⟨W.heap.size, 1, none⟩ = some (.int .i64 q1) := hO6.1 1 _ rfl
      have c2 : w6.cell? ⟨W.heap.size, 2, none⟩ = some (.int .i64 q2) := hO6.1 2 _ rfl
      have c3 : w6.cell? ⟨W.heap.size, 3, none⟩ = some (.int .i64 q3) := hO6.1 3 _ rfl
      have c4 : w6.cell? ⟨W.heap.size, 4, none⟩ = some (.bool x0) := hO6.1 4 _ rfl
      have c5 : w6.cell? ⟨W.heap.size, 5, none⟩ = some (.bool x1) := hO6.1 5 _ rfl
      have c6 : w6.cell? ⟨W.heap.size, 6, none⟩ = some (.bool x2) := hO6.1 6 _ rfl
      have c7 : w6.cell? ⟨W.heap.size, 7, none⟩ = some (.bool x3) := hO6.1 7 _ rfl
      have c8 : w6.cell? ⟨W.heap.size, 8, none⟩ = some (.bool x4) := hO6.1 8 _ rfl
      have c9 : w6.cell? ⟨W.heap.size, 9, none⟩ = some (.bool x5) := hO6.1 9 _ rfl
      have c10 : w6.cell? ⟨W.heap.size, 10, none⟩ = some (.bool x6) := hO6.1 10 _ rfl
      have c11 : w6.cell? ⟨W.heap.size, 11, none⟩ = some (.bool x7) := hO6.1 11 _ rfl
      have c12 : w6.cell? ⟨W.heap.size, 12, none⟩ = some (.bool x8) := hO6.1 12 _ rfl
      have c13 : w6.cell? ⟨W.heap.size, 13, none⟩ = some (.bool x9) := hO6.1 13 _ rfl
      have r0 : w6.cell? ⟨w.heap.size, 0, none⟩ = some (.int .i64 0) := hR6.1 0 _ rfl
      have f0 := hR6.2 0
      have r1 : w6.cell? ⟨w.heap.size, 1, none⟩ = some (.int .i64 0) := hR6.1 1 _ rfl
      have f1 := hR6.2 1
      have r2 : w6.cell? ⟨w.heap.size, 2, none⟩ = some (.int .i64 0) := hR6.1 2 _ rfl
      have f2 := hR6.2 2
      have r3 : w6.cell? ⟨w.heap.size, 3, none⟩ = some (.int .i64 0) := hR6.1 3 _ rfl
      have f3 := hR6.2 3
      have r4 : w6.cell? ⟨w.heap.size, 4, none⟩ = some (.bool false) := hR6.1 4 _ rfl
      have f4 := hR6.2 4
      have r5 : w6.cell? ⟨w.heap.size, 5, none⟩ = some (.bool false) := hR6.1 5 _ rfl
      have f5 := hR6.2 5
      have r6 : w6.cell? ⟨w.heap.size, 6, none⟩ = some (.bool false) := hR6.1 6 _ rfl
      have f6 := hR6.2 6
      have r7 : w6.cell? ⟨w.heap.size, 7, none⟩ = some (.bool false) := hR6.1 7 _ rfl
      have f7 := hR6.2 7
      have r8 : w6.cell? ⟨w.heap.size, 8, none⟩ = some (.bool false) := hR6.1 8 _ rfl
      have f8 := hR6.2 8
      have r9 : w6.cell? ⟨w.heap.size, 9, none⟩ = some (.bool false) := hR6.1 9 _ rfl
      have f9 := hR6.2 9
      have r10 : w6.cell? ⟨w.heap.size, 10, none⟩ = some (.bool false) := hR6.1 10 _ rfl
      have f10 := hR6.2 10
      have r11 : w6.cell? ⟨w.heap.size, 11, none⟩ = some (.bool false) := hR6.1 11 _ rfl
      have f11 := hR6.2 11
      have r12 : w6.cell? ⟨w.heap.size, 12, none⟩ = some (.bool false) := hR6.1 12 _ rfl
      have f12 := hR6.2 12
      have r13 : w6.cell? ⟨w.heap.size, 13, none⟩ = some (.bool false) := hR6.1 13 _ rfl
      have f13 := hR6.2 13
      clear hO6 hR6 HX t0 t1 t2 t3 t4 t5 t6 t7 t8 t9 hF1 hF2
      by_cases hx : X = 0
      · have HF := Lib.hid (show R = ⟨q0, q1, q2, q3, x0, x1, x2, x3, x4, x5, x6, x7, x8, x9⟩ ∧ E = 0 by
          have := HE.out
          rw [if_pos hx] at this
          injection this with e1 e2
          exact ⟨e1.symm, e2.symm⟩)
        subst hx
        go_wp2_with fail
        (try simp only [Exit.inBlock, Exit.then])
        refine bodyPost_ret (v := .tuple #[R.val, .int .i64 E]) ?_ rfl ⟨rfl, below_stored ⟨q0, q1, q2, q3, x0, x1, x2, x3, x4, x5, x6, x7, x8, x9⟩ (Nat.le_refl _) HB6.out⟩
        rw [HF.out.1, HF.out.2]
        exact res_opt rfl _ _ w.heap.size ⟨q0, q1, q2, q3, x0, x1, x2, x3, x4, x5, x6, x7, x8, x9⟩ _ rfl rfl (HR6.out.stored ⟨q0, q1, q2, q3, x0, x1, x2, x3, x4, x5, x6, x7, x8, x9⟩)
      · have HF := Lib.hid (show R = Opt.zero ∧ E = X by
          have := HE.out
          rw [if_neg hx] at this
          injection this with e1 e2
          exact ⟨e1.symm, e2.symm⟩)
        have g1 : (X != 0) = true := by simp [hx]
        clear hx c0 c1 c2 c3 c4 c5 c6 c7 c8 c9 c10 c11 c12 c13
        go_wp2_with fail
        (try simp only [Exit.inBlock, Exit.then])
        refine bodyPost_ret (v := .tuple #[R.val, .int .i64 E]) ?_ rfl ⟨rfl, below_stored Opt.zero (Nat.le_refl _) HB6.out⟩
        rw [HF.out.1, HF.out.2]
        exact res_opt rfl _ _ w.heap.size Opt.zero _ rfl rfl (HR6.out.stored Opt.zero)
end Go.Proofs.YtcdogkabdhbjmaaDoor
/- Options as a number: the project's Bits. -/
namespace Go.Proofs.YtcdogkabdhbjmaaDoor
open Go.RowKit

theorem s14_on {w0 X Y : World} {b : Nat} {d l t g : Int} {b0 b1 b2 b3 b4 b5 b6 b7 b8 b9 : Bool} (h : X.cell? ⟨b, 0, none⟩ = some (.int .i64 d) ∧ X.cell? ⟨b, 1, none⟩ = some (.int .i64 l) ∧ X.cell? ⟨b, 2, none⟩ = some (.int .i64 t) ∧ X.cell? ⟨b, 3, none⟩ = some (.int .i64 g) ∧ X.cell? ⟨b, 4, none⟩ = some (.bool b0) ∧ X.cell? ⟨b, 5, none⟩ = some (.bool b1) ∧ X.cell? ⟨b, 6, none⟩ = some (.bool b2) ∧ X.cell? ⟨b, 7, none⟩ = some (.bool b3) ∧ X.cell? ⟨b, 8, none⟩ = some (.bool b4) ∧ X.cell? ⟨b, 9, none⟩ = some (.bool b5) ∧ X.cell? ⟨b, 10, none⟩ = some (.bool b6) ∧ X.cell? ⟨b, 11, none⟩ = some (.bool b7) ∧ X.cell? ⟨b, 12, none⟩ = some (.bool b8) ∧ X.cell? ⟨b, 13, none⟩ = some (.bool b9) ∧ Below w0.heap.size w0 X) (hb : Below X.heap.size X Y) : Y.cell? ⟨b, 0, none⟩ = some (.int .i64 d) ∧ Y.cell? ⟨b, 1, none⟩ = some (.int .i64 l) ∧ Y.cell? ⟨b, 2, none⟩ = some (.int .i64 t) ∧ Y.cell? ⟨b, 3, none⟩ = some (.int .i64 g) ∧ Y.cell? ⟨b, 4, none⟩ = some (.bool b0) ∧ Y.cell? ⟨b, 5, none⟩ = some (.bool b1) ∧ Y.cell? ⟨b, 6, none⟩ = some (.bool b2) ∧ Y.cell? ⟨b, 7, none⟩ = some (.bool b3) ∧ Y.cell? ⟨b, 8, none⟩ = some (.bool b4) ∧ Y.cell? ⟨b, 9, none⟩ = some (.bool b5) ∧ Y.cell? ⟨b, 10, none⟩ = some (.bool b6) ∧ Y.cell? ⟨b, 11, none⟩ = some (.bool b7) ∧ Y.cell? ⟨b, 12, none⟩ = some (.bool b8) ∧ Y.cell? ⟨b, 13, none⟩ = some (.bool b9) ∧ Below w0.heap.size w0 Y :=
  ⟨cell_below hb h.1, cell_below hb h.2.1, cell_below hb h.2.2.1, cell_below hb h.2.2.2.1, cell_below hb h.2.2.2.2.1, cell_below hb h.2.2.2.2.2.1, cell_below hb h.2.2.2.2.2.2.1, cell_below hb h.2.2.2.2.2.2.2.1, cell_below hb h.2.2.2.2.2.2.2.2.1, cell_below hb h.2.2.2.2.2.2.2.2.2.1, cell_below hb h.2.2.2.2.2.2.2.2.2.2.1, cell_below hb h.2.2.2.2.2.2.2.2.2.2.2.1, cell_below hb h.2.2.2.2.2.2.2.2.2.2.2.2.1, cell_below hb h.2.2.2.2.2.2.2.2.2.2.2.2.2.1, below_self h.2.2.2.2.2.2.2.2.2.2.2.2.2.2 hb⟩
theorem may_of_err {o : Opt} (h : o.err = 0) : 0 ≤ o.d ∧ o.d ≤ 3 ∧ 0 ≤ o.l ∧ o.l ≤ 4 ∧ 0 ≤ o.t ∧ o.t ≤ 4 ∧ 0 ≤ o.g ∧ o.g ≤ 4 := by
  have := Opt.err_zero h
  unfold Opt.may at this
  simpa using this
set_option maxRecDepth 100000 in
set_option maxHeartbeats 8000000 in
theorem opBitsOf_any (d l t g : Int) (b0 b1 b2 b3 b4 b5 b6 b7 b8 b9 : Bool) (N E : Int) (hb : Opt.bits ⟨d, l, t, g, b0, b1, b2, b3, b4, b5, b6, b7, b8, b9⟩ = (N, E)) (w : World) (hK : KindsAt w) :
    Calls Tryd.prog 15 #[.agg #[.int .i64 d, .int .i64 l, .int .i64 t, .int .i64 g, .bool b0, .bool b1, .bool b2, .bool b3, .bool b4, .bool b5, .bool b6, .bool b7, .bool b8, .bool b9]] w fun e w' => e = .returned (.tuple #[.int .i64 N, .int .i64 E]) ∧ Below w.heap.size w w' := by
  obtain ⟨R, hR⟩ : ∃ R, Opt.err ⟨d, l, t, g, b0, b1, b2, b3, b4, b5, b6, b7, b8, b9⟩ = R := ⟨_, rfl⟩
  have HK := Lib.hid hK
  have hb0 := below_new w (.cells (Opt.cells ⟨d, l, t, g, b0, b1, b2, b3, b4, b5, b6, b7, b8, b9⟩) 23)
  have HO := Lib.hid (OptAt.new_ w ⟨d, l, t, g, b0, b1, b2, b3, b4, b5, b6, b7, b8, b9⟩ 23)
  have HCK := Lib.hid (opCheck_any d l t g b0 b1 b2 b3 b4 b5 b6 b7 b8 b9 R hR _ (hK.below hb0))
  have HB0 := Lib.hid hb0
  have HR := Lib.hid hR
  have HBB := Lib.hid hb
  clear hK hb0 hR hb
  go_enter Tryd.func15, Tryd.ntmps15
  go_wp2_with fail
  refine HCK.out.mono ?_
  rintro e w3 ⟨rfl, hb3⟩
  have HO3 := Lib.hid (HO.out.below hb3)
  have hb4 := below_self HB0.out hb3
  have HK3 := Lib.hid (HK.out.below hb4)
  have HB4 := Lib.hid hb4
  clear HCK hb3 hb4 HO HB0
  by_cases h0 : R = 0
  · have hmay := may_of_err (HR.out.trans h0)
    simp only at hmay
    have HMAY := Lib.hid hmay
    obtain ⟨d0, d1, l0, l1, t0, t1, g0, g1⟩ := hmay
    obtain ⟨F, hF⟩ : ∃ F : Nat, Opt.fl ⟨d, l, t, g, b0, b1, b2, b3, b4, b5, b6, b7, b8, b9⟩ = F := ⟨_, rfl⟩
    have hF9 : F < 1024 := by rw [← hF]; exact Opt.fl_lt _
    have hN : N = d + 4 * l + 20 * t + 100 * g + 500 * (F : Int) ∧ E = 0 := by
      have := HBB.out
      unfold Opt.bits at this
      rw [if_pos (HR.out.trans h0)] at this
      injection this with e1 e2
      refine ⟨?_, e2.symm⟩
      rw [← e1, ← hF]
      rfl
    obtain ⟨hN1, rfl⟩ := hN
    have HN := Lib.hid hN1
    have HF := Lib.hid (opBits_any ⟨d, l, t, g, b0, b1, b2, b3, b4, b5, b6, b7, b8, b9⟩)
    simp only [hF] at HF
    subst h0
    have c : ∀ (j : Nat) (u : Value), (Opt.cells ⟨d, l, t, g, b0, b1, b2, b3, b4, b5, b6, b7, b8, b9⟩)[j]? = some u → w3.cell? ⟨w.heap.size, j, none⟩ = some u := HO3.out.1
    have c0 := c 0 _ rfl
    have c1 := c 1 _ rfl
    have c2 := c 2 _ rfl
    have c3 := c 3 _ rfl
    have c4 := c 4 _ rfl
    have c5 := c 5 _ rfl
    have c6 := c 6 _ rfl
    have c7 := c 7 _ rfl
    have c8 := c 8 _ rfl
    have c9 := c 9 _ rfl
    have c10 := c 10 _ rfl
    have c11 := c 11 _ rfl
    have c12 := c 12 _ rfl
    have c13 := c 13 _ rfl
    clear c hN1 hF HBB HR HO3
    go_wp2
    go_region_held3 (fun w' => w'.cell? ⟨w.heap.size, 0, none⟩ = some (.int .i64 d) ∧ w'.cell? ⟨w.heap.size, 1, none⟩ = some (.int .i64 l) ∧ w'.cell? ⟨w.heap.size, 2, none⟩ = some (.int .i64 t) ∧ w'.cell? ⟨w.heap.size, 3, none⟩ = some (.int .i64 g) ∧ w'.cell? ⟨w.heap.size, 4, none⟩ = some (.bool b0) ∧ w'.cell? ⟨w.heap.size, 5, none⟩ = some (.bool b1) ∧ w'.cell? ⟨w.heap.size, 6, none⟩ = some (.bool b2) ∧ w'.cell? ⟨w.heap.size, 7, none⟩ = some (.bool b3) ∧ w'.cell? ⟨w.heap.size, 8, none⟩ = some (.bool b4) ∧ w'.cell? ⟨w.heap.size, 9, none⟩ = some (.bool b5) ∧ w'.cell? ⟨w.heap.size, 10, none⟩ = some (.bool b6) ∧ w'.cell? ⟨w.heap.size, 11, none⟩ = some (.bool b7) ∧ w'.cell? ⟨w.heap.size, 12, none⟩ = some (.bool b8) ∧ w'.cell? ⟨w.heap.size, 13, none⟩ = some (.bool b9) ∧ Below w3.heap.size w3 w')
      (first
        | exact ⟨c0, c1, c2, c3, c4, c5, c6, c7, c8, c9, c10, c11, c12, c13, (Below.refl _ _).drew⟩
        | exact s14_on (by assumption) h1
        | exact s14_on ⟨c0, c1, c2, c3, c4, c5, c6, c7, c8, c9, c10, c11, c12, c13, (Below.refl _ _).drew⟩ h1
        | fail)
      (first
        | (go_at_call 29; with_reducible refine (opKinds_any d l t g b0 b1 b2 b3 b4 b5 b6 b7 b8 b9 _).mono ?_; rintro e w7 ⟨rfl, h1⟩)
        | (go_at_call 33; with_reducible refine (opNumber_any d l t g HMAY.out _ (HK3.out.below (by first | exact (by assumption : _ ∧ _ ∧ _ ∧ _ ∧ _ ∧ _ ∧ _ ∧ _ ∧ _ ∧ _ ∧ _ ∧ _ ∧ _ ∧ _ ∧ Below w3.heap.size w3 _).2.2.2.2.2.2.2.2.2.2.2.2.2.2 | exact (Below.refl _ _).drew))).mono ?_; rintro e w7 ⟨rfl, h1⟩)
        | (go_at_call 34; with_reducible refine (HF.out _).mono ?_; rintro e w7 ⟨rfl, h1⟩)
        | fail)
    all_goals (
      have hfin := (by assumption : _ ∧ _ ∧ _ ∧ _ ∧ _ ∧ _ ∧ _ ∧ _ ∧ _ ∧ _ ∧ _ ∧ _ ∧ _ ∧ _ ∧ Below w3.heap.size w3 _).2.2.2.2.2.2.2.2.2.2.2.2.2.2
      have hbf := below_self HB4.out hfin
      have hw1 : IntKind.i64.wrap (500 * (F : Int)) = 500 * (F : Int) := by rw [IntKind.wrap_i64]; omega
      have hw2 : IntKind.i64.wrap N = N := by rw [HN.out, IntKind.wrap_i64]; omega
      simp only [hw1, ← HN.out, hw2]
      clear hw1 hw2
      go_wp2
      go_ret2
      exact ⟨rfl, hbf⟩)
  · have g1 : (R != 0) = true := by simp [h0]
    have hN : N = 0 ∧ E = R := by
      have := HBB.out
      unfold Opt.bits at this
      rw [if_neg (fun e => h0 (HR.out.symm.trans e)), HR.out] at this
      injection this with e1 e2
      exact ⟨e1.symm, e2.symm⟩
    obtain ⟨rfl, rfl⟩ := hN
    clear h0
    go_wp2
    go_ret2
    exact ⟨rfl, HB4.out⟩
end Go.Proofs.YtcdogkabdhbjmaaDoor
/- The reference's flags and Bits of options. -/
namespace Go.Proofs.YtcdogkabdhbjmaaDoor
open Go.RowKit

set_option maxRecDepth 100000 in
set_option maxHeartbeats 4000000 in
theorem refFlags_any (o : Opt) (w : World) :
    Calls Tryd.prog 35 #[.agg #[.int .i64 o.d, .int .i64 o.l, .int .i64 o.t, .int .i64 o.g, .bool o.b0, .bool o.b1, .bool o.b2, .bool o.b3, .bool o.b4, .bool o.b5, .bool o.b6, .bool o.b7, .bool o.b8, .bool o.b9]] w fun e w' => (∃ g, e = .returned (.slice (some ⟨g, 0, none⟩) 10 10) ∧ Rd w' 1 (some ⟨g, 0, none⟩) 10 (o.flags.map Value.bool)) ∧ Below w.heap.size w w' := by
  obtain ⟨d, l, t, g, b0, b1, b2, b3, b4, b5, b6, b7, b8, b9⟩ := o
  simp only
  go_enter Tryd.func35, Tryd.ntmps35
  go_wp2
  go_ret
  refine ⟨⟨_, rfl, ?_⟩, below_self (below_new _ _) (below_new _ _)⟩
  have := rdBools (w.alloc (.cells #[.int .i64 d, .int .i64 l, .int .i64 t, .int .i64 g, .bool b0, .bool b1, .bool b2, .bool b3, .bool b4, .bool b5, .bool b6, .bool b7, .bool b8, .bool b9] 23)) [b0, b1, b2, b3, b4, b5, b6, b7, b8, b9] 4
  simpa [Opt.flags] using this
end Go.Proofs.YtcdogkabdhbjmaaDoor
/- The reference's Bits of options. -/
namespace Go.Proofs.YtcdogkabdhbjmaaDoor
open Go.RowKit

set_option maxRecDepth 100000 in
set_option maxHeartbeats 8000000 in
theorem refBits_any (d l t g : Int) (b0 b1 b2 b3 b4 b5 b6 b7 b8 b9 : Bool) (N E : Int) (hb : Opt.bits ⟨d, l, t, g, b0, b1, b2, b3, b4, b5, b6, b7, b8, b9⟩ = (N, E)) (w : World) :
    Calls Tryd.prog 16 #[.agg #[.int .i64 d, .int .i64 l, .int .i64 t, .int .i64 g, .bool b0, .bool b1, .bool b2, .bool b3, .bool b4, .bool b5, .bool b6, .bool b7, .bool b8, .bool b9]] w fun e w' => e = .returned (.tuple #[.int .i64 N, .int .i64 E]) ∧ Below w.heap.size w w' := by
  obtain ⟨R, hR⟩ : ∃ R, Opt.err ⟨d, l, t, g, b0, b1, b2, b3, b4, b5, b6, b7, b8, b9⟩ = R := ⟨_, rfl⟩
  have hb0 := below_new w (.cells (Opt.cells ⟨d, l, t, g, b0, b1, b2, b3, b4, b5, b6, b7, b8, b9⟩) 23)
  have HO := Lib.hid (OptAt.new_ w ⟨d, l, t, g, b0, b1, b2, b3, b4, b5, b6, b7, b8, b9⟩ 23)
  have HCK := Lib.hid (refCheckO_any d l t g b0 b1 b2 b3 b4 b5 b6 b7 b8 b9 R hR (w.alloc (.cells (Opt.cells ⟨d, l, t, g, b0, b1, b2, b3, b4, b5, b6, b7, b8, b9⟩) 23)))
  have HB0 := Lib.hid hb0
  have HR := Lib.hid hR
  have HBB := Lib.hid hb
  clear hb0 hR hb
  go_enter Tryd.func16, Tryd.ntmps16
  go_wp2_with fail
  refine HCK.out.mono ?_
  rintro e w3 ⟨rfl, hb3⟩
  have HO3 := Lib.hid (HO.out.below hb3)
  have HB4 := Lib.hid (below_self HB0.out hb3)
  clear HCK hb3 HO HB0
  by_cases h0 : R = 0
  · have hmay := may_of_err (HR.out.trans h0)
    simp only at hmay
    obtain ⟨d0, d1, l0, l1, t0, t1, g0, g1⟩ := hmay
    obtain ⟨Q, hQ⟩ : ∃ Q : Int, d + 4 * l + 20 * t + 100 * g = Q := ⟨_, rfl⟩
    have hQ1 : 0 ≤ Q ∧ Q ≤ 499 := by omega
    obtain ⟨fs, hfs⟩ : ∃ fs, Opt.flags ⟨d, l, t, g, b0, b1, b2, b3, b4, b5, b6, b7, b8, b9⟩ = fs := ⟨_, rfl⟩
    have hFL : fs.length = 10 := by rw [← hfs]; rfl
    have hN : N = Q + 500 * (Opt.low fs : Nat) ∧ E = 0 := by
      have := HBB.out
      unfold Opt.bits at this
      rw [if_pos (HR.out.trans h0)] at this
      injection this with e1 e2
      refine ⟨?_, e2.symm⟩
      rw [← e1, ← hQ, ← hfs]
      rfl
    obtain ⟨hN1, rfl⟩ := hN
    have HN := Lib.hid hN1
    have HFL := Lib.hid hFL
    have HF := Lib.hid (refFlags_any ⟨d, l, t, g, b0, b1, b2, b3, b4, b5, b6, b7, b8, b9⟩ w3)
    rw [hfs] at HF
    subst h0
    have c : ∀ (j : Nat) (u : Value), (Opt.cells ⟨d, l, t, g, b0, b1, b2, b3, b4, b5, b6, b7, b8, b9⟩)[j]? = some u → w3.cell? ⟨w.heap.size, j, none⟩ = some u := HO3.out.1
    have c0 : w3.cell? ⟨w.heap.size, 0, none⟩ = some (.int .i64 d) := c 0 _ rfl
    have c1 : w3.cell? ⟨w.heap.size, 1, none⟩ = some (.int .i64 l) := c 1 _ rfl
    have c2 : w3.cell? ⟨w.heap.size, 2, none⟩ = some (.int .i64 t) := c 2 _ rfl
    have c3 : w3.cell? ⟨w.heap.size, 3, none⟩ = some (.int .i64 g) := c 3 _ rfl
    have c4 : w3.cell? ⟨w.heap.size, 4, none⟩ = some (.bool b0) := c 4 _ rfl
    have c5 : w3.cell? ⟨w.heap.size, 5, none⟩ = some (.bool b1) := c 5 _ rfl
    have c6 : w3.cell? ⟨w.heap.size, 6, none⟩ = some (.bool b2) := c 6 _ rfl
    have c7 : w3.cell? ⟨w.heap.size, 7, none⟩ = some (.bool b3) := c 7 _ rfl
    have c8 : w3.cell? ⟨w.heap.size, 8, none⟩ = some (.bool b4) := c 8 _ rfl
    have c9 : w3.cell? ⟨w.heap.size, 9, none⟩ = some (.bool b5) := c 9 _ rfl
    have c10 : w3.cell? ⟨w.heap.size, 10, none⟩ = some (.bool b6) := c 10 _ rfl
    have c11 : w3.cell? ⟨w.heap.size, 11, none⟩ = some (.bool b7) := c 11 _ rfl
    have c12 : w3.cell? ⟨w.heap.size, 12, none⟩ = some (.bool b8) := c 12 _ rfl
    have c13 : w3.cell? ⟨w.heap.size, 13, none⟩ = some (.bool b9) := c 13 _ rfl
    have HQ := Lib.hid hQ
    clear c hN1 HBB HR HO3 hfs hFL hQ
    go_wp2_with fail
    refine HF.out.mono ?_
    rintro e w4 ⟨⟨gb, rfl, hr⟩, hb4⟩
    simp only [HQ.out]
    have HRd := Lib.hid hr
    have HB5 := Lib.hid (below_self HB4.out hb4)
    clear c0 c1 c2 c3 c4 c5 c6 c7 c8 c9 c10 c11 c12 c13 hr hb4 HB4 HF d0 d1 l0 l1 t0 t1 g0 g1
    obtain ⟨hQ0, hQ9⟩ := hQ1
    go_wp2
    go_loopw [5, 7] (fun n i wr => ∃ k : Nat, k ≤ 10 ∧ i = .int .i64 k ∧ n = .int .i64 (Q + 500 * (Opt.low (fs.take k) : Nat)) ∧ w4 = wr) (fun _ i _ => 10 - (intOf i).toNat)
    case atStart => exact ⟨0, Nat.zero_le _, rfl, by simp [Opt.low], rfl⟩
    case round =>
      obtain ⟨k, hk, rfl, rfl, rfl⟩ := hrel
      obtain ⟨M, hM⟩ : ∃ M, Opt.low (fs.take k) = M := ⟨_, rfl⟩
      rw [hM]
      have HM := Lib.hid hM
      have hlow := low_lt_take fs k
      rw [hM] at hlow
      have hk2 : (2 : Nat) ^ k ≤ 2 ^ 10 := Nat.pow_le_pow_right (by decide) hk
      have h1024 : (2 : Nat) ^ 10 = 1024 := by decide
      have hMb : M < 1024 := by omega
      clear hM hlow hk2 h1024
      by_cases hlt : k < 10
      · obtain ⟨x, hx⟩ : ∃ x, fs[k]? = some x := ⟨_, List.getElem?_eq_getElem (by rw [HFL.out]; exact hlt)⟩
        have HX := Lib.hid (low_next hx)
        rw [HM.out] at HX
        have q1 := HRd.out.news k _ (by rw [List.getElem?_map, hx]; rfl)
        rw [addNew] at q1
        clear hx
        cases x with
        | false =>
          have HY := Lib.hid (show Opt.low (fs.take (k + 1)) = M by rw [HX.out]; simp [Opt.n1])
          go_wp2
          go_roundw
          case rel => exact ⟨k + 1, by omega, by go_num, by rw [HY.out], by trivial⟩
          case measure => simp [intOf]; omega
        | true =>
          have HY := Lib.hid (show Opt.low (fs.take (k + 1)) = M + 2 ^ k by rw [HX.out]; simp [Opt.n1])
          have HP := Lib.hid (show wrap64 (Q + 500 * (M : Int) + wrap64 (500 * 2 ^ k)) = Q + 500 * ((M + 2 ^ k : Nat) : Int) by
            have hp : ((2 : Int) ^ k) = ((2 ^ k : Nat) : Int) := by simp
            have h2 : (2 : Nat) ^ k ≤ 2 ^ 9 := Nat.pow_le_pow_right (by decide) (by omega)
            have h512 : (2 : Nat) ^ 9 = 512 := by decide
            rw [hp]
            generalize 2 ^ k = p at *
            unfold wrap64
            omega)
          go_wp2
          go_roundw
          case rel => exact ⟨k + 1, by omega, by go_num, by rw [HY.out, ← HP.out], by trivial⟩
          case measure => simp [intOf]; omega
      · have hk10 : k = 10 := by omega
        subst hk10
        have HT := Lib.hid (show Q + 500 * (M : Int) = N by rw [HN.out, ← HM.out, List.take_of_length_le (by rw [HFL.out]; omega)])
        simp only [HT.out]
        go_wp2
        go_ret2
        exact ⟨rfl, HB5.out⟩
  · have g1 : (R != 0) = true := by simp [h0]
    have hN : N = 0 ∧ E = R := by
      have := HBB.out
      unfold Opt.bits at this
      rw [if_neg (fun e => h0 (HR.out.symm.trans e)), HR.out] at this
      injection this with e1 e2
      exact ⟨e1.symm, e2.symm⟩
    obtain ⟨rfl, rfl⟩ := hN
    clear h0
    go_wp2
    go_ret2
    exact ⟨rfl, HB4.out⟩
end Go.Proofs.YtcdogkabdhbjmaaDoor
/- naskhlaw10.awake, OptionBits. -/
namespace Go.Proofs.YtcdogkabdhbjmaaDoor
open Go.RowKit

theorem bits_awake : Opt.bits ⟨1, 0, 0, 0, false, true, false, false, false, false, false, false, false, false⟩ = (1001, 0) := by decide
theorem err_awake : Opt.err ⟨0, 1, 0, 0, false, false, false, false, false, false, false, false, false, false⟩ = 3 := by decide
set_option maxRecDepth 100000 in
set_option maxHeartbeats 4000000 in
theorem awake10_any (w : World) (hK : KindsAt w) : Calls Tryd.prog 14 #[] w fun e w' => e = .returned (.bool true) ∧ Below w.heap.size w w' := by
  have HK := Lib.hid hK
  clear hK
  go_enter Tryd.func14, Tryd.ntmps14
  go_wp2_with fail
  refine (opBitsOf_any 1 0 0 0 false true false false false false false false false false 1001 0 bits_awake w HK.out).mono ?_
  rintro e w1 ⟨rfl, hb1⟩
  have HK1 := Lib.hid (HK.out.below hb1)
  have HB1 := Lib.hid hb1
  clear hb1 HK
  go_wp2_with fail
  refine (opCheck_any 0 1 0 0 false false false false false false false false false false 3 err_awake w1 HK1.out).mono ?_
  rintro e w2 ⟨rfl, hb2⟩
  have HB2 := Lib.hid (below_self HB1.out hb2)
  clear hb2
  go_wp2_with fail
  go_ret
  exact ⟨rfl, HB2.out⟩
set_option maxRecDepth 100000 in
set_option maxHeartbeats 8000000 in
theorem optionBits_any (d l t g : Int) (b0 b1 b2 b3 b4 b5 b6 b7 b8 b9 : Bool) (n : Int) (w : World) (hK : KindsAt w) :
    Calls Tryd.prog 4 #[.agg #[.int .i64 d, .int .i64 l, .int .i64 t, .int .i64 g, .bool b0, .bool b1, .bool b2, .bool b3, .bool b4, .bool b5, .bool b6, .bool b7, .bool b8, .bool b9], .int .i64 n] w fun e w' => e = .returned (.bool true) ∧ Below w.heap.size w w' := by
  obtain ⟨N, E, hb⟩ : ∃ N E, Opt.bits ⟨d, l, t, g, b0, b1, b2, b3, b4, b5, b6, b7, b8, b9⟩ = (N, E) := ⟨_, _, rfl⟩
  obtain ⟨R, F, hf⟩ : ∃ R F, Opt.back n = (R, F) := ⟨_, _, rfl⟩
  obtain ⟨r0, r1, r2, r3, r4, r5, r6, r7, r8, r9, r10, r11, r12, r13⟩ := R
  obtain ⟨W1, hW1⟩ : ∃ W1, w.alloc (.cells #[.int .i64 d, .int .i64 l, .int .i64 t, .int .i64 g, .bool b0, .bool b1, .bool b2, .bool b3, .bool b4, .bool b5, .bool b6, .bool b7, .bool b8, .bool b9] 23) = W1 := ⟨_, rfl⟩
  have hO1 : OptAt W1 w.heap.size ⟨d, l, t, g, b0, b1, b2, b3, b4, b5, b6, b7, b8, b9⟩ := by rw [← hW1]; exact OptAt.new_ w ⟨d, l, t, g, b0, b1, b2, b3, b4, b5, b6, b7, b8, b9⟩ 23
  have hb1 : Below w.heap.size w W1 := by rw [← hW1]; exact below_new _ _
  have HK1 := Lib.hid (hK.below hb1)
  have HO1 := Lib.hid hO1
  have HB1 := Lib.hid hb1
  have HB := Lib.hid hb
  have HF := Lib.hid hf
  have hq := optsEq r0 r1 r2 r3 r4 r5 r6 r7 r8 r9 r10 r11 r12 r13 r0 r1 r2 r3 r4 r5 r6 r7 r8 r9 r10 r11 r12 r13
  have hy : ((r0 == r0) && (r1 == r1) && (r2 == r2) && (r3 == r3) && (r4 == r4) && (r5 == r5) && (r6 == r6) && (r7 == r7) && (r8 == r8) && (r9 == r9) && (r10 == r10) && (r11 == r11) && (r12 == r12) && (r13 == r13)) = true := by simp
  simp only [hy] at hq
  have c0 : W1.cell? ⟨w.heap.size, 0, none⟩ = some (.int .i64 d) := HO1.out.1 0 _ rfl
  have c1 : W1.cell? ⟨w.heap.size, 1, none⟩ = some (.int .i64 l) := HO1.out.1 1 _ rfl
  have c2 : W1.cell? ⟨w.heap.size, 2, none⟩ = some (.int .i64 t) := HO1.out.1 2 _ rfl
  have c3 : W1.cell? ⟨w.heap.size, 3, none⟩ = some (.int .i64 g) := HO1.out.1 3 _ rfl
  have c4 : W1.cell? ⟨w.heap.size, 4, none⟩ = some (.bool b0) := HO1.out.1 4 _ rfl
  have c5 : W1.cell? ⟨w.heap.size, 5, none⟩ = some (.bool b1) := HO1.out.1 5 _ rfl
  have c6 : W1.cell? ⟨w.heap.size, 6, none⟩ = some (.bool b2) := HO1.out.1 6 _ rfl
  have c7 : W1.cell? ⟨w.heap.size, 7, none⟩ = some (.bool b3) := HO1.out.1 7 _ rfl
  have c8 : W1.cell? ⟨w.heap.size, 8, none⟩ = some (.bool b4) := HO1.out.1 8 _ rfl
  have c9 : W1.cell? ⟨w.heap.size, 9, none⟩ = some (.bool b5) := HO1.out.1 9 _ rfl
  have c10 : W1.cell? ⟨w.heap.size, 10, none⟩ = some (.bool b6) := HO1.out.1 10 _ rfl
  have c11 : W1.cell? ⟨w.heap.size, 11, none⟩ = some (.bool b7) := HO1.out.1 11 _ rfl
  have c12 : W1.cell? ⟨w.heap.size, 12, none⟩ = some (.bool b8) := HO1.out.1 12 _ rfl
  have c13 : W1.cell? ⟨w.heap.size, 13, none⟩ = some (.bool b9) := HO1.out.1 13 _ rfl
  clear hy hK hO1 hb1 hb hf
  go_enter Tryd.func4, Tryd.ntmps4
  go_wp2_with fail
  refine (opBitsOf_any d l t g b0 b1 b2 b3 b4 b5 b6 b7 b8 b9 N E HB.out _ HK1.out).mono ?_
  rintro e w2 ⟨rfl, hb2⟩
  have HO2 := Lib.hid (HO1.out.below hb2)
  have HK2 := Lib.hid (HK1.out.below hb2)
  have HB2 := Lib.hid (below_self HB1.out hb2)
  clear hb2 HK1 HB1 HO1 c0 c1 c2 c3 c4 c5 c6 c7 c8 c9 c10 c11 c12 c13 hW1
  have c0 : w2.cell? ⟨w.heap.size, 0, none⟩ = some (.int .i64 d) := HO2.out.1 0 _ rfl
  have c1 : w2.cell? ⟨w.heap.size, 1, none⟩ = some (.int .i64 l) := HO2.out.1 1 _ rfl
  have c2 : w2.cell? ⟨w.heap.size, 2, none⟩ = some (.int .i64 t) := HO2.out.1 2 _ rfl
  have c3 : w2.cell? ⟨w.heap.size, 3, none⟩ = some (.int .i64 g) := HO2.out.1 3 _ rfl
  have c4 : w2.cell? ⟨w.heap.size, 4, none⟩ = some (.bool b0) := HO2.out.1 4 _ rfl
  have c5 : w2.cell? ⟨w.heap.size, 5, none⟩ = some (.bool b1) := HO2.out.1 5 _ rfl
  have c6 : w2.cell? ⟨w.heap.size, 6, none⟩ = some (.bool b2) := HO2.out.1 6 _ rfl
  have c7 : w2.cell? ⟨w.heap.size, 7, none⟩ = some (.bool b3) := HO2.out.1 7 _ rfl
  have c8 : w2.cell? ⟨w.heap.size, 8, none⟩ = some (.bool b4) := HO2.out.1 8 _ rfl
  have c9 : w2.cell? ⟨w.heap.size, 9, none⟩ = some (.bool b5) := HO2.out.1 9 _ rfl
  have c10 : w2.cell? ⟨w.heap.size, 10, none⟩ = some (.bool b6) := HO2.out.1 10 _ rfl
  have c11 : w2.cell? ⟨w.heap.size, 11, none⟩ = some (.bool b7) := HO2.out.1 11 _ rfl
  have c12 : w2.cell? ⟨w.heap.size, 12, none⟩ = some (.bool b8) := HO2.out.1 12 _ rfl
  have c13 : w2.cell? ⟨w.heap.size, 13, none⟩ = some (.bool b9) := HO2.out.1 13 _ rfl
  go_wp2_with fail
  refine (refBits_any d l t g b0 b1 b2 b3 b4 b5 b6 b7 b8 b9 N E HB.out _).mono ?_
  rintro e w3 ⟨rfl, hb3⟩
  have HK3 := Lib.hid (HK2.out.below hb3)
  have HB3 := Lib.hid (below_self HB2.out hb3)
  clear hb3 HK2 HB2 HO2 c0 c1 c2 c3 c4 c5 c6 c7 c8 c9 c10 c11 c12 c13
  go_wp2_with fail
  refine (opOf_any n ⟨r0, r1, r2, r3, r4, r5, r6, r7, r8, r9, r10, r11, r12, r13⟩ F HF.out _ HK3.out).mono ?_
  rintro e w4 ⟨rfl, hb4⟩
  have HK4 := Lib.hid (HK3.out.below hb4)
  have HB4 := Lib.hid (below_self HB3.out hb4)
  clear hb4 HK3 HB3
  simp only [Opt.val, Opt.cells]
  go_wp2_with fail
  obtain ⟨W5, hW5⟩ : ∃ W5, w4.alloc (.cells #[.int .i64 r0, .int .i64 r1, .int .i64 r2, .int .i64 r3, .bool r4, .bool r5, .bool r6, .bool r7, .bool r8, .bool r9, .bool r10, .bool r11, .bool r12, .bool r13] 23) = W5 := ⟨_, rfl⟩
  have hO5 : OptAt W5 w4.heap.size ⟨r0, r1, r2, r3, r4, r5, r6, r7, r8, r9, r10, r11, r12, r13⟩ := by rw [← hW5]; exact OptAt.new_ w4 ⟨r0, r1, r2, r3, r4, r5, r6, r7, r8, r9, r10, r11, r12, r13⟩ 23
  have hb5 : Below w4.heap.size w4 W5 := by rw [← hW5]; exact below_new _ _
  rw [hW5]
  clear hW5
  refine (refOf_any n ⟨r0, r1, r2, r3, r4, r5, r6, r7, r8, r9, r10, r11, r12, r13⟩ F HF.out _).mono ?_
  rintro e w6 ⟨rfl, hb6⟩
  have HO6 := Lib.hid (hO5.below hb6)
  have hl6 := HO6.out.lt
  have HK6 := Lib.hid ((HK4.out.below hb5).below hb6)
  have HB6 := Lib.hid (below_self (below_self HB4.out hb5) hb6)
  clear hb6 hO5 hb5 HK4 HB4
  have p0 : w6.cell? ⟨w4.heap.size, 0, none⟩ = some (.int .i64 r0) := HO6.out.1 0 _ rfl
  have p1 : w6.cell? ⟨w4.heap.size, 1, none⟩ = some (.int .i64 r1) := HO6.out.1 1 _ rfl
  have p2 : w6.cell? ⟨w4.heap.size, 2, none⟩ = some (.int .i64 r2) := HO6.out.1 2 _ rfl
  have p3 : w6.cell? ⟨w4.heap.size, 3, none⟩ = some (.int .i64 r3) := HO6.out.1 3 _ rfl
  have p4 : w6.cell? ⟨w4.heap.size, 4, none⟩ = some (.bool r4) := HO6.out.1 4 _ rfl
  have p5 : w6.cell? ⟨w4.heap.size, 5, none⟩ = some (.bool r5) := HO6.out.1 5 _ rfl
  have p6 : w6.cell? ⟨w4.heap.size, 6, none⟩ = some (.bool r6) := HO6.out.1 6 _ rfl
  have p7 : w6.cell? ⟨w4.heap.size, 7, none⟩ = some (.bool r7) := HO6.out.1 7 _ rfl
  have p8 : w6.cell? ⟨w4.heap.size, 8, none⟩ = some (.bool r8) := HO6.out.1 8 _ rfl
  have p9 : w6.cell? ⟨w4.heap.size, 9, none⟩ = some (.bool r9) := HO6.out.1 9 _ rfl
  have p10 : w6.cell? ⟨w4.heap.size, 10, none⟩ = some (.bool r10) := HO6.out.1 10 _ rfl
  have p11 : w6.cell? ⟨w4.heap.size, 11, none⟩ = some (.bool r11) := HO6.out.1 11 _ rfl
  have p12 : w6.cell? ⟨w4.heap.size, 12, none⟩ = some (.bool r12) := HO6.out.1 12 _ rfl
  have p13 : w6.cell? ⟨w4.heap.size, 13, none⟩ = some (.bool r13) := HO6.out.1 13 _ rfl
  simp only [Opt.val, Opt.cells]
  go_wp2_with fail
  refine (awake10_any _ (HK6.out.below (below_new _ _))).mono ?_
  rintro e w8 ⟨rfl, hb8⟩
  have HB8 := Lib.hid (below_self (below_self HB6.out (below_new _ _)) hb8)
  clear hb8
  go_wp2_with fail
  go_ret
  exact ⟨rfl, HB8.out⟩
end Go.Proofs.YtcdogkabdhbjmaaDoor
