/- Options of a number: the project's Of. -/
import Derived.Test.YtcdogkabdhbjmaaDoorOpRow
import Derived.Test.YtcdogkabdhbjmaaDoorOpNb
import Derived.Test.YtcdogkabdhbjmaaDoorOpPut
import Derived.Test.YtcdogkabdhbjmaaDoorOpPb
import Derived.Test.YtcdogkabdhbjmaaDoorOpP2
import Derived.Deep.DeepCutAuto
namespace Go.Proofs.YtcdogkabdhbjmaaDoor
open Go.RowKit

theorem setK_of (n : Nat) : ({ Opt.zero with d := ((n % 500 % 4 : Nat) : Int), l := ((n % 500 / 4 % 5 : Nat) : Int), t := ((n % 500 / 20 % 5 : Nat) : Int), g := ((n % 500 / 100 % 5 : Nat) : Int) } : Opt).setK (n / 500) 10 = Opt.of n := by
  have e0 : n % 500 % 4 = n % 4 := by omega
  have e1 : n % 500 / 4 % 5 = n / 4 % 5 := by omega
  have e2 : n % 500 / 20 % 5 = n / 20 % 5 := by omega
  have e3 : n % 500 / 100 % 5 = n / 100 % 5 := by omega
  rw [e0, e1, e2, e3]
  rfl
set_option maxRecDepth 100000 in
set_option maxHeartbeats 8000000 in
theorem opOf_any (n : Int) (R : Opt) (E : Int) (hR : Opt.back n = (R, E)) (w : World) (hK : KindsAt w) :
    Calls Tryd.prog 17 #[.int .i64 n] w fun e w' => e = .returned (.tuple #[R.val, .int .i64 E]) ∧ Below w.heap.size w w' := by
  have HR := Lib.hid hR
  have hb0 := below_new w (.cells Opt.zero.cells 23)
  have hO0 := OptAt.new_ w Opt.zero 23
  have hlt0 : w.heap.size < (w.alloc (.cells Opt.zero.cells 23)).heap.size := by simp
  have HG := Lib.hid (show 1 < w.heap.size from cell_lt hK.1)
  have HK := Lib.hid (hK.below hb0)
  clear hR hK
  have HB0 := Lib.hid hb0
  obtain ⟨W, hW⟩ : ∃ W, w.alloc (.cells Opt.zero.cells 23) = W := ⟨_, rfl⟩
  rw [hW] at HB0 HK hO0 hlt0
  have hW' : w.alloc (.cells #[.int .i64 0, .int .i64 0, .int .i64 0, .int .i64 0, .bool false, .bool false, .bool false, .bool false, .bool false, .bool false, .bool false, .bool false, .bool false, .bool false] 23) = W := hW
  obtain ⟨r, hr⟩ : ∃ r, w.heap.size = r := ⟨_, rfl⟩
  have HO0 := Lib.hid hO0
  have c0 : W.cell? ⟨w.heap.size, 0, none⟩ = some (.int .i64 0) := hO0.1 0 _ rfl
  have f0 := hO0.2 0
  have c1 : W.cell? ⟨w.heap.size, 1, none⟩ = some (.int .i64 0) := hO0.1 1 _ rfl
  have f1 := hO0.2 1
  have c2 : W.cell? ⟨w.heap.size, 2, none⟩ = some (.int .i64 0) := hO0.1 2 _ rfl
  have f2 := hO0.2 2
  have c3 : W.cell? ⟨w.heap.size, 3, none⟩ = some (.int .i64 0) := hO0.1 3 _ rfl
  have f3 := hO0.2 3
  have c4 : W.cell? ⟨w.heap.size, 4, none⟩ = some (.bool false) := hO0.1 4 _ rfl
  have f4 := hO0.2 4
  have c5 : W.cell? ⟨w.heap.size, 5, none⟩ = some (.bool false) := hO0.1 5 _ rfl
  have f5 := hO0.2 5
  have c6 : W.cell? ⟨w.heap.size, 6, none⟩ = some (.bool false) := hO0.1 6 _ rfl
  have f6 := hO0.2 6
  have c7 : W.cell? ⟨w.heap.size, 7, none⟩ = some (.bool false) := hO0.1 7 _ rfl
  have f7 := hO0.2 7
  have c8 : W.cell? ⟨w.heap.size, 8, none⟩ = some (.bool false) := hO0.1 8 _ rfl
  have f8 := hO0.2 8
  have c9 : W.cell? ⟨w.heap.size, 9, none⟩ = some (.bool false) := hO0.1 9 _ rfl
  have f9 := hO0.2 9
  have c10 : W.cell? ⟨w.heap.size, 10, none⟩ = some (.bool false) := hO0.1 10 _ rfl
  have f10 := hO0.2 10
  have c11 : W.cell? ⟨w.heap.size, 11, none⟩ = some (.bool false) := hO0.1 11 _ rfl
  have f11 := hO0.2 11
  have c12 : W.cell? ⟨w.heap.size, 12, none⟩ = some (.bool false) := hO0.1 12 _ rfl
  have f12 := hO0.2 12
  have c13 : W.cell? ⟨w.heap.size, 13, none⟩ = some (.bool false) := hO0.1 13 _ rfl
  have f13 := hO0.2 13
  clear hb0 hW hr hO0
  by_cases hlo : n < 0
  · have HE := Lib.hid (show R = Opt.zero ∧ E = 1 by
      have := HR.out
      unfold Opt.back at this
      rw [if_pos (.inl hlo)] at this
      injection this with e1 e2
      exact ⟨e1.symm, e2.symm⟩)
    go_enter Tryd.func17, Tryd.ntmps17
    go_wp2_with fail
    (try simp only [Exit.inBlock, Exit.then])
    refine bodyPost_ret (v := .tuple #[R.val, .int .i64 E]) ?_ rfl ⟨rfl, below_stored Opt.zero (Nat.le_refl _) HB0.out⟩
    rw [HE.out.1, HE.out.2]
    exact res_opt rfl _ _ w.heap.size Opt.zero _ rfl rfl (HO0.out.stored Opt.zero)
  · by_cases hhi : 511999 < n
    · have HE := Lib.hid (show R = Opt.zero ∧ E = 1 by
        have := HR.out
        unfold Opt.back at this
        rw [if_pos (.inr hhi)] at this
        injection this with e1 e2
        exact ⟨e1.symm, e2.symm⟩)
      go_enter Tryd.func17, Tryd.ntmps17
      go_wp2_with fail
      (try simp only [Exit.inBlock, Exit.then])
      refine bodyPost_ret (v := .tuple #[R.val, .int .i64 E]) ?_ rfl ⟨rfl, below_stored Opt.zero (Nat.le_refl _) HB0.out⟩
      rw [HE.out.1, HE.out.2]
      exact res_opt rfl _ _ w.heap.size Opt.zero _ rfl rfl (HO0.out.stored Opt.zero)
    · obtain ⟨m, rfl⟩ : ∃ m : Nat, n = m := ⟨n.toNat, by omega⟩
      have HE := Lib.hid (show (if (Opt.of m).err = 0 then (Opt.of m, (0 : Int)) else (Opt.zero, (Opt.of m).err)) = (R, E) by
        have := HR.out
        unfold Opt.back at this
        rw [if_neg (by omega), Int.toNat_natCast] at this
        exact this)
      have hm : m < 512000 := by omega
      clear HR hlo hhi c0 c1 c2 c3 c4 c5 c6 c7 c8 c9 c10 c11 c12 c13 f0 f1 f2 f3 f4 f5 f6 f7 f8 f9 f10 f11 f12 f13
      obtain ⟨W2, hW2⟩ : ∃ W2, W.alloc (.cells Opt.zero.cells 23) = W2 := ⟨_, rfl⟩
      have hW2' : W.alloc (.cells #[.int .i64 0, .int .i64 0, .int .i64 0, .int .i64 0, .bool false, .bool false, .bool false, .bool false, .bool false, .bool false, .bool false, .bool false, .bool false, .bool false] 23) = W2 := hW2
      have HO := Lib.hid (OptAt.new_ W Opt.zero 23)
      have hb2 := below_new W (.cells Opt.zero.cells 23)
      rw [hW2] at HO hb2
      clear hW2
      have HK2 := Lib.hid (HK.out.below hb2)
      have HB2 := Lib.hid (below_self HB0.out hb2)
      have HR2 := Lib.hid (HO0.out.below hb2)
      clear hb2 HO0 HK
      obtain ⟨q0, h0⟩ : ∃ q, ((m % 500 % 4 : Nat) : Int) = q := ⟨_, rfl⟩
      obtain ⟨q1, h1⟩ : ∃ q, ((m % 500 / 4 % 5 : Nat) : Int) = q := ⟨_, rfl⟩
      obtain ⟨q2, h2⟩ : ∃ q, ((m % 500 / 20 % 5 : Nat) : Int) = q := ⟨_, rfl⟩
      obtain ⟨q3, h3⟩ : ∃ q, ((m % 500 / 100 % 5 : Nat) : Int) = q := ⟨_, rfl⟩
      have HSK := Lib.hid (setK_of m)
      rw [h0, h1, h2, h3] at HSK
      have HNB := Lib.hid (opNumbered_any (m % 500) (by omega) q0 q1 q2 q3 ⟨h0, h1, h2, h3⟩ W2 HK2.out)
      clear h0 h1 h2 h3
      go_enter Tryd.func17, Tryd.ntmps17
      go_wp2_with fail
      clear hW2'
      refine HNB.out.mono ?_
      rintro e w3 ⟨rfl, hb3⟩
      have HO3 := Lib.hid (HO.out.below hb3)
      have HK3 := Lib.hid (HK2.out.below hb3)
      have HB3 := Lib.hid (below_self HB2.out hb3)
      have HR3 := Lib.hid (HR2.out.below hb3)
      clear hb3 HO HB2 HR2 HNB
      go_wp2_with fail
      refine (opPut_any q0 q1 q2 q3 W.heap.size Opt.zero w3 HO3.out).mono ?_
      rintro e w4 ⟨rfl, hO4, hf4⟩
      have hgl : 1 < w.heap.size := HG.out
      have hBl : w.heap.size < W.heap.size := hlt0
      have hk4 := hf4 W.heap.size w3 (Nat.le_refl _) (by have := HO3.out.lt; omega) (Below.refl _ _)
      have HK4 := Lib.hid (HK3.out.upto hk4 (by omega))
      have HR4 := Lib.hid (HR3.out.upto hk4 (by omega))
      have HB4 := Lib.hid (hf4 w.heap.size w (by omega) (by have := HO3.out.lt; omega) HB3.out)
      have HO4 := Lib.hid hO4
      clear hO4 hf4 hk4 HB3 HR3 HK3 HO3
      go_wp2_with fail
      refine (opPutBits_any W.heap.size _ (m / 500) (by omega) w4 HO4.out).mono ?_
      rintro e w5 ⟨rfl, hO5, hf5⟩
      have hk5 := hf5 W.heap.size w4 (Nat.le_refl _) (by have := HO4.out.lt; omega) (Below.refl _ _)
      have HK5 := Lib.hid (HK4.out.upto hk5 (by omega))
      have HR5 := Lib.hid (HR4.out.upto hk5 (by omega))
      have HB5 := Lib.hid (hf5 w.heap.size w (by omega) (by have := HO4.out.lt; omega) HB4.out)
      rw [HSK.out] at hO5
      obtain ⟨X, hX⟩ : ∃ X, (Opt.of m).err = X := ⟨_, rfl⟩
      rw [hX] at HE
      obtain ⟨O, hOe⟩ : ∃ O, Opt.of m = O := ⟨_, rfl⟩
      rw [hOe] at hX hO5 HE
      clear hOe HSK
      obtain ⟨d, l, t, g, b0, b1, b2, b3, b4, b5, b6, b7, b8, b9⟩ := O
      have HCK := Lib.hid (opCheck_any d l t g b0 b1 b2 b3 b4 b5 b6 b7 b8 b9 X hX w5 HK5.out)
      have HO5 := Lib.hid hO5
      have c0 : w5.cell? ⟨W.heap.size, 0, none⟩ = some (.int .i64 d) := hO5.1 0 _ rfl
      have c1 : w5.cell? ⟨W.heap.size, 1, none⟩ = some (.int .i64 l) := hO5.1 1 _ rfl
      have c2 : w5.cell? ⟨W.heap.size, 2, none⟩ = some (.int .i64 t) := hO5.1 2 _ rfl
      have c3 : w5.cell? ⟨W.heap.size, 3, none⟩ = some (.int .i64 g) := hO5.1 3 _ rfl
      have c4 : w5.cell? ⟨W.heap.size, 4, none⟩ = some (.bool b0) := hO5.1 4 _ rfl
      have c5 : w5.cell? ⟨W.heap.size, 5, none⟩ = some (.bool b1) := hO5.1 5 _ rfl
      have c6 : w5.cell? ⟨W.heap.size, 6, none⟩ = some (.bool b2) := hO5.1 6 _ rfl
      have c7 : w5.cell? ⟨W.heap.size, 7, none⟩ = some (.bool b3) := hO5.1 7 _ rfl
      have c8 : w5.cell? ⟨W.heap.size, 8, none⟩ = some (.bool b4) := hO5.1 8 _ rfl
      have c9 : w5.cell? ⟨W.heap.size, 9, none⟩ = some (.bool b5) := hO5.1 9 _ rfl
      have c10 : w5.cell? ⟨W.heap.size, 10, none⟩ = some (.bool b6) := hO5.1 10 _ rfl
      have c11 : w5.cell? ⟨W.heap.size, 11, none⟩ = some (.bool b7) := hO5.1 11 _ rfl
      have c12 : w5.cell? ⟨W.heap.size, 12, none⟩ = some (.bool b8) := hO5.1 12 _ rfl
      have c13 : w5.cell? ⟨W.heap.size, 13, none⟩ = some (.bool b9) := hO5.1 13 _ rfl
      clear hO5 hf5 hk5 HB4 HR4 HK4 HO4 hX
      go_wp2_with fail
      refine HCK.out.mono ?_
      rintro e w6 ⟨rfl, hb6⟩
      have hO6 := HO5.out.below hb6
      have hR6 := HR5.out.below hb6
      have HB6 := Lib.hid (below_self HB5.out hb6)
      have HR6 := Lib.hid hR6
      have hl6 := hR6.lt
      clear c0 c1 c2 c3 c4 c5 c6 c7 c8 c9 c10 c11 c12 c13
      have c0 : w6.cell? ⟨W.heap.size, 0, none⟩ = some (.int .i64 d) := hO6.1 0 _ rfl
      have c1 : w6.cell? ⟨W.heap.size, 1, none⟩ = some (.int .i64 l) := hO6.1 1 _ rfl
      have c2 : w6.cell? ⟨W.heap.size, 2, none⟩ = some (.int .i64 t) := hO6.1 2 _ rfl
      have c3 : w6.cell? ⟨W.heap.size, 3, none⟩ = some (.int .i64 g) := hO6.1 3 _ rfl
      have c4 : w6.cell? ⟨W.heap.size, 4, none⟩ = some (.bool b0) := hO6.1 4 _ rfl
      have c5 : w6.cell? ⟨W.heap.size, 5, none⟩ = some (.bool b1) := hO6.1 5 _ rfl
      have c6 : w6.cell? ⟨W.heap.size, 6, none⟩ = some (.bool b2) := hO6.1 6 _ rfl
      have c7 : w6.cell? ⟨W.heap.size, 7, none⟩ = some (.bool b3) := hO6.1 7 _ rfl
      have c8 : w6.cell? ⟨W.heap.size, 8, none⟩ = some (.bool b4) := hO6.1 8 _ rfl
      have c9 : w6.cell? ⟨W.heap.size, 9, none⟩ = some (.bool b5) := hO6.1 9 _ rfl
      have c10 : w6.cell? ⟨W.heap.size, 10, none⟩ = some (.bool b6) := hO6.1 10 _ rfl
      have c11 : w6.cell? ⟨W.heap.size, 11, none⟩ = some (.bool b7) := hO6.1 11 _ rfl
      have c12 : w6.cell? ⟨W.heap.size, 12, none⟩ = some (.bool b8) := hO6.1 12 _ rfl
      have c13 : w6.cell? ⟨W.heap.size, 13, none⟩ = some (.bool b9) := hO6.1 13 _ rfl
      have r0 : w6.cell? ⟨w.heap.size, 0, none⟩ = some (.int .i64 0) := hR6.1 0 _ rfl
      have f0 := hR6.2 0
      have r1 : w6.cell? ⟨w.heap.size, 1, none⟩ = some (.int .i64 0) := hR6.1 1 _ rfl
      have f1 := hR6.2 1
      have r2 : w6.cell? ⟨w.heap.size, 2, none⟩ = some (.int .i64 0) := hR6.1 2 _ rfl
      have f2 := hR6.2 2
      have r3 : w6.cell? ⟨w.heap.size, 3, none⟩ = some (.int .i64 0) := hR6.1 3 _ rfl
      have f3 := hR6.2 3
      have r4 : w6.cell? ⟨w.heap.size, 4, none⟩ = some (.bool false) := hR6.1 4 _ rfl
      have f4 := hR6.2 4
      have r5 : w6.cell? ⟨w.heap.size, 5, none⟩ = some (.bool false) := hR6.1 5 _ rfl
      have f5 := hR6.2 5
      have r6 : w6.cell? ⟨w.heap.size, 6, none⟩ = some (.bool false) := hR6.1 6 _ rfl
      have f6 := hR6.2 6
      have r7 : w6.cell? ⟨w.heap.size, 7, none⟩ = some (.bool false) := hR6.1 7 _ rfl
      have f7 := hR6.2 7
      have r8 : w6.cell? ⟨w.heap.size, 8, none⟩ = some (.bool false) := hR6.1 8 _ rfl
      have f8 := hR6.2 8
      have r9 : w6.cell? ⟨w.heap.size, 9, none⟩ = some (.bool false) := hR6.1 9 _ rfl
      have f9 := hR6.2 9
      have r10 : w6.cell? ⟨w.heap.size, 10, none⟩ = some (.bool false) := hR6.1 10 _ rfl
      have f10 := hR6.2 10
      have r11 : w6.cell? ⟨w.heap.size, 11, none⟩ = some (.bool false) := hR6.1 11 _ rfl
      have f11 := hR6.2 11
      have r12 : w6.cell? ⟨w.heap.size, 12, none⟩ = some (.bool false) := hR6.1 12 _ rfl
      have f12 := hR6.2 12
      have r13 : w6.cell? ⟨w.heap.size, 13, none⟩ = some (.bool false) := hR6.1 13 _ rfl
      have f13 := hR6.2 13
      clear hb6 hO6 hR6 HO5 HR5 HB5 HCK
      by_cases hx : X = 0
      · have HF := Lib.hid (show R = ⟨d, l, t, g, b0, b1, b2, b3, b4, b5, b6, b7, b8, b9⟩ ∧ E = 0 by
          have := HE.out
          rw [if_pos hx] at this
          injection this with e1 e2
          exact ⟨e1.symm, e2.symm⟩)
        subst hx
        go_wp2_with fail
        (try simp only [Exit.inBlock, Exit.then])
        refine bodyPost_ret (v := .tuple #[R.val, .int .i64 E]) ?_ rfl ⟨rfl, below_stored ⟨d, l, t, g, b0, b1, b2, b3, b4, b5, b6, b7, b8, b9⟩ (Nat.le_refl _) HB6.out⟩
        rw [HF.out.1, HF.out.2]
        exact res_opt rfl _ _ w.heap.size ⟨d, l, t, g, b0, b1, b2, b3, b4, b5, b6, b7, b8, b9⟩ _ rfl rfl (HR6.out.stored ⟨d, l, t, g, b0, b1, b2, b3, b4, b5, b6, b7, b8, b9⟩)
      · have HF := Lib.hid (show R = Opt.zero ∧ E = X by
          have := HE.out
          rw [if_neg hx] at this
          injection this with e1 e2
          exact ⟨e1.symm, e2.symm⟩)
        have g1 : (X != 0) = true := by simp [hx]
        clear hx c0 c1 c2 c3 c4 c5 c6 c7 c8 c9 c10 c11 c12 c13
        go_wp2_with fail
        (try simp only [Exit.inBlock, Exit.then])
        refine bodyPost_ret (v := .tuple #[R.val, .int .i64 E]) ?_ rfl ⟨rfl, below_stored Opt.zero (Nat.le_refl _) HB6.out⟩
        rw [HF.out.1, HF.out.2]
        exact res_opt rfl _ _ w.heap.size Opt.zero _ rfl rfl (HR6.out.stored Opt.zero)
end Go.Proofs.YtcdogkabdhbjmaaDoor
