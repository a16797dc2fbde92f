/- Options as words: the project's Parse. -/
import Derived.Test.YtcdogkabdhbjmaaDoorSwS
import Derived.Test.YtcdogkabdhbjmaaDoorSwF
import Derived.Test.YtcdogkabdhbjmaaDoorOpP2
namespace Go.Proofs.YtcdogkabdhbjmaaDoor
open Go.RowKit

set_option maxRecDepth 100000 in
set_option maxHeartbeats 4000000 in
theorem swParse_any (s : ByteArray) (R : Opt) (E : Int) (hR : parseF s = (R, E)) (w : World) (hT : TermsAt w) (hK : KindsAt w) :
    Calls Tryd.prog 26 #[.string s] w fun e w' => e = .returned (.tuple #[R.val, .int .i64 E]) ∧ Below w.heap.size w w' := by
  obtain ⟨W1, hW1⟩ : ∃ W1, w.alloc (.cells #[.int .i64 0, .int .i64 0, .int .i64 0, .int .i64 0, .bool false, .bool false, .bool false, .bool false, .bool false, .bool false, .bool false, .bool false, .bool false, .bool false] 23) = W1 := ⟨_, rfl⟩
  have hO1 : OptAt W1 w.heap.size Opt.zero := by rw [← hW1]; exact OptAt.new_ w Opt.zero 23
  have hb1 : Below w.heap.size w W1 := by rw [← hW1]; exact below_new _ _
  have HT1 := Lib.hid (hT.below hb1)
  have HK1 := Lib.hid (hK.below hb1)
  have HO1 := Lib.hid hO1
  have HB1 := Lib.hid hb1
  have HR := Lib.hid hR
  clear hR hT hK hO1 hb1
  by_cases hs : 1000 < s.size
  · have HX := Lib.hid (show R = Opt.zero ∧ E = 6 by
      have := HR.out
      unfold parseF at this
      rw [if_pos hs] at this
      injection this with e1 e2
      exact ⟨e1.symm, e2.symm⟩)
    have r0 : W1.cell? ⟨w.heap.size, 0, none⟩ = some (.int .i64 0) := HO1.out.1 0 _ rfl
    have f0 := HO1.out.2 0
    have r1 : W1.cell? ⟨w.heap.size, 1, none⟩ = some (.int .i64 0) := HO1.out.1 1 _ rfl
    have f1 := HO1.out.2 1
    have r2 : W1.cell? ⟨w.heap.size, 2, none⟩ = some (.int .i64 0) := HO1.out.1 2 _ rfl
    have f2 := HO1.out.2 2
    have r3 : W1.cell? ⟨w.heap.size, 3, none⟩ = some (.int .i64 0) := HO1.out.1 3 _ rfl
    have f3 := HO1.out.2 3
    have r4 : W1.cell? ⟨w.heap.size, 4, none⟩ = some (.bool false) := HO1.out.1 4 _ rfl
    have f4 := HO1.out.2 4
    have r5 : W1.cell? ⟨w.heap.size, 5, none⟩ = some (.bool false) := HO1.out.1 5 _ rfl
    have f5 := HO1.out.2 5
    have r6 : W1.cell? ⟨w.heap.size, 6, none⟩ = some (.bool false) := HO1.out.1 6 _ rfl
    have f6 := HO1.out.2 6
    have r7 : W1.cell? ⟨w.heap.size, 7, none⟩ = some (.bool false) := HO1.out.1 7 _ rfl
    have f7 := HO1.out.2 7
    have r8 : W1.cell? ⟨w.heap.size, 8, none⟩ = some (.bool false) := HO1.out.1 8 _ rfl
    have f8 := HO1.out.2 8
    have r9 : W1.cell? ⟨w.heap.size, 9, none⟩ = some (.bool false) := HO1.out.1 9 _ rfl
    have f9 := HO1.out.2 9
    have r10 : W1.cell? ⟨w.heap.size, 10, none⟩ = some (.bool false) := HO1.out.1 10 _ rfl
    have f10 := HO1.out.2 10
    have r11 : W1.cell? ⟨w.heap.size, 11, none⟩ = some (.bool false) := HO1.out.1 11 _ rfl
    have f11 := HO1.out.2 11
    have r12 : W1.cell? ⟨w.heap.size, 12, none⟩ = some (.bool false) := HO1.out.1 12 _ rfl
    have f12 := HO1.out.2 12
    have r13 : W1.cell? ⟨w.heap.size, 13, none⟩ = some (.bool false) := HO1.out.1 13 _ rfl
    have f13 := HO1.out.2 13
    have hs2 : (1000 : Int) < (s.size : Int) := by omega
    clear hs
    go_enter Tryd.func26, Tryd.ntmps26
    go_wp2_with fail
    (try simp only [Exit.inBlock, Exit.then])
    refine bodyPost_ret (v := .tuple #[R.val, .int .i64 E]) ?_ rfl ⟨rfl, below_stored Opt.zero (Nat.le_refl _) HB1.out⟩
    rw [HX.out.1, HX.out.2]
    exact res_opt rfl _ _ w.heap.size Opt.zero _ rfl rfl (HO1.out.stored Opt.zero)
  · obtain ⟨R1, E1, h1⟩ : ∃ R1 E1, saidF (wordsF s) = (R1, E1) := ⟨_, _, rfl⟩
    have HX := Lib.hid (show (R, E) = (if E1 = 0 then (if R1.err = 0 then (R1, 0) else (Opt.zero, R1.err)) else (Opt.zero, E1)) by
      have := HR.out
      unfold parseF at this
      rw [if_neg hs, h1] at this
      exact this.symm)
    have HS := Lib.hid h1
    have hlen := words_len s
    have HLEN := Lib.hid (show (wordsF s).length ≤ 100000 by omega)
    have hs1 : s.size ≤ 1000 := by omega
    have HSZ := Lib.hid hs1
    have hs2 : ¬ (1000 : Int) < (s.size : Int) := by omega
    clear hs h1 hlen hs1 HR
    go_enter Tryd.func26, Tryd.ntmps26
    go_wp2_with fail
    refine (fields_any s HSZ.out _).mono ?_
    rintro e w2 ⟨A, c, rfl, hr2, hb2⟩
    have HRD := Lib.hid hr2
    have HT2 := Lib.hid (HT1.out.below hb2)
    have HK2 := Lib.hid (HK1.out.below hb2)
    have HO2 := Lib.hid (HO1.out.below hb2)
    have HB2 := Lib.hid (below_self HB1.out hb2)
    clear hr2 hb2 HT1 HK1 HO1 HB1 hW1 hs2
    go_wp2_with fail
    refine (swSaid_any A _ c _ rfl HLEN.out R1 E1 HS.out w2 HT2.out HRD.out).mono ?_
    rintro e w3 ⟨rfl, hb3⟩
    have HT3 := Lib.hid (HT2.out.below hb3)
    have HK3 := Lib.hid (HK2.out.below hb3)
    have HO3 := Lib.hid (HO2.out.below hb3)
    have HB3 := Lib.hid (below_self HB2.out hb3)
    clear hb3 HT2 HK2 HO2 HB2 HRD HS
    obtain ⟨q0, q1, q2, q3, q4, q5, q6, q7, q8, q9, q10, q11, q12, q13⟩ := R1
    simp only [Opt.val, Opt.cells]
    obtain ⟨W4, hW4⟩ : ∃ W4, w3.alloc (.cells #[.int .i64 q0, .int .i64 q1, .int .i64 q2, .int .i64 q3, .bool q4, .bool q5, .bool q6, .bool q7, .bool q8, .bool q9, .bool q10, .bool q11, .bool q12, .bool q13] 23) = W4 := ⟨_, rfl⟩
    have hb4 : Below w3.heap.size w3 W4 := by rw [← hW4]; exact below_new _ _
    have hQ4 : OptAt W4 w3.heap.size ⟨q0, q1, q2, q3, q4, q5, q6, q7, q8, q9, q10, q11, q12, q13⟩ := by rw [← hW4]; exact OptAt.new_ w3 ⟨q0, q1, q2, q3, q4, q5, q6, q7, q8, q9, q10, q11, q12, q13⟩ 23
    have HQ4 := Lib.hid hQ4
    have HK4 := Lib.hid (HK3.out.below hb4)
    have HO4 := Lib.hid (HO3.out.below hb4)
    have HB4 := Lib.hid (below_self HB3.out hb4)
    clear hb4 hQ4 HT3 HK3 HO3 HB3
    by_cases hE : E1 = 0
    · subst hE
      obtain ⟨X, hX⟩ : ∃ X, Opt.err ⟨q0, q1, q2, q3, q4, q5, q6, q7, q8, q9, q10, q11, q12, q13⟩ = X := ⟨_, rfl⟩
      have HXX := Lib.hid (show (R, E) = (if X = 0 then (⟨q0, q1, q2, q3, q4, q5, q6, q7, q8, q9, q10, q11, q12, q13⟩, 0) else (Opt.zero, X)) by
        have := HX.out
        rw [if_pos rfl, hX] at this
        exact this)
      have HE := Lib.hid hX
      clear hX HX
      have c0 : W4.cell? ⟨w3.heap.size, 0, none⟩ = some (.int .i64 q0) := HQ4.out.1 0 _ rfl
      have c1 : W4.cell? ⟨w3.heap.size, 1, none⟩ = some (.int .i64 q1) := HQ4.out.1 1 _ rfl
      have c2 : W4.cell? ⟨w3.heap.size, 2, none⟩ = some (.int .i64 q2) := HQ4.out.1 2 _ rfl
      have c3 : W4.cell? ⟨w3.heap.size, 3, none⟩ = some (.int .i64 q3) := HQ4.out.1 3 _ rfl
      have c4 : W4.cell? ⟨w3.heap.size, 4, none⟩ = some (.bool q4) := HQ4.out.1 4 _ rfl
      have c5 : W4.cell? ⟨w3.heap.size, 5, none⟩ = some (.bool q5) := HQ4.out.1 5 _ rfl
      have c6 : W4.cell? ⟨w3.heap.size, 6, none⟩ = some (.bool q6) := HQ4.out.1 6 _ rfl
      have c7 : W4.cell? ⟨w3.heap.size, 7, none⟩ = some (.bool q7) := HQ4.out.1 7 _ rfl
      have c8 : W4.cell? ⟨w3.heap.size, 8, none⟩ = some (.bool q8) := HQ4.out.1 8 _ rfl
      have c9 : W4.cell? ⟨w3.heap.size, 9, none⟩ = some (.bool q9) := HQ4.out.1 9 _ rfl
      have c10 : W4.cell? ⟨w3.heap.size, 10, none⟩ = some (.bool q10) := HQ4.out.1 10 _ rfl
      have c11 : W4.cell? ⟨w3.heap.size, 11, none⟩ = some (.bool q11) := HQ4.out.1 11 _ rfl
      have c12 : W4.cell? ⟨w3.heap.size, 12, none⟩ = some (.bool q12) := HQ4.out.1 12 _ rfl
      have c13 : W4.cell? ⟨w3.heap.size, 13, none⟩ = some (.bool q13) := HQ4.out.1 13 _ rfl
      go_wp2_with fail
      refine (opCheck_any q0 q1 q2 q3 q4 q5 q6 q7 q8 q9 q10 q11 q12 q13 X HE.out _ HK4.out).mono ?_
      rintro e w5 ⟨rfl, hb5⟩
      have HQ5 := Lib.hid (HQ4.out.below hb5)
      have HO5 := Lib.hid (HO4.out.below hb5)
      have HB5 := Lib.hid (below_self HB4.out hb5)
      clear hb5 HQ4 HO4 HB4 HK4 c0 c1 c2 c3 c4 c5 c6 c7 c8 c9 c10 c11 c12 c13 hW4
      have r0 : w5.cell? ⟨w.heap.size, 0, none⟩ = some (.int .i64 0) := HO5.out.1 0 _ rfl
      have f0 := HO5.out.2 0
      have r1 : w5.cell? ⟨w.heap.size, 1, none⟩ = some (.int .i64 0) := HO5.out.1 1 _ rfl
      have f1 := HO5.out.2 1
      have r2 : w5.cell? ⟨w.heap.size, 2, none⟩ = some (.int .i64 0) := HO5.out.1 2 _ rfl
      have f2 := HO5.out.2 2
      have r3 : w5.cell? ⟨w.heap.size, 3, none⟩ = some (.int .i64 0) := HO5.out.1 3 _ rfl
      have f3 := HO5.out.2 3
      have r4 : w5.cell? ⟨w.heap.size, 4, none⟩ = some (.bool false) := HO5.out.1 4 _ rfl
      have f4 := HO5.out.2 4
      have r5 : w5.cell? ⟨w.heap.size, 5, none⟩ = some (.bool false) := HO5.out.1 5 _ rfl
      have f5 := HO5.out.2 5
      have r6 : w5.cell? ⟨w.heap.size, 6, none⟩ = some (.bool false) := HO5.out.1 6 _ rfl
      have f6 := HO5.out.2 6
      have r7 : w5.cell? ⟨w.heap.size, 7, none⟩ = some (.bool false) := HO5.out.1 7 _ rfl
      have f7 := HO5.out.2 7
      have r8 : w5.cell? ⟨w.heap.size, 8, none⟩ = some (.bool false) := HO5.out.1 8 _ rfl
      have f8 := HO5.out.2 8
      have r9 : w5.cell? ⟨w.heap.size, 9, none⟩ = some (.bool false) := HO5.out.1 9 _ rfl
      have f9 := HO5.out.2 9
      have r10 : w5.cell? ⟨w.heap.size, 10, none⟩ = some (.bool false) := HO5.out.1 10 _ rfl
      have f10 := HO5.out.2 10
      have r11 : w5.cell? ⟨w.heap.size, 11, none⟩ = some (.bool false) := HO5.out.1 11 _ rfl
      have f11 := HO5.out.2 11
      have r12 : w5.cell? ⟨w.heap.size, 12, none⟩ = some (.bool false) := HO5.out.1 12 _ rfl
      have f12 := HO5.out.2 12
      have r13 : w5.cell? ⟨w.heap.size, 13, none⟩ = some (.bool false) := HO5.out.1 13 _ rfl
      have f13 := HO5.out.2 13
      by_cases hX0 : X = 0
      · subst hX0
        have HY := Lib.hid (show R = ⟨q0, q1, q2, q3, q4, q5, q6, q7, q8, q9, q10, q11, q12, q13⟩ ∧ E = 0 by
          have := HXX.out
          rw [if_pos rfl] at this
          injection this with e1 e2
          exact ⟨e1, e2⟩)
        have c0 : w5.cell? ⟨w3.heap.size, 0, none⟩ = some (.int .i64 q0) := HQ5.out.1 0 _ rfl
        have c1 : w5.cell? ⟨w3.heap.size, 1, none⟩ = some (.int .i64 q1) := HQ5.out.1 1 _ rfl
        have c2 : w5.cell? ⟨w3.heap.size, 2, none⟩ = some (.int .i64 q2) := HQ5.out.1 2 _ rfl
        have c3 : w5.cell? ⟨w3.heap.size, 3, none⟩ = some (.int .i64 q3) := HQ5.out.1 3 _ rfl
        have c4 : w5.cell? ⟨w3.heap.size, 4, none⟩ = some (.bool q4) := HQ5.out.1 4 _ rfl
        have c5 : w5.cell? ⟨w3.heap.size, 5, none⟩ = some (.bool q5) := HQ5.out.1 5 _ rfl
        have c6 : w5.cell? ⟨w3.heap.size, 6, none⟩ = some (.bool q6) := HQ5.out.1 6 _ rfl
        have c7 : w5.cell? ⟨w3.heap.size, 7, none⟩ = some (.bool q7) := HQ5.out.1 7 _ rfl
        have c8 : w5.cell? ⟨w3.heap.size, 8, none⟩ = some (.bool q8) := HQ5.out.1 8 _ rfl
        have c9 : w5.cell? ⟨w3.heap.size, 9, none⟩ = some (.bool q9) := HQ5.out.1 9 _ rfl
        have c10 : w5.cell? ⟨w3.heap.size, 10, none⟩ = some (.bool q10) := HQ5.out.1 10 _ rfl
        have c11 : w5.cell? ⟨w3.heap.size, 11, none⟩ = some (.bool q11) := HQ5.out.1 11 _ rfl
        have c12 : w5.cell? ⟨w3.heap.size, 12, none⟩ = some (.bool q12) := HQ5.out.1 12 _ rfl
        have c13 : w5.cell? ⟨w3.heap.size, 13, none⟩ = some (.bool q13) := HQ5.out.1 13 _ rfl
        go_wp2_with fail
        (try simp only [Exit.inBlock, Exit.then])
        refine bodyPost_ret (v := .tuple #[R.val, .int .i64 E]) ?_ rfl ⟨rfl, below_stored ⟨q0, q1, q2, q3, q4, q5, q6, q7, q8, q9, q10, q11, q12, q13⟩ (Nat.le_refl _) HB5.out⟩
        rw [HY.out.1, HY.out.2]
        exact res_opt rfl _ _ w.heap.size ⟨q0, q1, q2, q3, q4, q5, q6, q7, q8, q9, q10, q11, q12, q13⟩ _ rfl rfl (HO5.out.stored ⟨q0, q1, q2, q3, q4, q5, q6, q7, q8, q9, q10, q11, q12, q13⟩)
      · have HY := Lib.hid (show R = Opt.zero ∧ E = X by
          have := HXX.out
          rw [if_neg hX0] at this
          injection this with e1 e2
          exact ⟨e1, e2⟩)
        have g1 : (X != 0) = true := by simp [hX0]
        clear hX0
        go_wp2_with fail
        (try simp only [Exit.inBlock, Exit.then])
        refine bodyPost_ret (v := .tuple #[R.val, .int .i64 E]) ?_ rfl ⟨rfl, below_stored Opt.zero (Nat.le_refl _) HB5.out⟩
        rw [HY.out.1, HY.out.2]
        exact res_opt rfl _ _ w.heap.size Opt.zero _ rfl rfl (HO5.out.stored Opt.zero)
    · have HY := Lib.hid (show R = Opt.zero ∧ E = E1 by
        have := HX.out
        rw [if_neg hE] at this
        injection this with e1 e2
        exact ⟨e1, e2⟩)
      have g1 : (E1 != 0) = true := by simp [hE]
      have g2 : (E1 == 0) = false := by simp [hE]
      clear hE
      have r0 : W4.cell? ⟨w.heap.size, 0, none⟩ = some (.int .i64 0) := HO4.out.1 0 _ rfl
      have f0 := HO4.out.2 0
      have r1 : W4.cell? ⟨w.heap.size, 1, none⟩ = some (.int .i64 0) := HO4.out.1 1 _ rfl
      have f1 := HO4.out.2 1
      have r2 : W4.cell? ⟨w.heap.size, 2, none⟩ = some (.int .i64 0) := HO4.out.1 2 _ rfl
      have f2 := HO4.out.2 2
      have r3 : W4.cell? ⟨w.heap.size, 3, none⟩ = some (.int .i64 0) := HO4.out.1 3 _ rfl
      have f3 := HO4.out.2 3
      have r4 : W4.cell? ⟨w.heap.size, 4, none⟩ = some (.bool false) := HO4.out.1 4 _ rfl
      have f4 := HO4.out.2 4
      have r5 : W4.cell? ⟨w.heap.size, 5, none⟩ = some (.bool false) := HO4.out.1 5 _ rfl
      have f5 := HO4.out.2 5
      have r6 : W4.cell? ⟨w.heap.size, 6, none⟩ = some (.bool false) := HO4.out.1 6 _ rfl
      have f6 := HO4.out.2 6
      have r7 : W4.cell? ⟨w.heap.size, 7, none⟩ = some (.bool false) := HO4.out.1 7 _ rfl
      have f7 := HO4.out.2 7
      have r8 : W4.cell? ⟨w.heap.size, 8, none⟩ = some (.bool false) := HO4.out.1 8 _ rfl
      have f8 := HO4.out.2 8
      have r9 : W4.cell? ⟨w.heap.size, 9, none⟩ = some (.bool false) := HO4.out.1 9 _ rfl
      have f9 := HO4.out.2 9
      have r10 : W4.cell? ⟨w.heap.size, 10, none⟩ = some (.bool false) := HO4.out.1 10 _ rfl
      have f10 := HO4.out.2 10
      have r11 : W4.cell? ⟨w.heap.size, 11, none⟩ = some (.bool false) := HO4.out.1 11 _ rfl
      have f11 := HO4.out.2 11
      have r12 : W4.cell? ⟨w.heap.size, 12, none⟩ = some (.bool false) := HO4.out.1 12 _ rfl
      have f12 := HO4.out.2 12
      have r13 : W4.cell? ⟨w.heap.size, 13, none⟩ = some (.bool false) := HO4.out.1 13 _ rfl
      have f13 := HO4.out.2 13
      go_wp2_with fail
      (try simp only [Exit.inBlock, Exit.then])
      refine bodyPost_ret (v := .tuple #[R.val, .int .i64 E]) ?_ rfl ⟨rfl, below_stored Opt.zero (Nat.le_refl _) HB4.out⟩
      rw [HY.out.1, HY.out.2]
      exact res_opt rfl _ _ w.heap.size Opt.zero _ rfl rfl (HO4.out.stored Opt.zero)
end Go.Proofs.YtcdogkabdhbjmaaDoor
