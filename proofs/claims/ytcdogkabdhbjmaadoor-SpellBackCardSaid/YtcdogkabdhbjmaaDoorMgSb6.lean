/- Texts of one claim, one behind the other. -/
import Derived.Deep.DeepCutAuto
import Derived.Deep.CutBlock
import Derived.Test.YtcdogkabdhbjmaaDoorMgSb2
import Derived.Test.YtcdogkabdhbjmaaDoorMgSb4
import Derived.Test.YtcdogkabdhbjmaaDoorMgSb5
/- Options as words: the project's Parse. -/
namespace Go.Proofs.YtcdogkabdhbjmaaDoor
open Go.RowKit

set_option maxRecDepth 100000 in
set_option maxHeartbeats 4000000 in
theorem swParse_any (s : ByteArray) (R : Opt) (E : Int) (hR : parseF s = (R, E)) (w : World) (hT : TermsAt w) (hK : KindsAt w) :
    Calls Tryd.prog 26 #[.string s] w fun e w' => e = .returned (.tuple #[R.val, .int .i64 E]) ∧ Below w.heap.size w w' := by
  obtain ⟨W1, hW1⟩ : ∃ W1, w.alloc (.cells #[.int .i64 0, .int .i64 0, .int .i64 0, .int .i64 0, .bool false, .bool false, .bool false, .bool false, .bool false, .bool false, .bool false, .bool false, .bool false, .bool false] 23) = W1 := ⟨_, rfl⟩
  have hO1 : OptAt W1 w.heap.size Opt.zero := by rw [← hW1]; exact OptAt.new_ w Opt.zero 23
  have hb1 : Below w.heap.size w W1 := by rw [← hW1]; exact below_new _ _
  have HT1 := Lib.hid (hT.below hb1)
  have HK1 := Lib.hid (hK.below hb1)
  have HO1 := Lib.hid hO1
  have HB1 := Lib.hid hb1
  have HR := Lib.hid hR
  clear hR hT hK hO1 hb1
  by_cases hs : 1000 < s.size
  · have HX := Lib.hid (show R = Opt.zero ∧ E = 6 by
      have := HR.out
      unfold parseF at this
      rw [if_pos hs] at this
      injection this with e1 e2
      exact ⟨e1.symm, e2.symm⟩)
    have r0 : W1.cell? ⟨w.heap.size, 0, none⟩ = some (.int .i64 0) := HO1.out.1 0 _ rfl
    have f0 := HO1.out.2 0
    have r1 : W1.cell? ⟨w.heap.size, 1, none⟩ = some (.int .i64 0) := HO1.out.1 1 _ rfl
    have f1 := HO1.out.2 1
    have r2 : W1.cell? ⟨w.heap.size, 2, none⟩ = some (.int .i64 0) := HO1.out.1 2 _ rfl
    have f2 := HO1.out.2 2
    have r3 : W1.cell? ⟨w.heap.size, 3, none⟩ = some (.int .i64 0) := HO1.out.1 3 _ rfl
    have f3 := HO1.out.2 3
    have r4 : W1.cell? ⟨w.heap.size, 4, none⟩ = some (.bool false) := HO1.out.1 4 _ rfl
    have f4 := HO1.out.2 4
    have r5 : W1.cell? ⟨w.heap.size, 5, none⟩ = some (.bool false) := HO1.out.1 5 _ rfl
    have f5 := HO1.out.2 5
    have r6 : W1.cell? ⟨w.heap.size, 6, none⟩ = some (.bool false) := HO1.out.1 6 _ rfl
    have f6 := HO1.out.2 6
    have r7 : W1.cell? ⟨w.heap.size, 7, none⟩ = some (.bool false) := HO1.out.1 7 _ rfl
    have f7 := HO1.out.2 7
    have r8 : W1.cell? ⟨w.heap.size, 8, none⟩ = some (.bool false) := HO1.out.1 8 _ rfl
    have f8 := HO1.out.2 8
    have r9 : W1.cell? ⟨w.heap.size, 9, none⟩ = some (.bool false) := HO1.out.1 9 _ rfl
    have f9 := HO1.out.2 9
    have r10 : W1.cell? ⟨w.heap.size, 10, none⟩ = some (.bool false) := HO1.out.1 10 _ rfl
    have f10 := HO1.out.2 10
    have r11 : W1.cell? ⟨w.heap.size, 11, none⟩ = some (.bool false) := HO1.out.1 11 _ rfl
    have f11 := HO1.out.2 11
    have r12 : W1.cell? ⟨w.heap.size, 12, none⟩ = some (.bool false) := HO1.out.1 12 _ rfl
    have f12 := HO1.out.2 12
    have r13 : W1.cell? ⟨w.heap.size, 13, none⟩ = some (.bool false) := HO1.out.1 13 _ rfl
    have f13 := HO1.out.2 13
    have hs2 : (1000 : Int) < (s.size : Int) := by omega
    clear hs
    go_enter Tryd.func26, Tryd.ntmps26
    go_wp2_with fail
    (try simp only [Exit.inBlock, Exit.then])
    refine bodyPost_ret (v := .tuple #[R.val, .int .i64 E]) ?_ rfl ⟨rfl, below_stored Opt.zero (Nat.le_refl _) HB1.out⟩
    rw [HX.out.1, HX.out.2]
    exact res_opt rfl _ _ w.heap.size Opt.zero _ rfl rfl (HO1.out.stored Opt.zero)
  · obtain ⟨R1, E1, h1⟩ : ∃ R1 E1, saidF (wordsF s) = (R1, E1) := ⟨_, _, rfl⟩
    have HX := Lib.hid (show (R, E) = (if E1 = 0 then (if R1.err = 0 then (R1, 0) else (Opt.zero, R1.err)) else (Opt.zero, E1)) by
      have := HR.out
      unfold parseF at this
      rw [if_neg hs, h1] at this
      exact this.symm)
    have HS := Lib.hid h1
    have hlen := words_len s
    have HLEN := Lib.hid (show (wordsF s).length ≤ 100000 by omega)
    have hs1 : s.size ≤ 1000 := by omega
    have HSZ := Lib.hid hs1
    have hs2 : ¬ (1000 : Int) < (s.size : Int) := by omega
    clear hs h1 hlen hs1 HR
    go_enter Tryd.func26, Tryd.ntmps26
    go_wp2_with fail
    refine (fields_any s HSZ.out _).mono ?_
    rintro e w2 ⟨A, c, rfl, hr2, hb2⟩
    have HRD := Lib.hid hr2
    have HT2 := Lib.hid (HT1.out.below hb2)
    have HK2 := Lib.hid (HK1.out.below hb2)
    have HO2 := Lib.hid (HO1.out.below hb2)
    have HB2 := Lib.hid (below_self HB1.out hb2)
    clear hr2 hb2 HT1 HK1 HO1 HB1 hW1 hs2
    go_wp2_with fail
    refine (swSaid_any A _ c _ rfl HLEN.out R1 E1 HS.out w2 HT2.out HRD.out).mono ?_
    rintro e w3 ⟨rfl, hb3⟩
    have HT3 := Lib.hid (HT2.out.below hb3)
    have HK3 := Lib.hid (HK2.out.below hb3)
    have HO3 := Lib.hid (HO2.out.below hb3)
    have HB3 := Lib.hid (below_self HB2.out hb3)
    clear hb3 HT2 HK2 HO2 HB2 HRD HS
    obtain ⟨q0, q1, q2, q3, q4, q5, q6, q7, q8, q9, q10, q11, q12, q13⟩ := R1
    simp only [Opt.val, Opt.cells]
    obtain ⟨W4, hW4⟩ : ∃ W4, w3.alloc (.cells #[.int .i64 q0, .int .i64 q1, .int .i64 q2, .int .i64 q3, .bool q4, .bool q5, .bool q6, .bool q7, .bool q8, .bool q9, .bool q10, .bool q11, .bool q12, .bool q13] 23) = W4 := ⟨_, rfl⟩
    have hb4 : Below w3.heap.size w3 W4 := by rw [← hW4]; exact below_new _ _
    have hQ4 : OptAt W4 w3.heap.size ⟨q0, q1, q2, q3, q4, q5, q6, q7, q8, q9, q10, q11, q12, q13⟩ := by rw [← hW4]; exact OptAt.new_ w3 ⟨q0, q1, q2, q3, q4, q5, q6, q7, q8, q9, q10, q11, q12, q13⟩ 23
    have HQ4 := Lib.hid hQ4
    have HK4 := Lib.hid (HK3.out.below hb4)
    have HO4 := Lib.hid (HO3.out.below hb4)
    have HB4 := Lib.hid (below_self HB3.out hb4)
    clear hb4 hQ4 HT3 HK3 HO3 HB3
    by_cases hE : E1 = 0
    · subst hE
      obtain ⟨X, hX⟩ : ∃ X, Opt.err ⟨q0, q1, q2, q3, q4, q5, q6, q7, q8, q9, q10, q11, q12, q13⟩ = X := ⟨_, rfl⟩
      have HXX := Lib.hid (show (R, E) = (if X = 0 then (⟨q0, q1, q2, q3, q4, q5, q6, q7, q8, q9, q10, q11, q12, q13⟩, 0) else (Opt.zero, X)) by
        have := HX.out
        rw [if_pos rfl, hX] at this
        exact this)
      have HE := Lib.hid hX
      clear hX HX
      have c0 : W4.cell? ⟨w3.heap.size, 0, none⟩ = some (.int .i64 q0) := HQ4.out.1 0 _ rfl
      have c1 : W4.cell? ⟨w3.heap.size, 1, none⟩ = some (.int .i64 q1) := HQ4.out.1 1 _ rfl
      have c2 : W4.cell? ⟨w3.heap.size, 2, none⟩ = some (.int .i64 q2) := HQ4.out.1 2 _ rfl
      have c3 : W4.cell? ⟨w3.heap.size, 3, none⟩ = some (.int .i64 q3) := HQ4.out.1 3 _ rfl
      have c4 : W4.cell? ⟨w3.heap.size, 4, none⟩ = some (.bool q4) := HQ4.out.1 4 _ rfl
      have c5 : W4.cell? ⟨w3.heap.size, 5, none⟩ = some (.bool q5) := HQ4.out.1 5 _ rfl
      have c6 : W4.cell? ⟨w3.heap.size, 6, none⟩ = some (.bool q6) := HQ4.out.1 6 _ rfl
      have c7 : W4.cell? ⟨w3.heap.size, 7, none⟩ = some (.bool q7) := HQ4.out.1 7 _ rfl
      have c8 : W4.cell? ⟨w3.heap.size, 8, none⟩ = some (.bool q8) := HQ4.out.1 8 _ rfl
      have c9 : W4.cell? ⟨w3.heap.size, 9, none⟩ = some (.bool q9) := HQ4.out.1 9 _ rfl
      have c10 : W4.cell? ⟨w3.heap.size, 10, none⟩ = some (.bool q10) := HQ4.out.1 10 _ rfl
      have c11 : W4.cell? ⟨w3.heap.size, 11, none⟩ = some (.bool q11) := HQ4.out.1 11 _ rfl
      have c12 : W4.cell? ⟨w3.heap.size, 12, none⟩ = some (.bool q12) := HQ4.out.1 12 _ rfl
      have c13 : W4.cell? ⟨w3.heap.size, 13, none⟩ = some (.bool q13) := HQ4.out.1 13 _ rfl
      go_wp2_with fail
      refine (opCheck_any q0 q1 q2 q3 q4 q5 q6 q7 q8 q9 q10 q11 q12 q13 X HE.out _ HK4.out).mono ?_
      rintro e w5 ⟨rfl, hb5⟩
      have HQ5 := Lib.hid (HQ4.out.below hb5)
      have HO5 := Lib.hid (HO4.out.below hb5)
      have HB5 := Lib.hid (below_self HB4.out hb5)
      clear hb5 HQ4 HO4 HB4 HK4 c0 c1 c2 c3 c4 c5 c6 c7 c8 c9 c10 c11 c12 c13 hW4
      have r0 : w5.cell? ⟨w.heap.size, 0, none⟩ = some (.int .i64 0) := HO5.out.1 0 _ rfl
      have f0 := HO5.out.2 0
      have r1 : w5.cell? ⟨w.heap.size, 1, none⟩ = some (.int .i64 0) := HO5.out.1 1 _ rfl
      have f1 := HO5.out.2 1
      have r2 : w5.cell? ⟨w.heap.size, 2, none⟩ = some (.int .i64 0) := HO5.out.1 2 _ rfl
      have f2 := HO5.out.2 2
      have r3 : w5.cell? ⟨w.heap.size, 3, none⟩ = some (.int .i64 0) := HO5.out.1 3 _ rfl
      have f3 := HO5.out.2 3
      have r4 : w5.cell? ⟨w.heap.size, 4, none⟩ = some (.bool false) := HO5.out.1 4 _ rfl
      have f4 := HO5.out.2 4
      have r5 : w5.cell? ⟨w.heap.size, 5, none⟩ = some (.bool false) := HO5.out.1 5 _ rfl
      have f5 := HO5.out.2 5
      have r6 : w5.cell? ⟨w.heap.size, 6, none⟩ = some (.bool false) := HO5.out.1 6 _ rfl
      have f6 := HO5.out.2 6
      have r7 : w5.cell? ⟨w.heap.size, 7, none⟩ = some (.bool false) := HO5.out.1 7 _ rfl
      have f7 := HO5.out.2 7
      have r8 : w5.cell? ⟨w.heap.size, 8, none⟩ = some (.bool false) := HO5.out.1 8 _ rfl
      have f8 := HO5.out.2 8
      have r9 : w5.cell? ⟨w.heap.size, 9, none⟩ = some (.bool false) := HO5.out.1 9 _ rfl
      have f9 := HO5.out.2 9
      have r10 : w5.cell? ⟨w.heap.size, 10, none⟩ = some (.bool false) := HO5.out.1 10 _ rfl
      have f10 := HO5.out.2 10
      have r11 : w5.cell? ⟨w.heap.size, 11, none⟩ = some (.bool false) := HO5.out.1 11 _ rfl
      have f11 := HO5.out.2 11
      have r12 : w5.cell? ⟨w.heap.size, 12, none⟩ = some (.bool false) := HO5.out.1 12 _ rfl
      have f12 := HO5.out.2 12
      have r13 : w5.cell? ⟨w.heap.size, 13, none⟩ = some (.bool false) := HO5.out.1 13 _ rfl
      have f13 := HO5.out.2 13
      by_cases hX0 : X = 0
      · subst hX0
        have HY := Lib.hid (show R = ⟨q0, q1, q2, q3, q4, q5, q6, q7, q8, q9, q10, q11, q12, q13⟩ ∧ E = 0 by
          have := HXX.out
          rw [if_pos rfl] at this
          injection this with e1 e2
          exact ⟨e1, e2⟩)
        have c0 : w5.cell? ⟨w3.heap.size, 0, none⟩ = some (.int .i64 q0) := HQ5.out.1 0 _ rfl
        have c1 : w5.cell? ⟨w3.heap.size, 1, none⟩ = some (.int .i64 q1) := HQ5.out.1 1 _ rfl
        have c2 : w5.cell? ⟨w3.heap.size, 2, none⟩ = some (.int .i64 q2) := HQ5.out.1 2 _ rfl
        have c3 : w5.cell? ⟨w3.heap.size, 3, none⟩ = some (.int .i64 q3) := HQ5.out.1 3 _ rfl
        have c4 : w5.cell? ⟨w3.heap.size, 4, none⟩ = some (.bool q4) := HQ5.out.1 4 _ rfl
        have c5 : w5.cell? ⟨w3.heap.size, 5, none⟩ = some (.bool q5) := HQ5.out.1 5 _ rfl
        have c6 : w5.cell? ⟨w3.heap.size, 6, none⟩ = some (.bool q6) := HQ5.out.1 6 _ rfl
        have c7 : w5.cell? ⟨w3.heap.size, 7, none⟩ = some (.bool q7) := HQ5.out.1 7 _ rfl
        have c8 : w5.cell? ⟨w3.heap.size, 8, none⟩ = some (.bool q8) := HQ5.out.1 8 _ rfl
        have c9 : w5.cell? ⟨w3.heap.size, 9, none⟩ = some (.bool q9) := HQ5.out.1 9 _ rfl
        have c10 : w5.cell? ⟨w3.heap.size, 10, none⟩ = some (.bool q10) := HQ5.out.1 10 _ rfl
        have c11 : w5.cell? ⟨w3.heap.size, 11, none⟩ = some (.bool q11) := HQ5.out.1 11 _ rfl
        have c12 : w5.cell? ⟨w3.heap.size, 12, none⟩ = some (.bool q12) := HQ5.out.1 12 _ rfl
        have c13 : w5.cell? ⟨w3.heap.size, 13, none⟩ = some (.bool q13) := HQ5.out.1 13 _ rfl
        go_wp2_with fail
        (try simp only [Exit.inBlock, Exit.then])
        refine bodyPost_ret (v := .tuple #[R.val, .int .i64 E]) ?_ rfl ⟨rfl, below_stored ⟨q0, q1, q2, q3, q4, q5, q6, q7, q8, q9, q10, q11, q12, q13⟩ (Nat.le_refl _) HB5.out⟩
        rw [HY.out.1, HY.out.2]
        exact res_opt rfl _ _ w.heap.size ⟨q0, q1, q2, q3, q4, q5, q6, q7, q8, q9, q10, q11, q12, q13⟩ _ rfl rfl (HO5.out.stored ⟨q0, q1, q2, q3, q4, q5, q6, q7, q8, q9, q10, q11, q12, q13⟩)
      · have HY := Lib.hid (show R = Opt.zero ∧ E = X by
          have := HXX.out
          rw [if_neg hX0] at this
          injection this with e1 e2
          exact ⟨e1, e2⟩)
        have g1 : (X != 0) = true := by simp [hX0]
        clear hX0
        go_wp2_with fail
        (try simp only [Exit.inBlock, Exit.then])
        refine bodyPost_ret (v := .tuple #[R.val, .int .i64 E]) ?_ rfl ⟨rfl, below_stored Opt.zero (Nat.le_refl _) HB5.out⟩
        rw [HY.out.1, HY.out.2]
        exact res_opt rfl _ _ w.heap.size Opt.zero _ rfl rfl (HO5.out.stored Opt.zero)
    · have HY := Lib.hid (show R = Opt.zero ∧ E = E1 by
        have := HX.out
        rw [if_neg hE] at this
        injection this with e1 e2
        exact ⟨e1, e2⟩)
      have g1 : (E1 != 0) = true := by simp [hE]
      have g2 : (E1 == 0) = false := by simp [hE]
      clear hE
      have r0 : W4.cell? ⟨w.heap.size, 0, none⟩ = some (.int .i64 0) := HO4.out.1 0 _ rfl
      have f0 := HO4.out.2 0
      have r1 : W4.cell? ⟨w.heap.size, 1, none⟩ = some (.int .i64 0) := HO4.out.1 1 _ rfl
      have f1 := HO4.out.2 1
      have r2 : W4.cell? ⟨w.heap.size, 2, none⟩ = some (.int .i64 0) := HO4.out.1 2 _ rfl
      have f2 := HO4.out.2 2
      have r3 : W4.cell? ⟨w.heap.size, 3, none⟩ = some (.int .i64 0) := HO4.out.1 3 _ rfl
      have f3 := HO4.out.2 3
      have r4 : W4.cell? ⟨w.heap.size, 4, none⟩ = some (.bool false) := HO4.out.1 4 _ rfl
      have f4 := HO4.out.2 4
      have r5 : W4.cell? ⟨w.heap.size, 5, none⟩ = some (.bool false) := HO4.out.1 5 _ rfl
      have f5 := HO4.out.2 5
      have r6 : W4.cell? ⟨w.heap.size, 6, none⟩ = some (.bool false) := HO4.out.1 6 _ rfl
      have f6 := HO4.out.2 6
      have r7 : W4.cell? ⟨w.heap.size, 7, none⟩ = some (.bool false) := HO4.out.1 7 _ rfl
      have f7 := HO4.out.2 7
      have r8 : W4.cell? ⟨w.heap.size, 8, none⟩ = some (.bool false) := HO4.out.1 8 _ rfl
      have f8 := HO4.out.2 8
      have r9 : W4.cell? ⟨w.heap.size, 9, none⟩ = some (.bool false) := HO4.out.1 9 _ rfl
      have f9 := HO4.out.2 9
      have r10 : W4.cell? ⟨w.heap.size, 10, none⟩ = some (.bool false) := HO4.out.1 10 _ rfl
      have f10 := HO4.out.2 10
      have r11 : W4.cell? ⟨w.heap.size, 11, none⟩ = some (.bool false) := HO4.out.1 11 _ rfl
      have f11 := HO4.out.2 11
      have r12 : W4.cell? ⟨w.heap.size, 12, none⟩ = some (.bool false) := HO4.out.1 12 _ rfl
      have f12 := HO4.out.2 12
      have r13 : W4.cell? ⟨w.heap.size, 13, none⟩ = some (.bool false) := HO4.out.1 13 _ rfl
      have f13 := HO4.out.2 13
      go_wp2_with fail
      (try simp only [Exit.inBlock, Exit.then])
      refine bodyPost_ret (v := .tuple #[R.val, .int .i64 E]) ?_ rfl ⟨rfl, below_stored Opt.zero (Nat.le_refl _) HB4.out⟩
      rw [HY.out.1, HY.out.2]
      exact res_opt rfl _ _ w.heap.size Opt.zero _ rfl rfl (HO4.out.stored Opt.zero)
end Go.Proofs.YtcdogkabdhbjmaaDoor
/- Options as words, the reference: a field set. -/
namespace Go.Proofs.YtcdogkabdhbjmaaDoor
open Go.RowKit

set_option maxRecDepth 100000 in
set_option maxHeartbeats 8000000 in
theorem setAt_any (d l t g : Int) (b0 b1 b2 b3 b4 b5 b6 b7 b8 b9 : Bool) (k : Nat) (hk : k < 14) (n : Int) (hn : 0 ≤ n ∧ n ≤ 4) (R : Opt) (hR : Opt.put ⟨d, l, t, g, b0, b1, b2, b3, b4, b5, b6, b7, b8, b9⟩ k (if k = 0 then n - 1 else n) = R) (w : World) :
    Calls Tryd.prog 49 #[.agg #[.int .i64 d, .int .i64 l, .int .i64 t, .int .i64 g, .bool b0, .bool b1, .bool b2, .bool b3, .bool b4, .bool b5, .bool b6, .bool b7, .bool b8, .bool b9], .int .i64 (k : Int), .int .i64 n] w fun e w' => e = .returned R.val ∧ Below w.heap.size w w' := by
  obtain ⟨hn0, hn1⟩ := hn
  obtain ⟨W1, hW1⟩ : ∃ W1, w.alloc (.cells #[.int .i64 d, .int .i64 l, .int .i64 t, .int .i64 g, .bool b0, .bool b1, .bool b2, .bool b3, .bool b4, .bool b5, .bool b6, .bool b7, .bool b8, .bool b9] 23) = W1 := ⟨_, rfl⟩
  have hO1 : OptAt W1 w.heap.size ⟨d, l, t, g, b0, b1, b2, b3, b4, b5, b6, b7, b8, b9⟩ := by rw [← hW1]; exact OptAt.new_ w ⟨d, l, t, g, b0, b1, b2, b3, b4, b5, b6, b7, b8, b9⟩ 23
  have hb1 : Below w.heap.size w W1 := by rw [← hW1]; exact below_new _ _
  obtain ⟨W2, hW2⟩ : ∃ W2, W1.alloc (.cells #[.int .i64 0, .int .i64 0, .int .i64 0, .int .i64 0, .bool false, .bool false, .bool false, .bool false, .bool false, .bool false, .bool false, .bool false, .bool false, .bool false] 23) = W2 := ⟨_, rfl⟩
  have hR2 : OptAt W2 W1.heap.size Opt.zero := by rw [← hW2]; exact OptAt.new_ W1 Opt.zero 23
  have hb2 : Below W1.heap.size W1 W2 := by rw [← hW2]; exact below_new _ _
  have hO2 := hO1.below hb2
  have hl1 := hO1.lt
  have hne : W1.heap.size ≠ w.heap.size := by omega
  have hle : w.heap.size ≤ W1.heap.size := by omega
  have HL := Lib.hid hle
  have HN := Lib.hid hne
  have HI := Lib.hid (show RInv w.heap.size W1.heap.size w ⟨d, l, t, g, b0, b1, b2, b3, b4, b5, b6, b7, b8, b9⟩ W2 from ⟨hO2, hR2, below_self hb1 hb2⟩)
  have HR := Lib.hid hR
  clear hO1 hb1 hb2 hO2 hR2 hne hle hR hl1
  go_enter Tryd.func49, Tryd.ntmps49
  go_upto_block 0 with fail
  clear hW1 hW2
  generalize W1.heap.size = r at *
  obtain ⟨B, hB⟩ : ∃ B, w.heap.size = B := ⟨_, rfl⟩
  have HB := Lib.hid hB
  rw [hB] at HI HN HL
  simp only [hB]
  clear hB
  go_cut [] (fun wx => RInv B r w R wx)
  case first =>
    clear HB
    have hkc : k = 0 ∨ k = 1 ∨ k = 2 ∨ k = 3 ∨ k = 4 ∨ k = 5 ∨ k = 6 ∨ k = 7 ∨ k = 8 ∨ k = 9 ∨ k = 10 ∨ k = 11 ∨ k = 12 ∨ k = 13 := by omega
    clear hk
    rcases hkc with rfl | rfl | rfl | rfl | rfl | rfl | rfl | rfl | rfl | rfl | rfl | rfl | rfl | rfl
    · have c0 : W2.cell? ⟨B, 0, none⟩ = some (.int .i64 d) := HI.out.1.1 0 _ rfl
      have e0 := HI.out.1.2 0
      have HX := Lib.hid (show R = ⟨n - 1, l, t, g, b0, b1, b2, b3, b4, b5, b6, b7, b8, b9⟩ from HR.out.symm)
      clear HR
      go_wp2_with fail
      go_meet
      rw [HX.out]
      exact ⟨HI.out.1.set0 (n - 1), HI.out.2.1.far HN.out _ _, below_setB HI.out.2.2 (Nat.le_refl _) _ _⟩
    · have c1 : W2.cell? ⟨B, 1, none⟩ = some (.int .i64 l) := HI.out.1.1 1 _ rfl
      have e1 := HI.out.1.2 1
      have HX := Lib.hid (show R = ⟨d, n, t, g, b0, b1, b2, b3, b4, b5, b6, b7, b8, b9⟩ from HR.out.symm)
      clear HR
      go_wp2_with fail
      go_meet
      rw [HX.out]
      exact ⟨HI.out.1.set1 n, HI.out.2.1.far HN.out _ _, below_setB HI.out.2.2 (Nat.le_refl _) _ _⟩
    · have c2 : W2.cell? ⟨B, 2, none⟩ = some (.int .i64 t) := HI.out.1.1 2 _ rfl
      have e2 := HI.out.1.2 2
      have HX := Lib.hid (show R = ⟨d, l, n, g, b0, b1, b2, b3, b4, b5, b6, b7, b8, b9⟩ from HR.out.symm)
      clear HR
      go_wp2_with fail
      go_meet
      rw [HX.out]
      exact ⟨HI.out.1.set2 n, HI.out.2.1.far HN.out _ _, below_setB HI.out.2.2 (Nat.le_refl _) _ _⟩
    · have c3 : W2.cell? ⟨B, 3, none⟩ = some (.int .i64 g) := HI.out.1.1 3 _ rfl
      have e3 := HI.out.1.2 3
      have HX := Lib.hid (show R = ⟨d, l, t, n, b0, b1, b2, b3, b4, b5, b6, b7, b8, b9⟩ from HR.out.symm)
      clear HR
      go_wp2_with fail
      go_meet
      rw [HX.out]
      exact ⟨HI.out.1.set3 n, HI.out.2.1.far HN.out _ _, below_setB HI.out.2.2 (Nat.le_refl _) _ _⟩
    · have c4 : W2.cell? ⟨B, 4, none⟩ = some (.bool b0) := HI.out.1.1 4 _ rfl
      have e4 := HI.out.1.2 4
      have HX := Lib.hid (show R = ⟨d, l, t, g, true, b1, b2, b3, b4, b5, b6, b7, b8, b9⟩ from HR.out.symm)
      clear HR
      go_wp2_with fail
      go_meet
      rw [HX.out]
      exact ⟨HI.out.1.setF0 true, HI.out.2.1.far HN.out _ _, below_setB HI.out.2.2 (Nat.le_refl _) _ _⟩
    · have c5 : W2.cell? ⟨B, 5, none⟩ = some (.bool b1) := HI.out.1.1 5 _ rfl
      have e5 := HI.out.1.2 5
      have HX := Lib.hid (show R = ⟨d, l, t, g, b0, true, b2, b3, b4, b5, b6, b7, b8, b9⟩ from HR.out.symm)
      clear HR
      go_wp2_with fail
      go_meet
      rw [HX.out]
      exact ⟨HI.out.1.setF1 true, HI.out.2.1.far HN.out _ _, below_setB HI.out.2.2 (Nat.le_refl _) _ _⟩
    · have c6 : W2.cell? ⟨B, 6, none⟩ = some (.bool b2) := HI.out.1.1 6 _ rfl
      have e6 := HI.out.1.2 6
      have HX := Lib.hid (show R = ⟨d, l, t, g, b0, b1, true, b3, b4, b5, b6, b7, b8, b9⟩ from HR.out.symm)
      clear HR
      go_wp2_with fail
      go_meet
      rw [HX.out]
      exact ⟨HI.out.1.setF2 true, HI.out.2.1.far HN.out _ _, below_setB HI.out.2.2 (Nat.le_refl _) _ _⟩
    · have c7 : W2.cell? ⟨B, 7, none⟩ = some (.bool b3) := HI.out.1.1 7 _ rfl
      have e7 := HI.out.1.2 7
      have HX := Lib.hid (show R = ⟨d, l, t, g, b0, b1, b2, true, b4, b5, b6, b7, b8, b9⟩ from HR.out.symm)
      clear HR
      go_wp2_with fail
      go_meet
      rw [HX.out]
      exact ⟨HI.out.1.setF3 true, HI.out.2.1.far HN.out _ _, below_setB HI.out.2.2 (Nat.le_refl _) _ _⟩
    · have c8 : W2.cell? ⟨B, 8, none⟩ = some (.bool b4) := HI.out.1.1 8 _ rfl
      have e8 := HI.out.1.2 8
      have HX := Lib.hid (show R = ⟨d, l, t, g, b0, b1, b2, b3, true, b5, b6, b7, b8, b9⟩ from HR.out.symm)
      clear HR
      go_wp2_with fail
      go_meet
      rw [HX.out]
      exact ⟨HI.out.1.setF4 true, HI.out.2.1.far HN.out _ _, below_setB HI.out.2.2 (Nat.le_refl _) _ _⟩
    · have c9 : W2.cell? ⟨B, 9, none⟩ = some (.bool b5) := HI.out.1.1 9 _ rfl
      have e9 := HI.out.1.2 9
      have HX := Lib.hid (show R = ⟨d, l, t, g, b0, b1, b2, b3, b4, true, b6, b7, b8, b9⟩ from HR.out.symm)
      clear HR
      go_wp2_with fail
      go_meet
      rw [HX.out]
      exact ⟨HI.out.1.setF5 true, HI.out.2.1.far HN.out _ _, below_setB HI.out.2.2 (Nat.le_refl _) _ _⟩
    · have c10 : W2.cell? ⟨B, 10, none⟩ = some (.bool b6) := HI.out.1.1 10 _ rfl
      have e10 := HI.out.1.2 10
      have HX := Lib.hid (show R = ⟨d, l, t, g, b0, b1, b2, b3, b4, b5, true, b7, b8, b9⟩ from HR.out.symm)
      clear HR
      go_wp2_with fail
      go_meet
      rw [HX.out]
      exact ⟨HI.out.1.setF6 true, HI.out.2.1.far HN.out _ _, below_setB HI.out.2.2 (Nat.le_refl _) _ _⟩
    · have c11 : W2.cell? ⟨B, 11, none⟩ = some (.bool b7) := HI.out.1.1 11 _ rfl
      have e11 := HI.out.1.2 11
      have HX := Lib.hid (show R = ⟨d, l, t, g, b0, b1, b2, b3, b4, b5, b6, true, b8, b9⟩ from HR.out.symm)
      clear HR
      go_wp2_with fail
      go_meet
      rw [HX.out]
      exact ⟨HI.out.1.setF7 true, HI.out.2.1.far HN.out _ _, below_setB HI.out.2.2 (Nat.le_refl _) _ _⟩
    · have c12 : W2.cell? ⟨B, 12, none⟩ = some (.bool b8) := HI.out.1.1 12 _ rfl
      have e12 := HI.out.1.2 12
      have HX := Lib.hid (show R = ⟨d, l, t, g, b0, b1, b2, b3, b4, b5, b6, b7, true, b9⟩ from HR.out.symm)
      clear HR
      go_wp2_with fail
      go_meet
      rw [HX.out]
      exact ⟨HI.out.1.setF8 true, HI.out.2.1.far HN.out _ _, below_setB HI.out.2.2 (Nat.le_refl _) _ _⟩
    · have c13 : W2.cell? ⟨B, 13, none⟩ = some (.bool b9) := HI.out.1.1 13 _ rfl
      have e13 := HI.out.1.2 13
      have HX := Lib.hid (show R = ⟨d, l, t, g, b0, b1, b2, b3, b4, b5, b6, b7, b8, true⟩ from HR.out.symm)
      clear HR
      go_wp2_with fail
      go_meet
      rw [HX.out]
      exact ⟨HI.out.1.setF9 true, HI.out.2.1.far HN.out _ _, below_setB HI.out.2.2 (Nat.le_refl _) _ _⟩
  case rest =>
    clear HI HR HN
    obtain ⟨d4, l4, t4, g4, z0, z1, z2, z3, z4, z5, z6, z7, z8, z9⟩ := R
    have HI := Lib.hid hcut
    clear hcut
    have c0 : wc.cell? ⟨B, 0, none⟩ = some (.int .i64 d4) := HI.out.1.1 0 _ rfl
    have c1 : wc.cell? ⟨B, 1, none⟩ = some (.int .i64 l4) := HI.out.1.1 1 _ rfl
    have c2 : wc.cell? ⟨B, 2, none⟩ = some (.int .i64 t4) := HI.out.1.1 2 _ rfl
    have c3 : wc.cell? ⟨B, 3, none⟩ = some (.int .i64 g4) := HI.out.1.1 3 _ rfl
    have c4 : wc.cell? ⟨B, 4, none⟩ = some (.bool z0) := HI.out.1.1 4 _ rfl
    have c5 : wc.cell? ⟨B, 5, none⟩ = some (.bool z1) := HI.out.1.1 5 _ rfl
    have c6 : wc.cell? ⟨B, 6, none⟩ = some (.bool z2) := HI.out.1.1 6 _ rfl
    have c7 : wc.cell? ⟨B, 7, none⟩ = some (.bool z3) := HI.out.1.1 7 _ rfl
    have c8 : wc.cell? ⟨B, 8, none⟩ = some (.bool z4) := HI.out.1.1 8 _ rfl
    have c9 : wc.cell? ⟨B, 9, none⟩ = some (.bool z5) := HI.out.1.1 9 _ rfl
    have c10 : wc.cell? ⟨B, 10, none⟩ = some (.bool z6) := HI.out.1.1 10 _ rfl
    have c11 : wc.cell? ⟨B, 11, none⟩ = some (.bool z7) := HI.out.1.1 11 _ rfl
    have c12 : wc.cell? ⟨B, 12, none⟩ = some (.bool z8) := HI.out.1.1 12 _ rfl
    have c13 : wc.cell? ⟨B, 13, none⟩ = some (.bool z9) := HI.out.1.1 13 _ rfl
    have r0 : wc.cell? ⟨r, 0, none⟩ = some (.int .i64 0) := HI.out.2.1.1 0 _ rfl
    have h0 := HI.out.2.1.2 0
    have r1 : wc.cell? ⟨r, 1, none⟩ = some (.int .i64 0) := HI.out.2.1.1 1 _ rfl
    have h1 := HI.out.2.1.2 1
    have r2 : wc.cell? ⟨r, 2, none⟩ = some (.int .i64 0) := HI.out.2.1.1 2 _ rfl
    have h2 := HI.out.2.1.2 2
    have r3 : wc.cell? ⟨r, 3, none⟩ = some (.int .i64 0) := HI.out.2.1.1 3 _ rfl
    have h3 := HI.out.2.1.2 3
    have r4 : wc.cell? ⟨r, 4, none⟩ = some (.bool false) := HI.out.2.1.1 4 _ rfl
    have h4 := HI.out.2.1.2 4
    have r5 : wc.cell? ⟨r, 5, none⟩ = some (.bool false) := HI.out.2.1.1 5 _ rfl
    have h5 := HI.out.2.1.2 5
    have r6 : wc.cell? ⟨r, 6, none⟩ = some (.bool false) := HI.out.2.1.1 6 _ rfl
    have h6 := HI.out.2.1.2 6
    have r7 : wc.cell? ⟨r, 7, none⟩ = some (.bool false) := HI.out.2.1.1 7 _ rfl
    have h7 := HI.out.2.1.2 7
    have r8 : wc.cell? ⟨r, 8, none⟩ = some (.bool false) := HI.out.2.1.1 8 _ rfl
    have h8 := HI.out.2.1.2 8
    have r9 : wc.cell? ⟨r, 9, none⟩ = some (.bool false) := HI.out.2.1.1 9 _ rfl
    have h9 := HI.out.2.1.2 9
    have r10 : wc.cell? ⟨r, 10, none⟩ = some (.bool false) := HI.out.2.1.1 10 _ rfl
    have h10 := HI.out.2.1.2 10
    have r11 : wc.cell? ⟨r, 11, none⟩ = some (.bool false) := HI.out.2.1.1 11 _ rfl
    have h11 := HI.out.2.1.2 11
    have r12 : wc.cell? ⟨r, 12, none⟩ = some (.bool false) := HI.out.2.1.1 12 _ rfl
    have h12 := HI.out.2.1.2 12
    have r13 : wc.cell? ⟨r, 13, none⟩ = some (.bool false) := HI.out.2.1.1 13 _ rfl
    have h13 := HI.out.2.1.2 13
    go_wp2_with fail
    (try simp only [Exit.inBlock, Exit.then])
    refine bodyPost_ret (v := Opt.val ⟨d4, l4, t4, g4, z0, z1, z2, z3, z4, z5, z6, z7, z8, z9⟩) ?_ rfl ⟨rfl, by rw [HB.out]; exact below_stored ⟨d4, l4, t4, g4, z0, z1, z2, z3, z4, z5, z6, z7, z8, z9⟩ HL.out HI.out.2.2⟩
    exact res_opt1 rfl _ _ r ⟨d4, l4, t4, g4, z0, z1, z2, z3, z4, z5, z6, z7, z8, z9⟩ rfl (HI.out.2.1.stored ⟨d4, l4, t4, g4, z0, z1, z2, z3, z4, z5, z6, z7, z8, z9⟩)
theorem set_any (o : Opt) (k : Nat) (hk : k < 14) (n : Int) (hn : 0 ≤ n ∧ n ≤ 4) (w : World) :
    Calls Tryd.prog 49 #[o.val, .int .i64 (k : Int), .int .i64 n] w fun e w' => e = .returned (Opt.val (o.put k (if k = 0 then n - 1 else n))) ∧ Below w.heap.size w w' := by
  obtain ⟨d, l, t, g, b0, b1, b2, b3, b4, b5, b6, b7, b8, b9⟩ := o
  exact setAt_any d l t g b0 b1 b2 b3 b4 b5 b6 b7 b8 b9 k hk n hn _ rfl w
end Go.Proofs.YtcdogkabdhbjmaaDoor
/- Options as words, the reference: the words of a field, a word's field, a field set. -/
namespace Go.Proofs.YtcdogkabdhbjmaaDoor
open Go.RowKit

/-- The words of a field. -/
def wordsOf : Nat → List ByteArray
  | 0 => [⟨#[108, 116, 114]⟩, ⟨#[114, 116, 108]⟩, ⟨#[102, 105, 114, 115, 116, 45, 108, 116, 114]⟩, ⟨#[102, 105, 114, 115, 116, 45, 114, 116, 108]⟩]
  | 1 => [⟨#[108, 97, 109, 45, 114, 101, 115, 105, 122, 101]⟩, ⟨#[108, 97, 109, 45, 110, 101, 97, 114]⟩, ⟨#[108, 97, 109, 45, 98, 101, 103, 105, 110]⟩, ⟨#[108, 97, 109, 45, 101, 110, 100]⟩]
  | 2 => [⟨#[109, 97, 114, 107, 45, 105, 115, 111, 108, 97, 116, 101, 100]⟩, ⟨#[109, 97, 114, 107, 45, 109, 101, 100, 105, 97, 108]⟩, ⟨#[109, 97, 114, 107, 45, 114, 101, 109, 111, 118, 101]⟩, ⟨#[109, 97, 114, 107, 45, 116, 97, 116, 119, 101, 101, 108]⟩]
  | 3 => [⟨#[116, 111, 45, 97, 114, 97, 98, 105, 99]⟩, ⟨#[116, 111, 45, 101, 117, 114, 111, 112, 101, 97, 110]⟩, ⟨#[99, 111, 110, 116, 101, 120, 116, 45, 108, 116, 114]⟩, ⟨#[99, 111, 110, 116, 101, 120, 116, 45, 97, 114, 97, 98, 105, 99]⟩]
  | 4 => [⟨#[101, 97, 115, 116, 101, 114, 110]⟩]
  | 5 => [⟨#[108, 101, 116, 116, 101, 114, 115]⟩]
  | 6 => [⟨#[116, 104, 114, 111, 117, 103, 104]⟩]
  | 7 => [⟨#[112, 105, 108, 101]⟩]
  | 8 => [⟨#[115, 101, 101, 110]⟩]
  | 9 => [⟨#[121, 101, 104]⟩]
  | 10 => [⟨#[114, 101, 111, 114, 100, 101, 114]⟩]
  | 11 => [⟨#[109, 97, 114, 107, 115]⟩]
  | 12 => [⟨#[109, 105, 114, 114, 111, 114]⟩]
  | 13 => [⟨#[115, 116, 114, 105, 112]⟩]
  | _ => []
theorem rdStrs (w : World) (l : List ByteArray) (t : TypeId) : Rd (w.alloc (.cells (l.map Value.string).toArray t)) 1 (some ⟨w.heap.size, 0, none⟩) l.length (l.map Value.string) := by
  have := Rd.new_ w (l.map Value.string) t
  rwa [List.length_map] at this
theorem rdOne {w : World} {A : Addr} {n : Nat} {l : List Value} (h : Rd w 1 (some A) n l) {k : Nat} {v : Value} (hv : l[k]? = some v) (hk : k < n) : Rd w 1 (some (A.add k)) 1 [v] := by
  obtain ⟨ad, e, hb, hc⟩ := h.at_ hk
  obtain rfl := Option.some.inj e
  refine ⟨rfl, fun _ => ⟨_, rfl, by rw [blockAdd]; exact hb, fun j u hu => ?_⟩⟩
  cases j with
  | zero =>
    obtain rfl := Option.some.inj hu
    rw [addAdd]
    exact hc _ hv
  | succ j => cases hu
def flagWords : List ByteArray := [⟨#[101, 97, 115, 116, 101, 114, 110]⟩, ⟨#[108, 101, 116, 116, 101, 114, 115]⟩, ⟨#[116, 104, 114, 111, 117, 103, 104]⟩, ⟨#[112, 105, 108, 101]⟩, ⟨#[115, 101, 101, 110]⟩, ⟨#[121, 101, 104]⟩, ⟨#[114, 101, 111, 114, 100, 101, 114]⟩, ⟨#[109, 97, 114, 107, 115]⟩, ⟨#[109, 105, 114, 114, 111, 114]⟩, ⟨#[115, 116, 114, 105, 112]⟩]
set_option maxRecDepth 100000 in
theorem words0_any (w : World) : Calls Tryd.prog 43 #[.int .i64 0] w fun e w' => ∃ A c, e = .returned (.slice (some A) 4 c) ∧ Rd w' 1 (some A) 4 ((wordsOf 0).map Value.string) ∧ Below w.heap.size w w' := by
  go_enter Tryd.func43, Tryd.ntmps43
  go_wp2
  go_ret
  exact ⟨_, _, rfl, rdStrs w (wordsOf 0) 9, below_new _ _⟩
set_option maxRecDepth 100000 in
theorem words1_any (w : World) : Calls Tryd.prog 43 #[.int .i64 1] w fun e w' => ∃ A c, e = .returned (.slice (some A) 4 c) ∧ Rd w' 1 (some A) 4 ((wordsOf 1).map Value.string) ∧ Below w.heap.size w w' := by
  go_enter Tryd.func43, Tryd.ntmps43
  go_wp2
  go_ret
  exact ⟨_, _, rfl, rdStrs w (wordsOf 1) 9, below_new _ _⟩
set_option maxRecDepth 100000 in
theorem words2_any (w : World) : Calls Tryd.prog 43 #[.int .i64 2] w fun e w' => ∃ A c, e = .returned (.slice (some A) 4 c) ∧ Rd w' 1 (some A) 4 ((wordsOf 2).map Value.string) ∧ Below w.heap.size w w' := by
  go_enter Tryd.func43, Tryd.ntmps43
  go_wp2
  go_ret
  exact ⟨_, _, rfl, rdStrs w (wordsOf 2) 9, below_new _ _⟩
set_option maxRecDepth 100000 in
theorem words3_any (w : World) : Calls Tryd.prog 43 #[.int .i64 3] w fun e w' => ∃ A c, e = .returned (.slice (some A) 4 c) ∧ Rd w' 1 (some A) 4 ((wordsOf 3).map Value.string) ∧ Below w.heap.size w w' := by
  go_enter Tryd.func43, Tryd.ntmps43
  go_wp2
  go_ret
  exact ⟨_, _, rfl, rdStrs w (wordsOf 3) 9, below_new _ _⟩
set_option maxRecDepth 100000 in
theorem words4_any (w : World) : Calls Tryd.prog 43 #[.int .i64 4] w fun e w' => ∃ A c, e = .returned (.slice (some A) 1 c) ∧ Rd w' 1 (some A) 1 ((wordsOf 4).map Value.string) ∧ Below w.heap.size w w' := by
  go_enter Tryd.func43, Tryd.ntmps43
  go_wp2
  go_ret
  exact ⟨_, _, rfl, rdOne (k := 0) (rdStrs w flagWords 9) rfl (by decide), below_new _ _⟩
set_option maxRecDepth 100000 in
theorem words5_any (w : World) : Calls Tryd.prog 43 #[.int .i64 5] w fun e w' => ∃ A c, e = .returned (.slice (some A) 1 c) ∧ Rd w' 1 (some A) 1 ((wordsOf 5).map Value.string) ∧ Below w.heap.size w w' := by
  go_enter Tryd.func43, Tryd.ntmps43
  go_wp2
  go_ret
  exact ⟨_, _, rfl, rdOne (k := 1) (rdStrs w flagWords 9) rfl (by decide), below_new _ _⟩
set_option maxRecDepth 100000 in
theorem words6_any (w : World) : Calls Tryd.prog 43 #[.int .i64 6] w fun e w' => ∃ A c, e = .returned (.slice (some A) 1 c) ∧ Rd w' 1 (some A) 1 ((wordsOf 6).map Value.string) ∧ Below w.heap.size w w' := by
  go_enter Tryd.func43, Tryd.ntmps43
  go_wp2
  go_ret
  exact ⟨_, _, rfl, rdOne (k := 2) (rdStrs w flagWords 9) rfl (by decide), below_new _ _⟩
set_option maxRecDepth 100000 in
theorem words7_any (w : World) : Calls Tryd.prog 43 #[.int .i64 7] w fun e w' => ∃ A c, e = .returned (.slice (some A) 1 c) ∧ Rd w' 1 (some A) 1 ((wordsOf 7).map Value.string) ∧ Below w.heap.size w w' := by
  go_enter Tryd.func43, Tryd.ntmps43
  go_wp2
  go_ret
  exact ⟨_, _, rfl, rdOne (k := 3) (rdStrs w flagWords 9) rfl (by decide), below_new _ _⟩
set_option maxRecDepth 100000 in
theorem words8_any (w : World) : Calls Tryd.prog 43 #[.int .i64 8] w fun e w' => ∃ A c, e = .returned (.slice (some A) 1 c) ∧ Rd w' 1 (some A) 1 ((wordsOf 8).map Value.string) ∧ Below w.heap.size w w' := by
  go_enter Tryd.func43, Tryd.ntmps43
  go_wp2
  go_ret
  exact ⟨_, _, rfl, rdOne (k := 4) (rdStrs w flagWords 9) rfl (by decide), below_new _ _⟩
set_option maxRecDepth 100000 in
theorem words9_any (w : World) : Calls Tryd.prog 43 #[.int .i64 9] w fun e w' => ∃ A c, e = .returned (.slice (some A) 1 c) ∧ Rd w' 1 (some A) 1 ((wordsOf 9).map Value.string) ∧ Below w.heap.size w w' := by
  go_enter Tryd.func43, Tryd.ntmps43
  go_wp2
  go_ret
  exact ⟨_, _, rfl, rdOne (k := 5) (rdStrs w flagWords 9) rfl (by decide), below_new _ _⟩
set_option maxRecDepth 100000 in
theorem words10_any (w : World) : Calls Tryd.prog 43 #[.int .i64 10] w fun e w' => ∃ A c, e = .returned (.slice (some A) 1 c) ∧ Rd w' 1 (some A) 1 ((wordsOf 10).map Value.string) ∧ Below w.heap.size w w' := by
  go_enter Tryd.func43, Tryd.ntmps43
  go_wp2
  go_ret
  exact ⟨_, _, rfl, rdOne (k := 6) (rdStrs w flagWords 9) rfl (by decide), below_new _ _⟩
set_option maxRecDepth 100000 in
theorem words11_any (w : World) : Calls Tryd.prog 43 #[.int .i64 11] w fun e w' => ∃ A c, e = .returned (.slice (some A) 1 c) ∧ Rd w' 1 (some A) 1 ((wordsOf 11).map Value.string) ∧ Below w.heap.size w w' := by
  go_enter Tryd.func43, Tryd.ntmps43
  go_wp2
  go_ret
  exact ⟨_, _, rfl, rdOne (k := 7) (rdStrs w flagWords 9) rfl (by decide), below_new _ _⟩
set_option maxRecDepth 100000 in
theorem words12_any (w : World) : Calls Tryd.prog 43 #[.int .i64 12] w fun e w' => ∃ A c, e = .returned (.slice (some A) 1 c) ∧ Rd w' 1 (some A) 1 ((wordsOf 12).map Value.string) ∧ Below w.heap.size w w' := by
  go_enter Tryd.func43, Tryd.ntmps43
  go_wp2
  go_ret
  exact ⟨_, _, rfl, rdOne (k := 8) (rdStrs w flagWords 9) rfl (by decide), below_new _ _⟩
set_option maxRecDepth 100000 in
theorem words13_any (w : World) : Calls Tryd.prog 43 #[.int .i64 13] w fun e w' => ∃ A c, e = .returned (.slice (some A) 1 c) ∧ Rd w' 1 (some A) 1 ((wordsOf 13).map Value.string) ∧ Below w.heap.size w w' := by
  go_enter Tryd.func43, Tryd.ntmps43
  go_wp2
  go_ret
  exact ⟨_, _, rfl, rdOne (k := 9) (rdStrs w flagWords 9) rfl (by decide), below_new _ _⟩
theorem words_any (f : Nat) (hf : f < 14) (w : World) : Calls Tryd.prog 43 #[.int .i64 (f : Int)] w fun e w' => ∃ A c, e = .returned (.slice (some A) (wordsOf f).length c) ∧ Rd w' 1 (some A) (wordsOf f).length ((wordsOf f).map Value.string) ∧ Below w.heap.size w w' := by
  match f, hf with
  | 0, _ => exact words0_any w
  | 1, _ => exact words1_any w
  | 2, _ => exact words2_any w
  | 3, _ => exact words3_any w
  | 4, _ => exact words4_any w
  | 5, _ => exact words5_any w
  | 6, _ => exact words6_any w
  | 7, _ => exact words7_any w
  | 8, _ => exact words8_any w
  | 9, _ => exact words9_any w
  | 10, _ => exact words10_any w
  | 11, _ => exact words11_any w
  | 12, _ => exact words12_any w
  | 13, _ => exact words13_any w
  | n + 14, h => omega
end Go.Proofs.YtcdogkabdhbjmaaDoor
/- Options as words, the reference: a word's field. -/
namespace Go.Proofs.YtcdogkabdhbjmaaDoor
open Go.RowKit

def findR (s : ByteArray) : Int × Int := match findT s with
  | some x => ((x.1 : Nat), if x.1 = 0 then x.2 + 1 else x.2)
  | none => (-1, 0)
theorem find_words : ((List.range 14).all fun f => (List.range (wordsOf f).length).all fun j => match (wordsOf f)[j]? with
  | some x => findR x == ((f : Int), (j : Int) + 1)
  | none => false) = true := by decide +kernel
theorem find_at {f j : Nat} {s : ByteArray} (hf : f < 14) (h : (wordsOf f)[j]? = some s) : findR s = ((f : Int), (j : Int) + 1) := by
  have h1 := List.all_eq_true.1 find_words f (List.mem_range.2 hf)
  have h2 := List.all_eq_true.1 h1 j (List.mem_range.2 (List.getElem?_eq_some_iff.1 h).1)
  rw [h] at h2
  simpa using h2
theorem terms_in : (termsL.all fun t => decide (t.2.1 < 14) && (wordsOf t.2.1).any fun x => x == t.1) = true := by decide +kernel
theorem find_none {s : ByteArray} (h : ∀ f, f < 14 → s ∉ wordsOf f) : findR s = (-1, 0) := by
  have : findT s = none := by
    unfold findT
    rw [Option.map_eq_none_iff, List.find?_eq_none]
    intro t ht he
    have h1 := List.all_eq_true.1 terms_in t ht
    rw [Bool.and_eq_true] at h1
    have h2 := of_decide_eq_true h1.1
    have h3 := h1.2
    obtain ⟨x, hx, he2⟩ := List.any_eq_true.1 h3
    rw [ba_beq he2, ba_beq he] at hx
    exact h _ h2 hx
  unfold findR
  rw [this]
theorem words_few (f : Nat) : (wordsOf f).length ≤ 4 := by
  unfold wordsOf
  split <;> simp
set_option maxRecDepth 100000 in
set_option maxHeartbeats 4000000 in
theorem refFind_any (s : ByteArray) (a b : Int) (hr : findR s = (a, b)) (w : World) :
    Calls Tryd.prog 48 #[.string s] w fun e w' => e = .returned (.tuple #[.int .i64 a, .int .i64 b]) ∧ Below w.heap.size w w' := by
  have HR := Lib.hid hr
  clear hr
  go_enter Tryd.func48, Tryd.ntmps48
  go_wp2
  go_loopw [4] (fun i wr => ∃ (f : Nat), f ≤ 14 ∧ i = .int .i64 f ∧ (∀ f', f' < f → s ∉ wordsOf f') ∧ Below w.heap.size w wr) (fun i _ => 14 - (intOf i).toNat)
  case atStart => exact ⟨0, Nat.zero_le _, rfl, fun f' h => absurd h (by omega), Below.refl _ _⟩
  case round =>
    obtain ⟨f, hf, rfl, hno, hb⟩ := hrel
    have HN := Lib.hid hno
    have HB := Lib.hid hb
    clear hno hb
    by_cases hlt : f < 14
    · obtain ⟨wo, rfl⟩ : ∃ wo : World, wo = wr := ⟨_, rfl⟩
      go_wp2_with fail
      refine (words_any f hlt _).mono ?_
      rintro e w1 ⟨A, c, rfl, hr, hb1⟩
      have HB1 := Lib.hid (below_self HB.out hb1)
      have hfew := words_few f
      have HRD := Lib.hid hr
      clear hb1 hr
      obtain ⟨L, hL⟩ : ∃ L, wordsOf f = L := ⟨_, rfl⟩
      have HLL := Lib.hid hL
      rw [hL] at HRD hfew
      simp only [hL]
      clear hL
      go_wp2
      go_loopw [6] (fun i wy => ∃ (j : Nat), j ≤ L.length ∧ i = .int .i64 j ∧ (∀ j' x, j' < j → L[j']? = some x → x ≠ s) ∧ wy = w1) (fun i _ => L.length - (intOf i).toNat)
      case atStart => exact ⟨0, Nat.zero_le _, rfl, fun j' x h => absurd h (by omega), rfl⟩
      case round =>
        obtain ⟨j, hj, rfl, hnj, rfl⟩ := hrel
        have HNJ := Lib.hid hnj
        clear hnj
        by_cases hjl : j < L.length
        · obtain ⟨x, hx⟩ : ∃ x, L[j]? = some x := ⟨_, List.getElem?_eq_getElem hjl⟩
          obtain ⟨ad, hA, hab, hc⟩ := HRD.out.at_ hjl
          obtain rfl := Option.some.inj hA
          have cx := hc (.string x) (by rw [List.getElem?_map, hx]; rfl)
          have HX := Lib.hid hx
          clear hx hc hA
          by_cases he : x = s
          · have HE := Lib.hid (show a = (f : Int) ∧ b = (j : Int) + 1 by
              have := find_at hlt (show (wordsOf f)[j]? = some s by rw [HLL.out, HX.out, he])
              rw [HR.out] at this
              injection this with e1 e2
              exact ⟨e1, e2⟩)
            subst he
            go_wp2
            go_ret2
            exact ⟨by rw [HE.out.1, HE.out.2]; rfl, HB1.out⟩
          · have h1 : (x.toList == s.toList) = false := ba_ne he
            have HX2 := Lib.hid (show ∀ j' y, j' < j + 1 → L[j']? = some y → y ≠ s from fun j' y hj' hy => by
              by_cases hjj : j' = j
              · subst hjj
                rw [HX.out] at hy
                obtain rfl := Option.some.inj hy
                exact he
              · exact HNJ.out j' y (by omega) hy)
            have HE := Lib.hid he
            clear he
            go_wp2
            go_roundw
            case rel => exact ⟨j + 1, by omega, by go_num, HX2.out, trivial⟩
            case measure => simp [intOf]; omega
        · have HX2 := Lib.hid (show s ∉ wordsOf f from fun hm => by
            rw [HLL.out] at hm
            obtain ⟨j', hj', rfl⟩ := List.getElem_of_mem hm
            exact HNJ.out j' _ (by omega) (List.getElem?_eq_getElem hj') rfl)
          go_wp2
          go_roundw
          case rel => exact ⟨f + 1, by omega, by go_num, fun f' hf' => by
            by_cases hff : f' = f
            · subst hff; exact HX2.out
            · exact HN.out f' (by omega), HB1.out⟩
          case measure => simp [intOf]; omega
    · have HE := Lib.hid (show a = -1 ∧ b = 0 by
        have := find_none (s := s) fun f' hf' => HN.out f' (by omega)
        rw [HR.out] at this
        injection this with e1 e2
        exact ⟨e1, e2⟩)
      go_wp2
      go_ret2
      exact ⟨by rw [HE.out.1, HE.out.2]; rfl, HB.out⟩
end Go.Proofs.YtcdogkabdhbjmaaDoor
/- Options as words, the reference: a text's words. -/
namespace Go.Proofs.YtcdogkabdhbjmaaDoor
open Go.RowKit

theorem strSlice : SliceOf Tryd.prog 37 9 1 16 := SliceOf.mk_ Tryd.underlying37 (z := .string ⟨#[]⟩) (by kernel_rfl) rfl
theorem oneStr (x : ByteArray) : ∀ u ∈ [Value.string x], u.oneCell' = true := by
  intro u hu
  rw [List.mem_singleton] at hu
  subst hu
  rfl
theorem ba_snoc (cur : List UInt8) (s : ByteArray) (k : Nat) (h : k < s.size) : (⟨cur.toArray⟩ : ByteArray) ++ s.extract k (k + 1) = ⟨(cur ++ [s[k]]).toArray⟩ := by
  apply ByteArray.ext
  rw [ByteArray.data_append]
  apply Array.ext'
  simp [ByteArray.data_extract]
  have hk : k < s.data.toList.length := by simpa using h
  rw [List.drop_eq_getElem_cons hk]
  rfl
theorem own_from {w : World} {base : Nat} {e : TypeId} {size n c : Nat} {A : Option Addr} {xs : List Value} (h : w.ownsRow base e size (.slice A n c) n xs) : ∀ ad, A = some ad → base ≤ ad.block := by
  intro ad e
  rcases h.2 with ⟨h0, _⟩ | ⟨g, cap, cur, hv, hbase, _⟩
  · injection h0 with h1
    rw [h1] at e
    cases e
  · injection hv with h1
    rw [h1] at e
    obtain rfl := Option.some.inj e
    exact hbase
/-- What is still to be split at place k. -/
def restL (s : ByteArray) (cur : List UInt8) (k : Nat) : List ByteArray := if k ≤ s.size then splitL cur (s.data.toList.drop k) else []
theorem drop_byte (s : ByteArray) (k : Nat) (h : k < s.size) : s.data.toList.drop k = s[k] :: s.data.toList.drop (k + 1) := by
  have hk : k < s.data.toList.length := by simpa using h
  rw [List.drop_eq_getElem_cons hk]
  rfl
theorem rest_letter (s : ByteArray) (cur : List UInt8) (k : Nat) (h : k < s.size) (hb : ¬ s[k].toNat = 32) : restL s cur k = restL s (cur ++ [s[k]]) (k + 1) := by
  unfold restL
  rw [if_pos (by omega), if_pos (by omega), drop_byte s k h, splitL, if_neg hb]
theorem rest_blank (s : ByteArray) (cur : List UInt8) (k : Nat) (h : k < s.size) (hb : s[k].toNat = 32) : restL s cur k = (if cur = [] then [] else [⟨cur.toArray⟩]) ++ restL s [] (k + 1) := by
  have e1 : restL s cur k = splitL cur (s.data.toList.drop k) := if_pos (by omega)
  have e2 : restL s [] (k + 1) = splitL [] (s.data.toList.drop (k + 1)) := if_pos (by omega)
  rw [e1, e2, drop_byte s k h, splitL, if_pos hb]
  split <;> rfl
theorem rest_end (s : ByteArray) (cur : List UInt8) : restL s cur s.size = (if cur = [] then [] else [⟨cur.toArray⟩]) ++ restL s [] (s.size + 1) := by
  have e1 : restL s cur s.size = splitL cur (s.data.toList.drop s.size) := if_pos (Nat.le_refl _)
  have e2 : restL s [] (s.size + 1) = [] := if_neg (by omega)
  rw [e1, e2, List.drop_eq_nil_of_le (by simp), splitL]
  split <;> rfl
/-- Where the pass stands: the words that are through, and the one that is under way. -/
def SpAt (w : World) (s : ByteArray) (k : Nat) (v : Value) (u : Value) (wr : World) : Prop := ∃ (acc : List ByteArray) (cur : List UInt8),
  wr.ownsRow w.heap.size 9 1 v acc.length (acc.map Value.string) ∧ u = .string ⟨cur.toArray⟩ ∧ acc ++ restL s cur k = wordsF s ∧ acc.length ≤ k ∧ cur.length ≤ k ∧ Below w.heap.size w wr
set_option maxRecDepth 100000 in
set_option maxHeartbeats 8000000 in
theorem refSplit_any (s : ByteArray) (hs : s.size ≤ 100000) (w : World) :
    Calls Tryd.prog 47 #[.string s] w fun e w' => ∃ A c, e = .returned (.slice A (wordsF s).length c) ∧ Rd w' 1 A (wordsF s).length ((wordsF s).map Value.string) ∧ (∀ ad, A = some ad → w.heap.size ≤ ad.block) ∧ Below w.heap.size w w' := by
  go_enter Tryd.func47, Tryd.ntmps47
  go_wp2
  go_loopw [3, 4, 5] (fun v u i wr => ∃ (k : Nat), k ≤ s.size + 1 ∧ i = .int .i64 k ∧ SpAt w s k v u wr) (fun _ _ i _ => s.size + 1 - (intOf i).toNat)
  case atStart =>
    refine ⟨0, by omega, rfl, [], [], World.ownsRow_nil _ _ _ _, rfl, ?_, Nat.le_refl _, Nat.le_refl _, Below.refl _ _⟩
    rw [words_split]
    unfold restL
    rw [if_pos (by omega)]
    rfl
  case round =>
    obtain ⟨k, hk, rfl, acc, cur, hown, rfl, hacc, hal, hcl, hb⟩ := hrel
    obtain ⟨A, c, rfl, hnc⟩ := own_form hown
    have HO := Lib.hid hown
    have HA := Lib.hid hacc
    have HB := Lib.hid hb
    have hbs := hb.size
    clear hown hacc hb
    by_cases hlt : k < s.size
    · have hlen : cur.length + (min (k + 1) s.size - k) ≤ 200000 := by omega
      by_cases hbk : s[k].toNat = 32
      · have h1 : ((s[k].toNat : Int) != 32) = false := by simp; omega
        have HN := Lib.hid (show acc ++ ((if cur = [] then [] else [⟨cur.toArray⟩]) ++ restL s [] (k + 1)) = wordsF s by rw [← rest_blank s cur k hlt hbk]; exact HA.out)
        clear hbk
        by_cases hc : cur = []
        · subst hc
          have HM := Lib.hid (show acc ++ restL s [] (k + 1) = wordsF s from HN.out)
          clear HN
          go_wp2
          go_roundw
          case rel => exact ⟨k + 1, by omega, by go_num, acc, [], HO.out, rfl, HM.out, by omega, by simp, HB.out⟩
          case measure => simp [intOf]; omega
        · have HM := Lib.hid (show acc ++ [⟨cur.toArray⟩] ++ restL s [] (k + 1) = wordsF s by
            have := HN.out
            rw [if_neg hc] at this
            rw [List.append_assoc]
            exact this)
          have hne : (!cur.isEmpty) = true := by simpa using hc
          have hne2 : cur.isEmpty = false := by simpa using hc
          clear HN hc
          go_wp2_with (at_builtin; refine wpList_app rfl _ _ _ rfl strSlice (by decide) _ acc.length _ rfl (HO.out.alloc _) ⟨wr.heap.size, 0, none⟩ 1 1 [.string ⟨cur.toArray⟩] rfl rfl (cells_new wr [_] _) (oneStr _) (by omega) (by unfold maxLen; omega) (Nat.le_trans hbs (by simp)) ?_; intro v1 w1 hown1 hg1 hat1)
          have HW := Lib.hid (show SpAt w s (k + 1) v1 (.string ⟨#[]⟩) w1 from ⟨acc ++ [⟨cur.toArray⟩], [], by simpa using hown1, rfl, HM.out, by simp; omega, by simp, below_app (HB.out.alloc hbs _) hg1 (HO.out.alloc _) (Nat.le_trans hbs (by simp))⟩)
          clear hown1 hg1 hat1
          go_wp2
          go_roundw
          case rel => exact ⟨k + 1, by omega, by go_num, HW.out⟩
          case measure => simp [intOf]; omega
      · have HN := Lib.hid (show acc ++ restL s (cur ++ [s[k]]) (k + 1) = wordsF s by rw [← rest_letter s cur k hlt hbk]; exact HA.out)
        have h1 : ((s[k].toNat : Int) != 32) = true := by simp; omega
        clear hbk
        go_wp2
        go_roundw
        case rel => exact ⟨k + 1, by omega, by go_num, acc, cur ++ [s[k]], HO.out, by rw [ba_snoc cur s k hlt], HN.out, by omega, by simp; omega, HB.out⟩
        case measure => simp [intOf]; omega
    · by_cases he : k = s.size
      · subst he
        have HN := Lib.hid (show acc ++ ((if cur = [] then [] else [⟨cur.toArray⟩]) ++ restL s [] (s.size + 1)) = wordsF s by rw [← rest_end s cur]; exact HA.out)
        by_cases hc : cur = []
        · subst hc
          have HM := Lib.hid (show acc ++ restL s [] (s.size + 1) = wordsF s from HN.out)
          clear HN
          go_wp2
          go_roundw
          case rel => exact ⟨s.size + 1, by omega, by go_num, acc, [], HO.out, rfl, HM.out, by omega, by simp, HB.out⟩
          case measure => simp [intOf]
        · have HM := Lib.hid (show acc ++ [⟨cur.toArray⟩] ++ restL s [] (s.size + 1) = wordsF s by
            have := HN.out
            rw [if_neg hc] at this
            rw [List.append_assoc]
            exact this)
          have hne : (!cur.isEmpty) = true := by simpa using hc
          have hne2 : cur.isEmpty = false := by simpa using hc
          clear HN hc
          go_wp2_with (at_builtin; refine wpList_app rfl _ _ _ rfl strSlice (by decide) _ acc.length _ rfl (HO.out.alloc _) ⟨wr.heap.size, 0, none⟩ 1 1 [.string ⟨cur.toArray⟩] rfl rfl (cells_new wr [_] _) (oneStr _) (by omega) (by unfold maxLen; omega) (Nat.le_trans hbs (by simp)) ?_; intro v1 w1 hown1 hg1 hat1)
          have HW := Lib.hid (show SpAt w s (s.size + 1) v1 (.string ⟨#[]⟩) w1 from ⟨acc ++ [⟨cur.toArray⟩], [], by simpa using hown1, rfl, HM.out, by simp; omega, by simp, below_app (HB.out.alloc hbs _) hg1 (HO.out.alloc _) (Nat.le_trans hbs (by simp))⟩)
          clear hown1 hg1 hat1
          go_wp2
          go_roundw
          case rel => exact ⟨s.size + 1, by omega, by go_num, HW.out⟩
          case measure => simp [intOf]
      · obtain rfl : k = s.size + 1 := by omega
        have HE := Lib.hid (show acc = wordsF s by
          have := HA.out
          unfold restL at this
          rw [if_neg (by omega), List.append_nil] at this
          exact this)
        go_wp2
        go_ret
        rw [← HE.out]
        exact ⟨A, c, rfl, Rd.of_own HO.out, own_from HO.out, HB.out⟩
end Go.Proofs.YtcdogkabdhbjmaaDoor
/- The reference's in of options. -/
namespace Go.Proofs.YtcdogkabdhbjmaaDoor
open Go.RowKit

theorem refIn_y (n m : Int) (y : Bool) (hy : decide (0 ≤ n ∧ n ≤ m) = y) (w : World) : Calls Tryd.prog 32 #[.int .i64 n, .int .i64 m] w fun e w' => e = .returned (.bool y) ∧ w = w' := by
  have hc : (n < 0 ∧ y = false) ∨ (0 ≤ n ∧ m < n ∧ y = false) ∨ (0 ≤ n ∧ n ≤ m ∧ y = true) := by
    cases y with
    | false =>
      have h1 := of_decide_eq_false hy
      by_cases h : n < 0
      · exact .inl ⟨h, rfl⟩
      · exact .inr (.inl ⟨by omega, by omega, rfl⟩)
    | true => have h1 := of_decide_eq_true hy; exact .inr (.inr ⟨h1.1, h1.2, rfl⟩)
  clear hy
  rcases hc with ⟨h, hy⟩ | ⟨h, h', hy⟩ | ⟨h, h', hy⟩ <;> subst hy
  · go_enter Tryd.func32, Tryd.ntmps32
    go_wp2
    go_ret
    exact ⟨by simp <;> omega, rfl⟩
  · go_enter Tryd.func32, Tryd.ntmps32
    go_wp2
    go_ret
    exact ⟨by simp <;> omega, rfl⟩
  · go_enter Tryd.func32, Tryd.ntmps32
    go_wp2
    go_ret
    exact ⟨by simp <;> omega, rfl⟩
theorem odd_ref (d l t g : Int) (b0 b1 b2 b3 b4 b5 b6 b7 b8 b9 ltr gone : Bool) (hl : ((l != 0) || (t != 0) || b3 || b4 || b5) = ltr) (hg : ((t == 3) || (t == 4)) = gone) :
    Opt.odd ⟨d, l, t, g, b0, b1, b2, b3, b4, b5, b6, b7, b8, b9⟩ = ((ltr && !b1) || (b2 && (l == 0)) || (b3 && gone) || (b7 && !b6)) := by
  rw [← hl, ← hg]
  clear hl hg
  unfold Opt.odd
  simp only
  have e1 : decide (l ≠ 0) = (l != 0) := by by_cases h : l = 0 <;> simp [h]
  have e2 : decide (t ≠ 0) = (t != 0) := by by_cases h : t = 0 <;> simp [h]
  have e3 : (l == 0) = !(l != 0) := by show (l == 0) = !!(l == 0); rw [Bool.not_not]
  have e4 : decide (t = 3) = (t == 3) := by by_cases h : t = 3 <;> simp [h]
  have e5 : decide (t = 4) = (t == 4) := by by_cases h : t = 4 <;> simp [h]
  have e6 : decide (l = 0) = !(l != 0) := by by_cases h : l = 0 <;> simp [h]
  rw [e1, e2, e3, e4, e5, e6]
  generalize (l != 0) = x1
  generalize (t != 0) = x2
  generalize (t == 3) = x3
  generalize (t == 4) = x4
  revert x1 x2 x3 x4 b1 b2 b3 b4 b5 b6 b7
  decide
end Go.Proofs.YtcdogkabdhbjmaaDoor
