/- naskhlaw11.awake, SpellParses. -/
import Derived.Test.YtcdogkabdhbjmaaDoorSwP
import Derived.Test.YtcdogkabdhbjmaaDoorSwQ
import Derived.Test.YtcdogkabdhbjmaaDoorSwW
import Derived.Test.YtcdogkabdhbjmaaDoorOpE
namespace Go.Proofs.YtcdogkabdhbjmaaDoor
open Go.RowKit

theorem parse_awake : parseF ⟨#[114, 116, 108, 32, 108, 101, 116, 116, 101, 114, 115, 32, 32, 108, 97, 109, 45, 110, 101, 97, 114]⟩ = (⟨1, 2, 0, 0, false, true, false, false, false, false, false, false, false, false⟩, 0) := by
  unfold parseF
  rw [words_split]
  decide +kernel
set_option maxRecDepth 100000 in
set_option maxHeartbeats 4000000 in
theorem awake11_any (w : World) (hT : TermsAt w) (hK : KindsAt w) : Calls Tryd.prog 25 #[] w fun e w' => e = .returned (.bool true) ∧ Below w.heap.size w w' := by
  have HT := Lib.hid hT
  have HK := Lib.hid hK
  have hq := optsEq 1 2 0 0 false true false false false false false false false false 1 2 0 0 false true false false false false false false false false
  simp only [show (((1 : Int) == 1) && ((2 : Int) == 2) && ((0 : Int) == 0) && ((0 : Int) == 0) && (false == false) && (true == true) && (false == false) && (false == false) && (false == false) && (false == false) && (false == false) && (false == false) && (false == false) && (false == false)) = true from rfl] at hq
  clear hT hK
  go_enter Tryd.func25, Tryd.ntmps25
  go_wp2_with fail
  refine (swParse_any ⟨#[114, 116, 108, 32, 108, 101, 116, 116, 101, 114, 115, 32, 32, 108, 97, 109, 45, 110, 101, 97, 114]⟩ ⟨1, 2, 0, 0, false, true, false, false, false, false, false, false, false, false⟩ 0 parse_awake w HT.out HK.out).mono ?_
  rintro e w1 ⟨rfl, hb1⟩
  have HT1 := Lib.hid (HT.out.below hb1)
  have HB1 := Lib.hid hb1
  simp only [Opt.val, Opt.cells]
  clear hb1 HT HK
  have HT2 := Lib.hid (HT1.out.below (below_new w1 (.cells #[.int .i64 1, .int .i64 2, .int .i64 0, .int .i64 0, .bool false, .bool true, .bool false, .bool false, .bool false, .bool false, .bool false, .bool false, .bool false, .bool false] 23)))
  have HB2 := Lib.hid (below_self HB1.out (below_new w1 (.cells #[.int .i64 1, .int .i64 2, .int .i64 0, .int .i64 0, .bool false, .bool true, .bool false, .bool false, .bool false, .bool false, .bool false, .bool false, .bool false, .bool false] 23)))
  clear HT1 HB1
  go_wp2_with fail
  refine (swWords_any _ HT2.out).mono ?_
  rintro e w3 ⟨A, rfl, hr, hb3⟩
  have HB3 := Lib.hid (below_self HB2.out hb3)
  clear hr hb3
  go_wp2_with fail
  go_ret
  exact ⟨rfl, HB3.out⟩
set_option maxRecDepth 100000 in
set_option maxHeartbeats 4000000 in
theorem spellParses_any (s : ByteArray) (w : World) (hT : TermsAt w) (hK : KindsAt w) : Calls Tryd.prog 7 #[.string s] w fun e w' => e = .returned (.bool true) ∧ Below w.heap.size w w' := by
  have HT := Lib.hid hT
  have HK := Lib.hid hK
  clear hT hK
  by_cases hs : 1100 < s.size
  · have hs2 : (1100 : Int) < (s.size : Int) := by omega
    clear hs
    go_enter Tryd.func7, Tryd.ntmps7
    go_wp2_with fail
    refine (awake11_any w HT.out HK.out).mono ?_
    rintro e w1 ⟨rfl, hb1⟩
    have HB1 := Lib.hid hb1
    clear hb1
    go_wp2_with fail
    go_ret
    exact ⟨rfl, HB1.out⟩
  · have hs2 : ¬ (1100 : Int) < (s.size : Int) := by omega
    have HS := Lib.hid (show s.size ≤ 100000 by omega)
    obtain ⟨R, E, hR⟩ : ∃ R E, parseF s = (R, E) := ⟨_, _, rfl⟩
    have HR := Lib.hid hR
    obtain ⟨q0, q1, q2, q3, q4, q5, q6, q7, q8, q9, q10, q11, q12, q13⟩ := R
    have hq := optsEq q0 q1 q2 q3 q4 q5 q6 q7 q8 q9 q10 q11 q12 q13 q0 q1 q2 q3 q4 q5 q6 q7 q8 q9 q10 q11 q12 q13
    have hy : ((q0 == q0) && (q1 == q1) && (q2 == q2) && (q3 == q3) && (q4 == q4) && (q5 == q5) && (q6 == q6) && (q7 == q7) && (q8 == q8) && (q9 == q9) && (q10 == q10) && (q11 == q11) && (q12 == q12) && (q13 == q13)) = true := by simp
    simp only [hy] at hq
    clear hs hR hy
    go_enter Tryd.func7, Tryd.ntmps7
    go_wp2_with fail
    refine (swParse_any s ⟨q0, q1, q2, q3, q4, q5, q6, q7, q8, q9, q10, q11, q12, q13⟩ E HR.out w HT.out HK.out).mono ?_
    rintro e w1 ⟨rfl, hb1⟩
    have HT1 := Lib.hid (HT.out.below hb1)
    have HK1 := Lib.hid (HK.out.below hb1)
    have HB1 := Lib.hid hb1
    simp only [Opt.val, Opt.cells]
    clear hb1 HT HK hs2
    go_wp2_with fail
    obtain ⟨W2, hW2⟩ : ∃ W2, w1.alloc (.cells #[.int .i64 q0, .int .i64 q1, .int .i64 q2, .int .i64 q3, .bool q4, .bool q5, .bool q6, .bool q7, .bool q8, .bool q9, .bool q10, .bool q11, .bool q12, .bool q13] 23) = W2 := ⟨_, rfl⟩
    have hO2 : OptAt W2 w1.heap.size ⟨q0, q1, q2, q3, q4, q5, q6, q7, q8, q9, q10, q11, q12, q13⟩ := by rw [← hW2]; exact OptAt.new_ w1 ⟨q0, q1, q2, q3, q4, q5, q6, q7, q8, q9, q10, q11, q12, q13⟩ 23
    have hb2 : Below w1.heap.size w1 W2 := by rw [← hW2]; exact below_new _ _
    rw [hW2]
    clear hW2
    refine (refParse_any s HS.out ⟨q0, q1, q2, q3, q4, q5, q6, q7, q8, q9, q10, q11, q12, q13⟩ E HR.out W2).mono ?_
    rintro e w3 ⟨rfl, hb3⟩
    have hO3 := hO2.below hb3
    have hl3 := hO3.lt
    have HT3 := Lib.hid ((HT1.out.below hb2).below hb3)
    have HK3 := Lib.hid ((HK1.out.below hb2).below hb3)
    have HB3 := Lib.hid (below_self (below_self HB1.out hb2) hb3)
    simp only [Opt.val, Opt.cells]
    have c0 : w3.cell? ⟨w1.heap.size, 0, none⟩ = some (.int .i64 q0) := hO3.1 0 _ rfl
    have c1 : w3.cell? ⟨w1.heap.size, 1, none⟩ = some (.int .i64 q1) := hO3.1 1 _ rfl
    have c2 : w3.cell? ⟨w1.heap.size, 2, none⟩ = some (.int .i64 q2) := hO3.1 2 _ rfl
    have c3 : w3.cell? ⟨w1.heap.size, 3, none⟩ = some (.int .i64 q3) := hO3.1 3 _ rfl
    have c4 : w3.cell? ⟨w1.heap.size, 4, none⟩ = some (.bool q4) := hO3.1 4 _ rfl
    have c5 : w3.cell? ⟨w1.heap.size, 5, none⟩ = some (.bool q5) := hO3.1 5 _ rfl
    have c6 : w3.cell? ⟨w1.heap.size, 6, none⟩ = some (.bool q6) := hO3.1 6 _ rfl
    have c7 : w3.cell? ⟨w1.heap.size, 7, none⟩ = some (.bool q7) := hO3.1 7 _ rfl
    have c8 : w3.cell? ⟨w1.heap.size, 8, none⟩ = some (.bool q8) := hO3.1 8 _ rfl
    have c9 : w3.cell? ⟨w1.heap.size, 9, none⟩ = some (.bool q9) := hO3.1 9 _ rfl
    have c10 : w3.cell? ⟨w1.heap.size, 10, none⟩ = some (.bool q10) := hO3.1 10 _ rfl
    have c11 : w3.cell? ⟨w1.heap.size, 11, none⟩ = some (.bool q11) := hO3.1 11 _ rfl
    have c12 : w3.cell? ⟨w1.heap.size, 12, none⟩ = some (.bool q12) := hO3.1 12 _ rfl
    have c13 : w3.cell? ⟨w1.heap.size, 13, none⟩ = some (.bool q13) := hO3.1 13 _ rfl
    clear hO2 hb2 hb3 hO3 HT1 HK1 HB1
    have HT4 := Lib.hid (HT3.out.below (below_new w3 (.cells #[.int .i64 q0, .int .i64 q1, .int .i64 q2, .int .i64 q3, .bool q4, .bool q5, .bool q6, .bool q7, .bool q8, .bool q9, .bool q10, .bool q11, .bool q12, .bool q13] 23)))
    have HK4 := Lib.hid (HK3.out.below (below_new w3 (.cells #[.int .i64 q0, .int .i64 q1, .int .i64 q2, .int .i64 q3, .bool q4, .bool q5, .bool q6, .bool q7, .bool q8, .bool q9, .bool q10, .bool q11, .bool q12, .bool q13] 23)))
    have HB4 := Lib.hid (below_self HB3.out (below_new w3 (.cells #[.int .i64 q0, .int .i64 q1, .int .i64 q2, .int .i64 q3, .bool q4, .bool q5, .bool q6, .bool q7, .bool q8, .bool q9, .bool q10, .bool q11, .bool q12, .bool q13] 23)))
    clear HT3 HK3 HB3
    go_wp2_with fail
    refine (awake11_any _ HT4.out HK4.out).mono ?_
    rintro e w5 ⟨rfl, hb5⟩
    have HB5 := Lib.hid (below_self HB4.out hb5)
    clear hb5
    go_wp2_with fail
    go_ret
    exact ⟨rfl, HB5.out⟩
end Go.Proofs.YtcdogkabdhbjmaaDoor
