/- naskhlaw10.OptionBack. -/
import Derived.Test.YtcdogkabdhbjmaaDoorOpL1
import Derived.Test.YtcdogkabdhbjmaaDoorOpH2
namespace Go.Proofs.YtcdogkabdhbjmaaDoor
open Go.RowKit

theorem right_err (o : Opt) : (rightF o).err = 0 := by
  unfold rightF heldO
  have h0 := heldF_le o.d 3 (by omega)
  have h1 := heldF_le o.l 4 (by omega)
  have h2 := heldF_le o.t 4 (by omega)
  have h3 := heldF_le o.g 4 (by omega)
  generalize heldF o.d 3 = d at *
  generalize heldF o.l 4 = l at *
  generalize heldF o.t 4 = t at *
  generalize heldF o.g 4 = g at *
  obtain ⟨_, _, _, _, b0, b1, b2, b3, b4, b5, b6, b7, b8, b9⟩ := o
  simp only
  cases b1
  · cases b6 <;> simp [cut1, cut2, cut3, cut4, Opt.err, Opt.may, Opt.odd] <;> omega
  · by_cases hl : l = 0
    · by_cases ht : t = 3 ∨ t = 4
      · cases b6 <;> rcases ht with ht | ht <;> simp [cut1, cut2, cut3, cut4, Opt.err, Opt.may, Opt.odd, hl, ht] <;> omega
      · have h3 : ¬ t = 3 := fun e => ht (.inl e)
        have h4 : ¬ t = 4 := fun e => ht (.inr e)
        cases b6 <;> simp [cut1, cut2, cut3, cut4, Opt.err, Opt.may, Opt.odd, hl, h3, h4] <;> omega
    · by_cases ht : t = 3 ∨ t = 4
      · cases b6 <;> rcases ht with ht | ht <;> simp [cut1, cut2, cut3, cut4, Opt.err, Opt.may, Opt.odd, hl, ht] <;> omega
      · have h3 : ¬ t = 3 := fun e => ht (.inl e)
        have h4 : ¬ t = 4 := fun e => ht (.inr e)
        cases b6 <;> simp [cut1, cut2, cut3, cut4, Opt.err, Opt.may, Opt.odd, hl, h3, h4] <;> omega
theorem bits_of_err {o : Opt} (h : o.err = 0) : Opt.bits o = (o.num, 0) := by
  unfold Opt.bits
  rw [if_pos h]
theorem back_num {o : Opt} (h : o.err = 0) : Opt.back o.num = (o, 0) := by
  obtain ⟨h0, h1, h2⟩ := Opt.of_num (Opt.err_zero h)
  unfold Opt.back
  rw [if_neg (by omega), h2, if_pos h]
theorem bits_back {n : Int} {q : Opt} (h : Opt.back n = (q, 0)) : Opt.bits q = (n, 0) := by
  unfold Opt.back at h
  split at h
  · injection h with _ h
    cases h
  · split at h
    · rename_i h1 h2
      injection h with h _
      subst h
      rw [bits_of_err h2, Opt.num_of (by omega)]
      simp
      omega
    · rename_i h2
      injection h with _ h
      exact absurd h h2
set_option maxRecDepth 100000 in
set_option maxHeartbeats 8000000 in
theorem optionBack_any (d l t g : Int) (b0 b1 b2 b3 b4 b5 b6 b7 b8 b9 : Bool) (n : Int) (w : World) (hK : KindsAt w) :
    Calls Tryd.prog 5 #[.agg #[.int .i64 d, .int .i64 l, .int .i64 t, .int .i64 g, .bool b0, .bool b1, .bool b2, .bool b3, .bool b4, .bool b5, .bool b6, .bool b7, .bool b8, .bool b9], .int .i64 n] w fun e w' => e = .returned (.bool true) ∧ Below w.heap.size w w' := by
  obtain ⟨P, hP⟩ : ∃ P, rightF ⟨d, l, t, g, b0, b1, b2, b3, b4, b5, b6, b7, b8, b9⟩ = P := ⟨_, rfl⟩
  have he : P.err = 0 := by rw [← hP]; exact right_err _
  obtain ⟨N, hN⟩ : ∃ N, P.num = N := ⟨_, rfl⟩
  have hb := bits_of_err he
  have hf := back_num he
  rw [hN] at hb hf
  clear he hN
  obtain ⟨p0, p1, p2, p3, p4, p5, p6, p7, p8, p9, p10, p11, p12, p13⟩ := P
  obtain ⟨Q, G, hg⟩ : ∃ Q G, Opt.back n = (Q, G) := ⟨_, _, rfl⟩
  obtain ⟨W1, hW1⟩ : ∃ W1, w.alloc (.cells #[.int .i64 d, .int .i64 l, .int .i64 t, .int .i64 g, .bool b0, .bool b1, .bool b2, .bool b3, .bool b4, .bool b5, .bool b6, .bool b7, .bool b8, .bool b9] 23) = W1 := ⟨_, rfl⟩
  have hO1 : OptAt W1 w.heap.size ⟨d, l, t, g, b0, b1, b2, b3, b4, b5, b6, b7, b8, b9⟩ := by rw [← hW1]; exact OptAt.new_ w ⟨d, l, t, g, b0, b1, b2, b3, b4, b5, b6, b7, b8, b9⟩ 23
  have hb1 : Below w.heap.size w W1 := by rw [← hW1]; exact below_new _ _
  have HK1 := Lib.hid (hK.below hb1)
  have HK := Lib.hid hK
  have HO1 := Lib.hid hO1
  have HB1 := Lib.hid hb1
  have HB := Lib.hid hb
  have HF := Lib.hid hf
  have HG := Lib.hid hg
  have HP := Lib.hid hP
  have hq := optsEq p0 p1 p2 p3 p4 p5 p6 p7 p8 p9 p10 p11 p12 p13 p0 p1 p2 p3 p4 p5 p6 p7 p8 p9 p10 p11 p12 p13
  have hy : ((p0 == p0) && (p1 == p1) && (p2 == p2) && (p3 == p3) && (p4 == p4) && (p5 == p5) && (p6 == p6) && (p7 == p7) && (p8 == p8) && (p9 == p9) && (p10 == p10) && (p11 == p11) && (p12 == p12) && (p13 == p13)) = true := by simp
  simp only [hy] at hq
  have c0 : W1.cell? ⟨w.heap.size, 0, none⟩ = some (.int .i64 d) := HO1.out.1 0 _ rfl
  have c1 : W1.cell? ⟨w.heap.size, 1, none⟩ = some (.int .i64 l) := HO1.out.1 1 _ rfl
  have c2 : W1.cell? ⟨w.heap.size, 2, none⟩ = some (.int .i64 t) := HO1.out.1 2 _ rfl
  have c3 : W1.cell? ⟨w.heap.size, 3, none⟩ = some (.int .i64 g) := HO1.out.1 3 _ rfl
  have c4 : W1.cell? ⟨w.heap.size, 4, none⟩ = some (.bool b0) := HO1.out.1 4 _ rfl
  have c5 : W1.cell? ⟨w.heap.size, 5, none⟩ = some (.bool b1) := HO1.out.1 5 _ rfl
  have c6 : W1.cell? ⟨w.heap.size, 6, none⟩ = some (.bool b2) := HO1.out.1 6 _ rfl
  have c7 : W1.cell? ⟨w.heap.size, 7, none⟩ = some (.bool b3) := HO1.out.1 7 _ rfl
  have c8 : W1.cell? ⟨w.heap.size, 8, none⟩ = some (.bool b4) := HO1.out.1 8 _ rfl
  have c9 : W1.cell? ⟨w.heap.size, 9, none⟩ = some (.bool b5) := HO1.out.1 9 _ rfl
  have c10 : W1.cell? ⟨w.heap.size, 10, none⟩ = some (.bool b6) := HO1.out.1 10 _ rfl
  have c11 : W1.cell? ⟨w.heap.size, 11, none⟩ = some (.bool b7) := HO1.out.1 11 _ rfl
  have c12 : W1.cell? ⟨w.heap.size, 12, none⟩ = some (.bool b8) := HO1.out.1 12 _ rfl
  have c13 : W1.cell? ⟨w.heap.size, 13, none⟩ = some (.bool b9) := HO1.out.1 13 _ rfl
  clear hy hK hO1 hb1 hb hf hg hP
  go_enter Tryd.func5, Tryd.ntmps5
  go_wp2_with fail
  refine (right_any d l t g b0 b1 b2 b3 b4 b5 b6 b7 b8 b9 ⟨p0, p1, p2, p3, p4, p5, p6, p7, p8, p9, p10, p11, p12, p13⟩ HP.out _).mono ?_
  rintro e w2 ⟨rfl, hb2⟩
  have HO2 := Lib.hid (HO1.out.below hb2)
  have HK2 := Lib.hid (HK1.out.below hb2)
  have hl2 : w.heap.size < w2.heap.size := HO2.out.lt
  have HB2 := Lib.hid (below_self HB1.out hb2)
  clear hb2 HB1 HO1 HK1 HP c0 c1 c2 c3 c4 c5 c6 c7 c8 c9 c10 c11 c12 c13 hW1
  simp only [Opt.val, Opt.cells]
  have c0 : w2.cell? ⟨w.heap.size, 0, none⟩ = some (.int .i64 d) := HO2.out.1 0 _ rfl
  have c1 : w2.cell? ⟨w.heap.size, 1, none⟩ = some (.int .i64 l) := HO2.out.1 1 _ rfl
  have c2 : w2.cell? ⟨w.heap.size, 2, none⟩ = some (.int .i64 t) := HO2.out.1 2 _ rfl
  have c3 : w2.cell? ⟨w.heap.size, 3, none⟩ = some (.int .i64 g) := HO2.out.1 3 _ rfl
  have c4 : w2.cell? ⟨w.heap.size, 4, none⟩ = some (.bool b0) := HO2.out.1 4 _ rfl
  have c5 : w2.cell? ⟨w.heap.size, 5, none⟩ = some (.bool b1) := HO2.out.1 5 _ rfl
  have c6 : w2.cell? ⟨w.heap.size, 6, none⟩ = some (.bool b2) := HO2.out.1 6 _ rfl
  have c7 : w2.cell? ⟨w.heap.size, 7, none⟩ = some (.bool b3) := HO2.out.1 7 _ rfl
  have c8 : w2.cell? ⟨w.heap.size, 8, none⟩ = some (.bool b4) := HO2.out.1 8 _ rfl
  have c9 : w2.cell? ⟨w.heap.size, 9, none⟩ = some (.bool b5) := HO2.out.1 9 _ rfl
  have c10 : w2.cell? ⟨w.heap.size, 10, none⟩ = some (.bool b6) := HO2.out.1 10 _ rfl
  have c11 : w2.cell? ⟨w.heap.size, 11, none⟩ = some (.bool b7) := HO2.out.1 11 _ rfl
  have c12 : w2.cell? ⟨w.heap.size, 12, none⟩ = some (.bool b8) := HO2.out.1 12 _ rfl
  have c13 : w2.cell? ⟨w.heap.size, 13, none⟩ = some (.bool b9) := HO2.out.1 13 _ rfl
  have f0 := HO2.out.2 0
  have f1 := HO2.out.2 1
  have f2 := HO2.out.2 2
  have f3 := HO2.out.2 3
  have f4 := HO2.out.2 4
  have f5 := HO2.out.2 5
  have f6 := HO2.out.2 6
  have f7 := HO2.out.2 7
  have f8 := HO2.out.2 8
  have f9 := HO2.out.2 9
  have f10 := HO2.out.2 10
  have f11 := HO2.out.2 11
  have f12 := HO2.out.2 12
  have f13 := HO2.out.2 13
  go_wp2_with fail
  obtain ⟨W3, hW3⟩ : ∃ W3, stored w2 w.heap.size ⟨p0, p1, p2, p3, p4, p5, p6, p7, p8, p9, p10, p11, p12, p13⟩ = W3 := ⟨_, rfl⟩
  have hO3 : OptAt W3 w.heap.size ⟨p0, p1, p2, p3, p4, p5, p6, p7, p8, p9, p10, p11, p12, p13⟩ := by rw [← hW3]; exact HO2.out.stored _
  have hgl : 1 < w.heap.size := cell_lt HK.out.1
  have hbs : Below w.heap.size w2 W3 := by rw [← hW3]; exact below_stored _ (Nat.le_refl _) (Below.refl _ _)
  have HK3 := Lib.hid (HK2.out.upto hbs hgl)
  have HB3 := Lib.hid (HB2.out.trans hbs)
  have HO3 := Lib.hid hO3
  unfold stored at hW3
  simp only at hW3
  rw [hW3]
  clear hO3 hgl hbs HK2 HB2 HO2 HK hl2 c0 f0 c1 f1 c2 f2 c3 f3 c4 f4 c5 f5 c6 f6 c7 f7 c8 f8 c9 f9 c10 f10 c11 f11 c12 f12 c13 f13 hW3
  refine (opBitsOf_any p0 p1 p2 p3 p4 p5 p6 p7 p8 p9 p10 p11 p12 p13 N 0 HB.out _ HK3.out).mono ?_
  rintro e w4 ⟨rfl, hb4⟩
  have HO4 := Lib.hid (HO3.out.below hb4)
  have HK4 := Lib.hid (HK3.out.below hb4)
  have HB4 := Lib.hid (below_self HB3.out hb4)
  clear hb4 HK3 HB3 HO3
  go_wp2_with fail
  refine (opOf_any N ⟨p0, p1, p2, p3, p4, p5, p6, p7, p8, p9, p10, p11, p12, p13⟩ 0 HF.out _ HK4.out).mono ?_
  rintro e w5 ⟨rfl, hb5⟩
  have HO5 := Lib.hid (HO4.out.below hb5)
  have HK5 := Lib.hid (HK4.out.below hb5)
  have HB5 := Lib.hid (below_self HB4.out hb5)
  have hl5 : w.heap.size < w5.heap.size := HO5.out.lt
  clear hb5 HK4 HB4 HO4
  simp only [Opt.val, Opt.cells]
  have c0 : w5.cell? ⟨w.heap.size, 0, none⟩ = some (.int .i64 p0) := HO5.out.1 0 _ rfl
  have c1 : w5.cell? ⟨w.heap.size, 1, none⟩ = some (.int .i64 p1) := HO5.out.1 1 _ rfl
  have c2 : w5.cell? ⟨w.heap.size, 2, none⟩ = some (.int .i64 p2) := HO5.out.1 2 _ rfl
  have c3 : w5.cell? ⟨w.heap.size, 3, none⟩ = some (.int .i64 p3) := HO5.out.1 3 _ rfl
  have c4 : w5.cell? ⟨w.heap.size, 4, none⟩ = some (.bool p4) := HO5.out.1 4 _ rfl
  have c5 : w5.cell? ⟨w.heap.size, 5, none⟩ = some (.bool p5) := HO5.out.1 5 _ rfl
  have c6 : w5.cell? ⟨w.heap.size, 6, none⟩ = some (.bool p6) := HO5.out.1 6 _ rfl
  have c7 : w5.cell? ⟨w.heap.size, 7, none⟩ = some (.bool p7) := HO5.out.1 7 _ rfl
  have c8 : w5.cell? ⟨w.heap.size, 8, none⟩ = some (.bool p8) := HO5.out.1 8 _ rfl
  have c9 : w5.cell? ⟨w.heap.size, 9, none⟩ = some (.bool p9) := HO5.out.1 9 _ rfl
  have c10 : w5.cell? ⟨w.heap.size, 10, none⟩ = some (.bool p10) := HO5.out.1 10 _ rfl
  have c11 : w5.cell? ⟨w.heap.size, 11, none⟩ = some (.bool p11) := HO5.out.1 11 _ rfl
  have c12 : w5.cell? ⟨w.heap.size, 12, none⟩ = some (.bool p12) := HO5.out.1 12 _ rfl
  have c13 : w5.cell? ⟨w.heap.size, 13, none⟩ = some (.bool p13) := HO5.out.1 13 _ rfl
  go_wp2_with fail
  have HK6 := Lib.hid (HK5.out.below (below_new w5 (.cells #[.int .i64 p0, .int .i64 p1, .int .i64 p2, .int .i64 p3, .bool p4, .bool p5, .bool p6, .bool p7, .bool p8, .bool p9, .bool p10, .bool p11, .bool p12, .bool p13] 23)))
  have HB6 := Lib.hid (below_self HB5.out (below_new w5 (.cells #[.int .i64 p0, .int .i64 p1, .int .i64 p2, .int .i64 p3, .bool p4, .bool p5, .bool p6, .bool p7, .bool p8, .bool p9, .bool p10, .bool p11, .bool p12, .bool p13] 23)))
  clear c0 c1 c2 c3 c4 c5 c6 c7 c8 c9 c10 c11 c12 c13 HK5 HB5 HO5 hl5 hq
  generalize w5.alloc (.cells #[.int .i64 p0, .int .i64 p1, .int .i64 p2, .int .i64 p3, .bool p4, .bool p5, .bool p6, .bool p7, .bool p8, .bool p9, .bool p10, .bool p11, .bool p12, .bool p13] 23) = w6 at *
  refine (opOf_any n Q G HG.out _ HK6.out).mono ?_
  rintro e w7 ⟨rfl, hb7⟩
  have HK7 := Lib.hid (HK6.out.below hb7)
  have HB7 := Lib.hid (below_self HB6.out hb7)
  clear hb7 HK6 HB6
  obtain ⟨q0, q1, q2, q3, q4, q5, q6, q7, q8, q9, q10, q11, q12, q13⟩ := Q
  simp only [Opt.val, Opt.cells]
  have HK8 := Lib.hid (HK7.out.below (below_new w7 (.cells #[.int .i64 q0, .int .i64 q1, .int .i64 q2, .int .i64 q3, .bool q4, .bool q5, .bool q6, .bool q7, .bool q8, .bool q9, .bool q10, .bool q11, .bool q12, .bool q13] 23)))
  have HB8 := Lib.hid (below_self HB7.out (below_new w7 (.cells #[.int .i64 q0, .int .i64 q1, .int .i64 q2, .int .i64 q3, .bool q4, .bool q5, .bool q6, .bool q7, .bool q8, .bool q9, .bool q10, .bool q11, .bool q12, .bool q13] 23)))
  clear HK7 HB7
  by_cases hG : G = 0
  · subst hG
    go_wp2_with fail
    refine (opBitsOf_any q0 q1 q2 q3 q4 q5 q6 q7 q8 q9 q10 q11 q12 q13 n 0 (bits_back HG.out) _ HK8.out).mono ?_
    rintro e w9 ⟨rfl, hb9⟩
    have HK9 := Lib.hid (HK8.out.below hb9)
    have HB9 := Lib.hid (below_self HB8.out hb9)
    clear hb9 HK8 HB8
    go_wp2_with fail
    refine (awake10_any _ HK9.out).mono ?_
    rintro e w10 ⟨rfl, hb10⟩
    have HB10 := Lib.hid (below_self HB9.out hb10)
    clear hb10 HB9
    go_wp2_with fail
    go_ret
    exact ⟨rfl, HB10.out⟩
  · have g1 : (G != 0) = true := by simp [hG]
    clear hG
    go_wp2_with fail
    refine (awake10_any _ HK8.out).mono ?_
    rintro e w10 ⟨rfl, hb10⟩
    have HB10 := Lib.hid (below_self HB8.out hb10)
    clear hb10 HB8
    go_wp2_with fail
    go_ret
    exact ⟨rfl, HB10.out⟩
end Go.Proofs.YtcdogkabdhbjmaaDoor
