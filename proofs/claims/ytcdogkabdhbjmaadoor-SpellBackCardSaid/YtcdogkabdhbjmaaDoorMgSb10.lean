/- Texts of one claim, one behind the other. -/
import Derived.Test.YtcdogkabdhbjmaaDoorRows
import Derived.ProofKit
import Derived.LaidMore
import Derived.OpenShut
import Derived.Below
import Derived.ChangeSame
import Derived.Stop.Joined
import Derived.SevenTiedAt
import Derived.ChangeMaps5
import Derived.Deep.Slices
import Derived.Lib.SmallJoins
import Derived.Test.YtcdogkabdhbjmaaDoorMgSb1
import Derived.Test.YtcdogkabdhbjmaaDoorMgSb2
import Derived.Test.YtcdogkabdhbjmaaDoorMgSb4
import Derived.Test.YtcdogkabdhbjmaaDoorMgSb7
import Derived.Test.YtcdogkabdhbjmaaDoorMgSb8
import Derived.Test.YtcdogkabdhbjmaaDoorMgSb9
/- naskhlaw10.OptionBack. -/
namespace Go.Proofs.YtcdogkabdhbjmaaDoor
open Go.RowKit

theorem right_err (o : Opt) : (rightF o).err = 0 := by
  unfold rightF heldO
  have h0 := heldF_le o.d 3 (by omega)
  have h1 := heldF_le o.l 4 (by omega)
  have h2 := heldF_le o.t 4 (by omega)
  have h3 := heldF_le o.g 4 (by omega)
  generalize heldF o.d 3 = d at *
  generalize heldF o.l 4 = l at *
  generalize heldF o.t 4 = t at *
  generalize heldF o.g 4 = g at *
  obtain ⟨_, _, _, _, b0, b1, b2, b3, b4, b5, b6, b7, b8, b9⟩ := o
  simp only
  cases b1
  · cases b6 <;> simp [cut1, cut2, cut3, cut4, Opt.err, Opt.may, Opt.odd] <;> omega
  · by_cases hl : l = 0
    · by_cases ht : t = 3 ∨ t = 4
      · cases b6 <;> rcases ht with ht | ht <;> simp [cut1, cut2, cut3, cut4, Opt.err, Opt.may, Opt.odd, hl, ht] <;> omega
      · have h3 : ¬ t = 3 := fun e => ht (.inl e)
        have h4 : ¬ t = 4 := fun e => ht (.inr e)
        cases b6 <;> simp [cut1, cut2, cut3, cut4, Opt.err, Opt.may, Opt.odd, hl, h3, h4] <;> omega
    · by_cases ht : t = 3 ∨ t = 4
      · cases b6 <;> rcases ht with ht | ht <;> simp [cut1, cut2, cut3, cut4, Opt.err, Opt.may, Opt.odd, hl, ht] <;> omega
      · have h3 : ¬ t = 3 := fun e => ht (.inl e)
        have h4 : ¬ t = 4 := fun e => ht (.inr e)
        cases b6 <;> simp [cut1, cut2, cut3, cut4, Opt.err, Opt.may, Opt.odd, hl, h3, h4] <;> omega
theorem bits_of_err {o : Opt} (h : o.err = 0) : Opt.bits o = (o.num, 0) := by
  unfold Opt.bits
  rw [if_pos h]
theorem back_num {o : Opt} (h : o.err = 0) : Opt.back o.num = (o, 0) := by
  obtain ⟨h0, h1, h2⟩ := Opt.of_num (Opt.err_zero h)
  unfold Opt.back
  rw [if_neg (by omega), h2, if_pos h]
theorem bits_back {n : Int} {q : Opt} (h : Opt.back n = (q, 0)) : Opt.bits q = (n, 0) := by
  unfold Opt.back at h
  split at h
  · injection h with _ h
    cases h
  · split at h
    · rename_i h1 h2
      injection h with h _
      subst h
      rw [bits_of_err h2, Opt.num_of (by omega)]
      simp
      omega
    · rename_i h2
      injection h with _ h
      exact absurd h h2
set_option maxRecDepth 100000 in
set_option maxHeartbeats 8000000 in
theorem optionBack_any (d l t g : Int) (b0 b1 b2 b3 b4 b5 b6 b7 b8 b9 : Bool) (n : Int) (w : World) (hK : KindsAt w) :
    Calls Tryd.prog 5 #[.agg #[.int .i64 d, .int .i64 l, .int .i64 t, .int .i64 g, .bool b0, .bool b1, .bool b2, .bool b3, .bool b4, .bool b5, .bool b6, .bool b7, .bool b8, .bool b9], .int .i64 n] w fun e w' => e = .returned (.bool true) ∧ Below w.heap.size w w' := by
  obtain ⟨P, hP⟩ : ∃ P, rightF ⟨d, l, t, g, b0, b1, b2, b3, b4, b5, b6, b7, b8, b9⟩ = P := ⟨_, rfl⟩
  have he : P.err = 0 := by rw [← hP]; exact right_err _
  obtain ⟨N, hN⟩ : ∃ N, P.num = N := ⟨_, rfl⟩
  have hb := bits_of_err he
  have hf := back_num he
  rw [hN] at hb hf
  clear he hN
  obtain ⟨p0, p1, p2, p3, p4, p5, p6, p7, p8, p9, p10, p11, p12, p13⟩ := P
  obtain ⟨Q, G, hg⟩ : ∃ Q G, Opt.back n = (Q, G) := ⟨_, _, rfl⟩
  obtain ⟨W1, hW1⟩ : ∃ W1, w.alloc (.cells #[.int .i64 d, .int .i64 l, .int .i64 t, .int .i64 g, .bool b0, .bool b1, .bool b2, .bool b3, .bool b4, .bool b5, .bool b6, .bool b7, .bool b8, .bool b9] 23) = W1 := ⟨_, rfl⟩
  have hO1 : OptAt W1 w.heap.size ⟨d, l, t, g, b0, b1, b2, b3, b4, b5, b6, b7, b8, b9⟩ := by rw [← hW1]; exact OptAt.new_ w ⟨d, l, t, g, b0, b1, b2, b3, b4, b5, b6, b7, b8, b9⟩ 23
  have hb1 : Below w.heap.size w W1 := by rw [← hW1]; exact below_new _ _
  have HK1 := Lib.hid (hK.below hb1)
  have HK := Lib.hid hK
  have HO1 := Lib.hid hO1
  have HB1 := Lib.hid hb1
  have HB := Lib.hid hb
  have HF := Lib.hid hf
  have HG := Lib.hid hg
  have HP := Lib.hid hP
  have hq := optsEq p0 p1 p2 p3 p4 p5 p6 p7 p8 p9 p10 p11 p12 p13 p0 p1 p2 p3 p4 p5 p6 p7 p8 p9 p10 p11 p12 p13
  have hy : ((p0 == p0) && (p1 == p1) && (p2 == p2) && (p3 == p3) && (p4 == p4) && (p5 == p5) && (p6 == p6) && (p7 == p7) && (p8 == p8) && (p9 == p9) && (p10 == p10) && (p11 == p11) && (p12 == p12) && (p13 == p13)) = true := by simp
  simp only [hy] at hq
  have c0 : W1.cell? ⟨w.heap.size, 0, none⟩ = some (.int .i64 d) := HO1.out.1 0 _ rfl
  have c1 : W1.cell? ⟨w.heap.size, 1, none⟩ = some (.int .i64 l) := HO1.out.1 1 _ rfl
  have c2 : W1.cell? ⟨w.heap.size, 2, none⟩ = some (.int .i64 t) := HO1.out.1 2 _ rfl
  have c3 : W1.cell? ⟨w.heap.size, 3, none⟩ = some (.int .i64 g) := HO1.out.1 3 _ rfl
  have c4 : W1.cell? ⟨w.heap.size, 4, none⟩ = some (.bool b0) := HO1.out.1 4 _ rfl
  have c5 : W1.cell? ⟨w.heap.size, 5, none⟩ = some (.bool b1) := HO1.out.1 5 _ rfl
  have c6 : W1.cell? ⟨w.heap.size, 6, none⟩ = some (.bool b2) := HO1.out.1 6 _ rfl
  have c7 : W1.cell? ⟨w.heap.size, 7, none⟩ = some (.bool b3) := HO1.out.1 7 _ rfl
  have c8 : W1.cell? ⟨w.heap.size, 8, none⟩ = some (.bool b4) := HO1.out.1 8 _ rfl
  have c9 : W1.cell? ⟨w.heap.size, 9, none⟩ = some (.bool b5) := HO1.out.1 9 _ rfl
  have c10 : W1.cell? ⟨w.heap.size, 10, none⟩ = some (.bool b6) := HO1.out.1 10 _ rfl
  have c11 : W1.cell? ⟨w.heap.size, 11, none⟩ = some (.bool b7) := HO1.out.1 11 _ rfl
  have c12 : W1.cell? ⟨w.heap.size, 12, none⟩ = some (.bool b8) := HO1.out.1 12 _ rfl
  have c13 : W1.cell? ⟨w.heap.size, 13, none⟩ = some (.bool b9) := HO1.out.1 13 _ rfl
  clear hy hK hO1 hb1 hb hf hg hP
  go_enter Tryd.func5, Tryd.ntmps5
  go_wp2_with fail
  refine (right_any d l t g b0 b1 b2 b3 b4 b5 b6 b7 b8 b9 ⟨p0, p1, p2, p3, p4, p5, p6, p7, p8, p9, p10, p11, p12, p13⟩ HP.out _).mono ?_
  rintro e w2 ⟨rfl, hb2⟩
  have HO2 := Lib.hid (HO1.out.below hb2)
  have HK2 := Lib.hid (HK1.out.below hb2)
  have hl2 : w.heap.size < w2.heap.size := HO2.out.lt
  have HB2 := Lib.hid (below_self HB1.out hb2)
  clear hb2 HB1 HO1 HK1 HP c0 c1 c2 c3 c4 c5 c6 c7 c8 c9 c10 c11 c12 c13 hW1
  simp only [Opt.val, Opt.cells]
  have c0 : w2.cell? ⟨w.heap.size, 0, none⟩ = some (.int .i64 d) := HO2.out.1 0 _ rfl
  have c1 : w2.cell? ⟨w.heap.size, 1, none⟩ = some (.int .i64 l) := HO2.out.1 1 _ rfl
  have c2 : w2.cell? ⟨w.heap.size, 2, none⟩ = some (.int .i64 t) := HO2.out.1 2 _ rfl
  have c3 : w2.cell? ⟨w.heap.size, 3, none⟩ = some (.int .i64 g) := HO2.out.1 3 _ rfl
  have c4 : w2.cell? ⟨w.heap.size, 4, none⟩ = some (.bool b0) := HO2.out.1 4 _ rfl
  have c5 : w2.cell? ⟨w.heap.size, 5, none⟩ = some (.bool b1) := HO2.out.1 5 _ rfl
  have c6 : w2.cell? ⟨w.heap.size, 6, none⟩ = some (.bool b2) := HO2.out.1 6 _ rfl
  have c7 : w2.cell? ⟨w.heap.size, 7, none⟩ = some (.bool b3) := HO2.out.1 7 _ rfl
  have c8 : w2.cell? ⟨w.heap.size, 8, none⟩ = some (.bool b4) := HO2.out.1 8 _ rfl
  have c9 : w2.cell? ⟨w.heap.size, 9, none⟩ = some (.bool b5) := HO2.out.1 9 _ rfl
  have c10 : w2.cell? ⟨w.heap.size, 10, none⟩ = some (.bool b6) := HO2.out.1 10 _ rfl
  have c11 : w2.cell? ⟨w.heap.size, 11, none⟩ = some (.bool b7) := HO2.out.1 11 _ rfl
  have c12 : w2.cell? ⟨w.heap.size, 12, none⟩ = some (.bool b8) := HO2.out.1 12 _ rfl
  have c13 : w2.cell? ⟨w.heap.size, 13, none⟩ = some (.bool b9) := HO2.out.1 13 _ rfl
  have f0 := HO2.out.2 0
  have f1 := HO2.out.2 1
  have f2 := HO2.out.2 2
  have f3 := HO2.out.2 3
  have f4 := HO2.out.2 4
  have f5 := HO2.out.2 5
  have f6 := HO2.out.2 6
  have f7 := HO2.out.2 7
  have f8 := HO2.out.2 8
  have f9 := HO2.out.2 9
  have f10 := HO2.out.2 10
  have f11 := HO2.out.2 11
  have f12 := HO2.out.2 12
  have f13 := HO2.out.2 13
  go_wp2_with fail
  obtain ⟨W3, hW3⟩ : ∃ W3, stored w2 w.heap.size ⟨p0, p1, p2, p3, p4, p5, p6, p7, p8, p9, p10, p11, p12, p13⟩ = W3 := ⟨_, rfl⟩
  have hO3 : OptAt W3 w.heap.size ⟨p0, p1, p2, p3, p4, p5, p6, p7, p8, p9, p10, p11, p12, p13⟩ := by rw [← hW3]; exact HO2.out.stored _
  have hgl : 1 < w.heap.size := cell_lt HK.out.1
  have hbs : Below w.heap.size w2 W3 := by rw [← hW3]; exact below_stored _ (Nat.le_refl _) (Below.refl _ _)
  have HK3 := Lib.hid (HK2.out.upto hbs hgl)
  have HB3 := Lib.hid (HB2.out.trans hbs)
  have HO3 := Lib.hid hO3
  unfold stored at hW3
  simp only at hW3
  rw [hW3]
  clear hO3 hgl hbs HK2 HB2 HO2 HK hl2 c0 f0 c1 f1 c2 f2 c3 f3 c4 f4 c5 f5 c6 f6 c7 f7 c8 f8 c9 f9 c10 f10 c11 f11 c12 f12 c13 f13 hW3
  refine (opBitsOf_any p0 p1 p2 p3 p4 p5 p6 p7 p8 p9 p10 p11 p12 p13 N 0 HB.out _ HK3.out).mono ?_
  rintro e w4 ⟨rfl, hb4⟩
  have HO4 := Lib.hid (HO3.out.below hb4)
  have HK4 := Lib.hid (HK3.out.below hb4)
  have HB4 := Lib.hid (below_self HB3.out hb4)
  clear hb4 HK3 HB3 HO3
  go_wp2_with fail
  refine (opOf_any N ⟨p0, p1, p2, p3, p4, p5, p6, p7, p8, p9, p10, p11, p12, p13⟩ 0 HF.out _ HK4.out).mono ?_
  rintro e w5 ⟨rfl, hb5⟩
  have HO5 := Lib.hid (HO4.out.below hb5)
  have HK5 := Lib.hid (HK4.out.below hb5)
  have HB5 := Lib.hid (below_self HB4.out hb5)
  have hl5 : w.heap.size < w5.heap.size := HO5.out.lt
  clear hb5 HK4 HB4 HO4
  simp only [Opt.val, Opt.cells]
  have c0 : w5.cell? ⟨w.heap.size, 0, none⟩ = some (.int .i64 p0) := HO5.out.1 0 _ rfl
  have c1 : w5.cell? ⟨w.heap.size, 1, none⟩ = some (.int .i64 p1) := HO5.out.1 1 _ rfl
  have c2 : w5.cell? ⟨w.heap.size, 2, none⟩ = some (.int .i64 p2) := HO5.out.1 2 _ rfl
  have c3 : w5.cell? ⟨w.heap.size, 3, none⟩ = some (.int .i64 p3) := HO5.out.1 3 _ rfl
  have c4 : w5.cell? ⟨w.heap.size, 4, none⟩ = some (.bool p4) := HO5.out.1 4 _ rfl
  have c5 : w5.cell? ⟨w.heap.size, 5, none⟩ = some (.bool p5) := HO5.out.1 5 _ rfl
  have c6 : w5.cell? ⟨w.heap.size, 6, none⟩ = some (.bool p6) := HO5.out.1 6 _ rfl
  have c7 : w5.cell? ⟨w.heap.size, 7, none⟩ = some (.bool p7) := HO5.out.1 7 _ rfl
  have c8 : w5.cell? ⟨w.heap.size, 8, none⟩ = some (.bool p8) := HO5.out.1 8 _ rfl
  have c9 : w5.cell? ⟨w.heap.size, 9, none⟩ = some (.bool p9) := HO5.out.1 9 _ rfl
  have c10 : w5.cell? ⟨w.heap.size, 10, none⟩ = some (.bool p10) := HO5.out.1 10 _ rfl
  have c11 : w5.cell? ⟨w.heap.size, 11, none⟩ = some (.bool p11) := HO5.out.1 11 _ rfl
  have c12 : w5.cell? ⟨w.heap.size, 12, none⟩ = some (.bool p12) := HO5.out.1 12 _ rfl
  have c13 : w5.cell? ⟨w.heap.size, 13, none⟩ = some (.bool p13) := HO5.out.1 13 _ rfl
  go_wp2_with fail
  have HK6 := Lib.hid (HK5.out.below (below_new w5 (.cells #[.int .i64 p0, .int .i64 p1, .int .i64 p2, .int .i64 p3, .bool p4, .bool p5, .bool p6, .bool p7, .bool p8, .bool p9, .bool p10, .bool p11, .bool p12, .bool p13] 23)))
  have HB6 := Lib.hid (below_self HB5.out (below_new w5 (.cells #[.int .i64 p0, .int .i64 p1, .int .i64 p2, .int .i64 p3, .bool p4, .bool p5, .bool p6, .bool p7, .bool p8, .bool p9, .bool p10, .bool p11, .bool p12, .bool p13] 23)))
  clear c0 c1 c2 c3 c4 c5 c6 c7 c8 c9 c10 c11 c12 c13 HK5 HB5 HO5 hl5 hq
  generalize w5.alloc (.cells #[.int .i64 p0, .int .i64 p1, .int .i64 p2, .int .i64 p3, .bool p4, .bool p5, .bool p6, .bool p7, .bool p8, .bool p9, .bool p10, .bool p11, .bool p12, .bool p13] 23) = w6 at *
  refine (opOf_any n Q G HG.out _ HK6.out).mono ?_
  rintro e w7 ⟨rfl, hb7⟩
  have HK7 := Lib.hid (HK6.out.below hb7)
  have HB7 := Lib.hid (below_self HB6.out hb7)
  clear hb7 HK6 HB6
  obtain ⟨q0, q1, q2, q3, q4, q5, q6, q7, q8, q9, q10, q11, q12, q13⟩ := Q
  simp only [Opt.val, Opt.cells]
  have HK8 := Lib.hid (HK7.out.below (below_new w7 (.cells #[.int .i64 q0, .int .i64 q1, .int .i64 q2, .int .i64 q3, .bool q4, .bool q5, .bool q6, .bool q7, .bool q8, .bool q9, .bool q10, .bool q11, .bool q12, .bool q13] 23)))
  have HB8 := Lib.hid (below_self HB7.out (below_new w7 (.cells #[.int .i64 q0, .int .i64 q1, .int .i64 q2, .int .i64 q3, .bool q4, .bool q5, .bool q6, .bool q7, .bool q8, .bool q9, .bool q10, .bool q11, .bool q12, .bool q13] 23)))
  clear HK7 HB7
  by_cases hG : G = 0
  · subst hG
    go_wp2_with fail
    refine (opBitsOf_any q0 q1 q2 q3 q4 q5 q6 q7 q8 q9 q10 q11 q12 q13 n 0 (bits_back HG.out) _ HK8.out).mono ?_
    rintro e w9 ⟨rfl, hb9⟩
    have HK9 := Lib.hid (HK8.out.below hb9)
    have HB9 := Lib.hid (below_self HB8.out hb9)
    clear hb9 HK8 HB8
    go_wp2_with fail
    refine (awake10_any _ HK9.out).mono ?_
    rintro e w10 ⟨rfl, hb10⟩
    have HB10 := Lib.hid (below_self HB9.out hb10)
    clear hb10 HB9
    go_wp2_with fail
    go_ret
    exact ⟨rfl, HB10.out⟩
  · have g1 : (G != 0) = true := by simp [hG]
    clear hG
    go_wp2_with fail
    refine (awake10_any _ HK8.out).mono ?_
    rintro e w10 ⟨rfl, hb10⟩
    have HB10 := Lib.hid (below_self HB8.out hb10)
    clear hb10 HB8
    go_wp2_with fail
    go_ret
    exact ⟨rfl, HB10.out⟩
end Go.Proofs.YtcdogkabdhbjmaaDoor
/- naskhlaw11.SpellBack. -/
namespace Go.Proofs.YtcdogkabdhbjmaaDoor
open Go.RowKit

theorem parse_ok {s : ByteArray} {q : Opt} (h : parseF s = (q, 0)) : q.err = 0 := by
  unfold parseF at h
  split at h
  · injection h with _ h
    cases h
  · split at h
    · split at h
      · rename_i h3
        injection h with h _
        rw [← h]
        exact h3
      · rename_i h3
        injection h with _ h
        exact absurd h h3
    · rename_i h3
      injection h with _ h
      exact absurd h h3
theorem parse_no {s : ByteArray} {q : Opt} {g : Int} (h : parseF s = (q, g)) (hg : ¬ g = 0) : q = Opt.zero := by
  unfold parseF at h
  split at h
  · injection h with h _
    exact h.symm
  · split at h
    · split at h
      · injection h with _ h
        exact absurd h.symm hg
      · injection h with h _
        exact h.symm
    · injection h with h _
      exact h.symm
theorem print_ok {o : Opt} (h : o.err = 0) : printF o = ((printF o).1, 0) := by
  unfold printF
  rw [if_pos h]
set_option maxRecDepth 100000 in
set_option maxHeartbeats 8000000 in
theorem spellBack_any (d l t g : Int) (b0 b1 b2 b3 b4 b5 b6 b7 b8 b9 : Bool) (s : ByteArray) (w : World) (hT : TermsAt w) (hK : KindsAt w) :
    Calls Tryd.prog 8 #[.agg #[.int .i64 d, .int .i64 l, .int .i64 t, .int .i64 g, .bool b0, .bool b1, .bool b2, .bool b3, .bool b4, .bool b5, .bool b6, .bool b7, .bool b8, .bool b9], .string s] w fun e w' => e = .returned (.bool true) ∧ Below w.heap.size w w' := by
  obtain ⟨P, hP⟩ : ∃ P, rightF ⟨d, l, t, g, b0, b1, b2, b3, b4, b5, b6, b7, b8, b9⟩ = P := ⟨_, rfl⟩
  have he : P.err = 0 := by rw [← hP]; exact right_err _
  have hpp := parse_print P he
  have hpr := print_ok he
  obtain ⟨S1, hS1⟩ : ∃ S1, (printF P).1 = S1 := ⟨_, rfl⟩
  rw [hS1] at hpp hpr
  clear he hS1
  obtain ⟨p0, p1, p2, p3, p4, p5, p6, p7, p8, p9, p10, p11, p12, p13⟩ := P
  obtain ⟨Q, G, hg⟩ : ∃ Q G, parseF s = (Q, G) := ⟨_, _, rfl⟩
  obtain ⟨W1, hW1⟩ : ∃ W1, w.alloc (.cells #[.int .i64 d, .int .i64 l, .int .i64 t, .int .i64 g, .bool b0, .bool b1, .bool b2, .bool b3, .bool b4, .bool b5, .bool b6, .bool b7, .bool b8, .bool b9] 23) = W1 := ⟨_, rfl⟩
  have hO1 : OptAt W1 w.heap.size ⟨d, l, t, g, b0, b1, b2, b3, b4, b5, b6, b7, b8, b9⟩ := by rw [← hW1]; exact OptAt.new_ w ⟨d, l, t, g, b0, b1, b2, b3, b4, b5, b6, b7, b8, b9⟩ 23
  have hb1 : Below w.heap.size w W1 := by rw [← hW1]; exact below_new _ _
  have HK1 := Lib.hid (hK.below hb1)
  have HT1 := Lib.hid (hT.below hb1)
  have HGL := Lib.hid (show 1 < w.heap.size ∧ 0 < w.heap.size from ⟨cell_lt hK.1, cell_lt (hT 0 _ rfl)⟩)
  have HO1 := Lib.hid hO1
  have HB1 := Lib.hid hb1
  have HPR := Lib.hid hpr
  have HPP := Lib.hid hpp
  have HG := Lib.hid hg
  have HP := Lib.hid hP
  have hq := optsEq p0 p1 p2 p3 p4 p5 p6 p7 p8 p9 p10 p11 p12 p13 p0 p1 p2 p3 p4 p5 p6 p7 p8 p9 p10 p11 p12 p13
  have hy : ((p0 == p0) && (p1 == p1) && (p2 == p2) && (p3 == p3) && (p4 == p4) && (p5 == p5) && (p6 == p6) && (p7 == p7) && (p8 == p8) && (p9 == p9) && (p10 == p10) && (p11 == p11) && (p12 == p12) && (p13 == p13)) = true := by simp
  simp only [hy] at hq
  have c0 : W1.cell? ⟨w.heap.size, 0, none⟩ = some (.int .i64 d) := HO1.out.1 0 _ rfl
  have c1 : W1.cell? ⟨w.heap.size, 1, none⟩ = some (.int .i64 l) := HO1.out.1 1 _ rfl
  have c2 : W1.cell? ⟨w.heap.size, 2, none⟩ = some (.int .i64 t) := HO1.out.1 2 _ rfl
  have c3 : W1.cell? ⟨w.heap.size, 3, none⟩ = some (.int .i64 g) := HO1.out.1 3 _ rfl
  have c4 : W1.cell? ⟨w.heap.size, 4, none⟩ = some (.bool b0) := HO1.out.1 4 _ rfl
  have c5 : W1.cell? ⟨w.heap.size, 5, none⟩ = some (.bool b1) := HO1.out.1 5 _ rfl
  have c6 : W1.cell? ⟨w.heap.size, 6, none⟩ = some (.bool b2) := HO1.out.1 6 _ rfl
  have c7 : W1.cell? ⟨w.heap.size, 7, none⟩ = some (.bool b3) := HO1.out.1 7 _ rfl
  have c8 : W1.cell? ⟨w.heap.size, 8, none⟩ = some (.bool b4) := HO1.out.1 8 _ rfl
  have c9 : W1.cell? ⟨w.heap.size, 9, none⟩ = some (.bool b5) := HO1.out.1 9 _ rfl
  have c10 : W1.cell? ⟨w.heap.size, 10, none⟩ = some (.bool b6) := HO1.out.1 10 _ rfl
  have c11 : W1.cell? ⟨w.heap.size, 11, none⟩ = some (.bool b7) := HO1.out.1 11 _ rfl
  have c12 : W1.cell? ⟨w.heap.size, 12, none⟩ = some (.bool b8) := HO1.out.1 12 _ rfl
  have c13 : W1.cell? ⟨w.heap.size, 13, none⟩ = some (.bool b9) := HO1.out.1 13 _ rfl
  clear hy hK hT hO1 hb1 hpr hpp hg hP
  go_enter Tryd.func8, Tryd.ntmps8
  go_wp2_with fail
  refine (right_any d l t g b0 b1 b2 b3 b4 b5 b6 b7 b8 b9 ⟨p0, p1, p2, p3, p4, p5, p6, p7, p8, p9, p10, p11, p12, p13⟩ HP.out _).mono ?_
  rintro e w2 ⟨rfl, hb2⟩
  have HO2 := Lib.hid (HO1.out.below hb2)
  have HK2 := Lib.hid (HK1.out.below hb2)
  have HT2 := Lib.hid (HT1.out.below hb2)
  have HB2 := Lib.hid (below_self HB1.out hb2)
  clear hb2 HB1 HO1 HK1 HT1 HP c0 c1 c2 c3 c4 c5 c6 c7 c8 c9 c10 c11 c12 c13 hW1
  simp only [Opt.val, Opt.cells]
  have c0 : w2.cell? ⟨w.heap.size, 0, none⟩ = some (.int .i64 d) := HO2.out.1 0 _ rfl
  have c1 : w2.cell? ⟨w.heap.size, 1, none⟩ = some (.int .i64 l) := HO2.out.1 1 _ rfl
  have c2 : w2.cell? ⟨w.heap.size, 2, none⟩ = some (.int .i64 t) := HO2.out.1 2 _ rfl
  have c3 : w2.cell? ⟨w.heap.size, 3, none⟩ = some (.int .i64 g) := HO2.out.1 3 _ rfl
  have c4 : w2.cell? ⟨w.heap.size, 4, none⟩ = some (.bool b0) := HO2.out.1 4 _ rfl
  have c5 : w2.cell? ⟨w.heap.size, 5, none⟩ = some (.bool b1) := HO2.out.1 5 _ rfl
  have c6 : w2.cell? ⟨w.heap.size, 6, none⟩ = some (.bool b2) := HO2.out.1 6 _ rfl
  have c7 : w2.cell? ⟨w.heap.size, 7, none⟩ = some (.bool b3) := HO2.out.1 7 _ rfl
  have c8 : w2.cell? ⟨w.heap.size, 8, none⟩ = some (.bool b4) := HO2.out.1 8 _ rfl
  have c9 : w2.cell? ⟨w.heap.size, 9, none⟩ = some (.bool b5) := HO2.out.1 9 _ rfl
  have c10 : w2.cell? ⟨w.heap.size, 10, none⟩ = some (.bool b6) := HO2.out.1 10 _ rfl
  have c11 : w2.cell? ⟨w.heap.size, 11, none⟩ = some (.bool b7) := HO2.out.1 11 _ rfl
  have c12 : w2.cell? ⟨w.heap.size, 12, none⟩ = some (.bool b8) := HO2.out.1 12 _ rfl
  have c13 : w2.cell? ⟨w.heap.size, 13, none⟩ = some (.bool b9) := HO2.out.1 13 _ rfl
  have f0 := HO2.out.2 0
  have f1 := HO2.out.2 1
  have f2 := HO2.out.2 2
  have f3 := HO2.out.2 3
  have f4 := HO2.out.2 4
  have f5 := HO2.out.2 5
  have f6 := HO2.out.2 6
  have f7 := HO2.out.2 7
  have f8 := HO2.out.2 8
  have f9 := HO2.out.2 9
  have f10 := HO2.out.2 10
  have f11 := HO2.out.2 11
  have f12 := HO2.out.2 12
  have f13 := HO2.out.2 13
  go_wp2_with fail
  obtain ⟨W3, hW3⟩ : ∃ W3, stored w2 w.heap.size ⟨p0, p1, p2, p3, p4, p5, p6, p7, p8, p9, p10, p11, p12, p13⟩ = W3 := ⟨_, rfl⟩
  have hO3 : OptAt W3 w.heap.size ⟨p0, p1, p2, p3, p4, p5, p6, p7, p8, p9, p10, p11, p12, p13⟩ := by rw [← hW3]; exact HO2.out.stored _
  have hbs : Below w.heap.size w2 W3 := by rw [← hW3]; exact below_stored _ (Nat.le_refl _) (Below.refl _ _)
  have HK3 := Lib.hid (HK2.out.upto hbs HGL.out.1)
  have HT3 := Lib.hid (HT2.out.upto hbs HGL.out.2)
  have HB3 := Lib.hid (HB2.out.trans hbs)
  have HO3 := Lib.hid hO3
  unfold stored at hW3
  simp only at hW3
  rw [hW3]
  clear hO3 hbs HK2 HT2 HB2 HO2 c0 f0 c1 f1 c2 f2 c3 f3 c4 f4 c5 f5 c6 f6 c7 f7 c8 f8 c9 f9 c10 f10 c11 f11 c12 f12 c13 f13 hW3
  refine (swPrint_any p0 p1 p2 p3 p4 p5 p6 p7 p8 p9 p10 p11 p12 p13 S1 0 HPR.out _ HT3.out HK3.out).mono ?_
  rintro e w4 ⟨rfl, hb4⟩
  have HO4 := Lib.hid (HO3.out.below hb4)
  have HK4 := Lib.hid (HK3.out.below hb4)
  have HT4 := Lib.hid (HT3.out.below hb4)
  have HB4 := Lib.hid (below_self HB3.out hb4)
  clear hb4 HK3 HT3 HB3 HO3
  go_wp2_with fail
  refine (swParse_any S1 ⟨p0, p1, p2, p3, p4, p5, p6, p7, p8, p9, p10, p11, p12, p13⟩ 0 HPP.out _ HT4.out HK4.out).mono ?_
  rintro e w5 ⟨rfl, hb5⟩
  have HO5 := Lib.hid (HO4.out.below hb5)
  have HK5 := Lib.hid (HK4.out.below hb5)
  have HT5 := Lib.hid (HT4.out.below hb5)
  have HB5 := Lib.hid (below_self HB4.out hb5)
  have hl5 : w.heap.size < w5.heap.size := HO5.out.lt
  clear hb5 HK4 HT4 HB4 HO4
  simp only [Opt.val, Opt.cells]
  have c0 : w5.cell? ⟨w.heap.size, 0, none⟩ = some (.int .i64 p0) := HO5.out.1 0 _ rfl
  have c1 : w5.cell? ⟨w.heap.size, 1, none⟩ = some (.int .i64 p1) := HO5.out.1 1 _ rfl
  have c2 : w5.cell? ⟨w.heap.size, 2, none⟩ = some (.int .i64 p2) := HO5.out.1 2 _ rfl
  have c3 : w5.cell? ⟨w.heap.size, 3, none⟩ = some (.int .i64 p3) := HO5.out.1 3 _ rfl
  have c4 : w5.cell? ⟨w.heap.size, 4, none⟩ = some (.bool p4) := HO5.out.1 4 _ rfl
  have c5 : w5.cell? ⟨w.heap.size, 5, none⟩ = some (.bool p5) := HO5.out.1 5 _ rfl
  have c6 : w5.cell? ⟨w.heap.size, 6, none⟩ = some (.bool p6) := HO5.out.1 6 _ rfl
  have c7 : w5.cell? ⟨w.heap.size, 7, none⟩ = some (.bool p7) := HO5.out.1 7 _ rfl
  have c8 : w5.cell? ⟨w.heap.size, 8, none⟩ = some (.bool p8) := HO5.out.1 8 _ rfl
  have c9 : w5.cell? ⟨w.heap.size, 9, none⟩ = some (.bool p9) := HO5.out.1 9 _ rfl
  have c10 : w5.cell? ⟨w.heap.size, 10, none⟩ = some (.bool p10) := HO5.out.1 10 _ rfl
  have c11 : w5.cell? ⟨w.heap.size, 11, none⟩ = some (.bool p11) := HO5.out.1 11 _ rfl
  have c12 : w5.cell? ⟨w.heap.size, 12, none⟩ = some (.bool p12) := HO5.out.1 12 _ rfl
  have c13 : w5.cell? ⟨w.heap.size, 13, none⟩ = some (.bool p13) := HO5.out.1 13 _ rfl
  have HK6 := Lib.hid (HK5.out.below (below_new w5 (.cells #[.int .i64 p0, .int .i64 p1, .int .i64 p2, .int .i64 p3, .bool p4, .bool p5, .bool p6, .bool p7, .bool p8, .bool p9, .bool p10, .bool p11, .bool p12, .bool p13] 23)))
  have HT6 := Lib.hid (HT5.out.below (below_new w5 (.cells #[.int .i64 p0, .int .i64 p1, .int .i64 p2, .int .i64 p3, .bool p4, .bool p5, .bool p6, .bool p7, .bool p8, .bool p9, .bool p10, .bool p11, .bool p12, .bool p13] 23)))
  have HB6 := Lib.hid (below_self HB5.out (below_new w5 (.cells #[.int .i64 p0, .int .i64 p1, .int .i64 p2, .int .i64 p3, .bool p4, .bool p5, .bool p6, .bool p7, .bool p8, .bool p9, .bool p10, .bool p11, .bool p12, .bool p13] 23)))
  by_cases hs : 1000 < s.size
  · have hs2 : (1000 : Int) < (s.size : Int) := by omega
    clear hs
    go_wp2_with fail
    refine (awake11_any _ HT6.out HK6.out).mono ?_
    rintro e w7 ⟨rfl, hb7⟩
    have HB7 := Lib.hid (below_self HB6.out hb7)
    clear hb7
    go_wp2_with fail
    go_ret
    exact ⟨rfl, HB7.out⟩
  · have hs2 : ¬ (1000 : Int) < (s.size : Int) := by omega
    clear hs
    go_wp2_with fail
    clear c0 c1 c2 c3 c4 c5 c6 c7 c8 c9 c10 c11 c12 c13 HK5 HT5 HB5 HO5 hl5 hq hs2
    generalize w5.alloc (.cells #[.int .i64 p0, .int .i64 p1, .int .i64 p2, .int .i64 p3, .bool p4, .bool p5, .bool p6, .bool p7, .bool p8, .bool p9, .bool p10, .bool p11, .bool p12, .bool p13] 23) = w6 at *
    refine (swParse_any s Q G HG.out _ HT6.out HK6.out).mono ?_
    rintro e w7 ⟨rfl, hb7⟩
    have HK7 := Lib.hid (HK6.out.below hb7)
    have HT7 := Lib.hid (HT6.out.below hb7)
    have HB7 := Lib.hid (below_self HB6.out hb7)
    clear hb7 HK6 HT6 HB6
    by_cases hG : G = 0
    · subst hG
      have hqe := parse_ok HG.out
      have hpp := parse_print Q hqe
      have hpr := print_ok hqe
      obtain ⟨S2, hS2⟩ : ∃ S2, (printF Q).1 = S2 := ⟨_, rfl⟩
      rw [hS2] at hpp hpr
      obtain ⟨q0, q1, q2, q3, q4, q5, q6, q7, q8, q9, q10, q11, q12, q13⟩ := Q
      have HPR2 := Lib.hid hpr
      have HPP2 := Lib.hid hpp
      have HQE := Lib.hid hqe
      have hq := optsEq q0 q1 q2 q3 q4 q5 q6 q7 q8 q9 q10 q11 q12 q13 q0 q1 q2 q3 q4 q5 q6 q7 q8 q9 q10 q11 q12 q13
      have hy : ((q0 == q0) && (q1 == q1) && (q2 == q2) && (q3 == q3) && (q4 == q4) && (q5 == q5) && (q6 == q6) && (q7 == q7) && (q8 == q8) && (q9 == q9) && (q10 == q10) && (q11 == q11) && (q12 == q12) && (q13 == q13)) = true := by simp
      simp only [hy] at hq
      clear hy hpr hpp hqe hS2
      simp only [Opt.val, Opt.cells]
      obtain ⟨W8, hW8⟩ : ∃ W8, w7.alloc (.cells #[.int .i64 q0, .int .i64 q1, .int .i64 q2, .int .i64 q3, .bool q4, .bool q5, .bool q6, .bool q7, .bool q8, .bool q9, .bool q10, .bool q11, .bool q12, .bool q13] 23) = W8 := ⟨_, rfl⟩
      have hO8 : OptAt W8 w7.heap.size ⟨q0, q1, q2, q3, q4, q5, q6, q7, q8, q9, q10, q11, q12, q13⟩ := by rw [← hW8]; exact OptAt.new_ w7 ⟨q0, q1, q2, q3, q4, q5, q6, q7, q8, q9, q10, q11, q12, q13⟩ 23
      have hb8 : Below w7.heap.size w7 W8 := by rw [← hW8]; exact below_new _ _
      have HK8 := Lib.hid (HK7.out.below hb8)
      have HT8 := Lib.hid (HT7.out.below hb8)
      have HB8 := Lib.hid (below_self HB7.out hb8)
      have HO8 := Lib.hid hO8
      have c0 : W8.cell? ⟨w7.heap.size, 0, none⟩ = some (.int .i64 q0) := HO8.out.1 0 _ rfl
      have c1 : W8.cell? ⟨w7.heap.size, 1, none⟩ = some (.int .i64 q1) := HO8.out.1 1 _ rfl
      have c2 : W8.cell? ⟨w7.heap.size, 2, none⟩ = some (.int .i64 q2) := HO8.out.1 2 _ rfl
      have c3 : W8.cell? ⟨w7.heap.size, 3, none⟩ = some (.int .i64 q3) := HO8.out.1 3 _ rfl
      have c4 : W8.cell? ⟨w7.heap.size, 4, none⟩ = some (.bool q4) := HO8.out.1 4 _ rfl
      have c5 : W8.cell? ⟨w7.heap.size, 5, none⟩ = some (.bool q5) := HO8.out.1 5 _ rfl
      have c6 : W8.cell? ⟨w7.heap.size, 6, none⟩ = some (.bool q6) := HO8.out.1 6 _ rfl
      have c7 : W8.cell? ⟨w7.heap.size, 7, none⟩ = some (.bool q7) := HO8.out.1 7 _ rfl
      have c8 : W8.cell? ⟨w7.heap.size, 8, none⟩ = some (.bool q8) := HO8.out.1 8 _ rfl
      have c9 : W8.cell? ⟨w7.heap.size, 9, none⟩ = some (.bool q9) := HO8.out.1 9 _ rfl
      have c10 : W8.cell? ⟨w7.heap.size, 10, none⟩ = some (.bool q10) := HO8.out.1 10 _ rfl
      have c11 : W8.cell? ⟨w7.heap.size, 11, none⟩ = some (.bool q11) := HO8.out.1 11 _ rfl
      have c12 : W8.cell? ⟨w7.heap.size, 12, none⟩ = some (.bool q12) := HO8.out.1 12 _ rfl
      have c13 : W8.cell? ⟨w7.heap.size, 13, none⟩ = some (.bool q13) := HO8.out.1 13 _ rfl
      clear hb8 HK7 HT7 HB7 hO8
      go_wp2_with fail
      refine (swPrint_any q0 q1 q2 q3 q4 q5 q6 q7 q8 q9 q10 q11 q12 q13 S2 0 HPR2.out _ HT8.out HK8.out).mono ?_
      rintro e w9 ⟨rfl, hb9⟩
      have HK9 := Lib.hid (HK8.out.below hb9)
      have HT9 := Lib.hid (HT8.out.below hb9)
      have HB9 := Lib.hid (below_self HB8.out hb9)
      have HO9 := Lib.hid (HO8.out.below hb9)
      clear hb9 HK8 HT8 HB8 HO8 c0 c1 c2 c3 c4 c5 c6 c7 c8 c9 c10 c11 c12 c13 hW8
      go_wp2_with fail
      refine (swParse_any S2 ⟨q0, q1, q2, q3, q4, q5, q6, q7, q8, q9, q10, q11, q12, q13⟩ 0 HPP2.out _ HT9.out HK9.out).mono ?_
      rintro e w10 ⟨rfl, hb10⟩
      have HK10 := Lib.hid (HK9.out.below hb10)
      have HT10 := Lib.hid (HT9.out.below hb10)
      have HB10 := Lib.hid (below_self HB9.out hb10)
      have HO10 := Lib.hid (HO9.out.below hb10)
      have hl10 : w7.heap.size < w10.heap.size := HO10.out.lt
      clear hb10 HK9 HT9 HB9 HO9
      simp only [Opt.val, Opt.cells]
      have c0 : w10.cell? ⟨w7.heap.size, 0, none⟩ = some (.int .i64 q0) := HO10.out.1 0 _ rfl
      have c1 : w10.cell? ⟨w7.heap.size, 1, none⟩ = some (.int .i64 q1) := HO10.out.1 1 _ rfl
      have c2 : w10.cell? ⟨w7.heap.size, 2, none⟩ = some (.int .i64 q2) := HO10.out.1 2 _ rfl
      have c3 : w10.cell? ⟨w7.heap.size, 3, none⟩ = some (.int .i64 q3) := HO10.out.1 3 _ rfl
      have c4 : w10.cell? ⟨w7.heap.size, 4, none⟩ = some (.bool q4) := HO10.out.1 4 _ rfl
      have c5 : w10.cell? ⟨w7.heap.size, 5, none⟩ = some (.bool q5) := HO10.out.1 5 _ rfl
      have c6 : w10.cell? ⟨w7.heap.size, 6, none⟩ = some (.bool q6) := HO10.out.1 6 _ rfl
      have c7 : w10.cell? ⟨w7.heap.size, 7, none⟩ = some (.bool q7) := HO10.out.1 7 _ rfl
      have c8 : w10.cell? ⟨w7.heap.size, 8, none⟩ = some (.bool q8) := HO10.out.1 8 _ rfl
      have c9 : w10.cell? ⟨w7.heap.size, 9, none⟩ = some (.bool q9) := HO10.out.1 9 _ rfl
      have c10 : w10.cell? ⟨w7.heap.size, 10, none⟩ = some (.bool q10) := HO10.out.1 10 _ rfl
      have c11 : w10.cell? ⟨w7.heap.size, 11, none⟩ = some (.bool q11) := HO10.out.1 11 _ rfl
      have c12 : w10.cell? ⟨w7.heap.size, 12, none⟩ = some (.bool q12) := HO10.out.1 12 _ rfl
      have c13 : w10.cell? ⟨w7.heap.size, 13, none⟩ = some (.bool q13) := HO10.out.1 13 _ rfl
      go_wp2_with fail
      have HK11 := Lib.hid (HK10.out.below (below_new w10 (.cells #[.int .i64 q0, .int .i64 q1, .int .i64 q2, .int .i64 q3, .bool q4, .bool q5, .bool q6, .bool q7, .bool q8, .bool q9, .bool q10, .bool q11, .bool q12, .bool q13] 23)))
      have HT11 := Lib.hid (HT10.out.below (below_new w10 (.cells #[.int .i64 q0, .int .i64 q1, .int .i64 q2, .int .i64 q3, .bool q4, .bool q5, .bool q6, .bool q7, .bool q8, .bool q9, .bool q10, .bool q11, .bool q12, .bool q13] 23)))
      have HB11 := Lib.hid (below_self HB10.out (below_new w10 (.cells #[.int .i64 q0, .int .i64 q1, .int .i64 q2, .int .i64 q3, .bool q4, .bool q5, .bool q6, .bool q7, .bool q8, .bool q9, .bool q10, .bool q11, .bool q12, .bool q13] 23)))
      clear c0 c1 c2 c3 c4 c5 c6 c7 c8 c9 c10 c11 c12 c13 HK10 HT10 HB10 HO10 hl10 hq
      generalize w10.alloc (.cells #[.int .i64 q0, .int .i64 q1, .int .i64 q2, .int .i64 q3, .bool q4, .bool q5, .bool q6, .bool q7, .bool q8, .bool q9, .bool q10, .bool q11, .bool q12, .bool q13] 23) = w11 at *
      refine (refCheckO_any q0 q1 q2 q3 q4 q5 q6 q7 q8 q9 q10 q11 q12 q13 0 HQE.out _).mono ?_
      rintro e w12 ⟨rfl, hb12⟩
      have HK12 := Lib.hid (HK11.out.below hb12)
      have HT12 := Lib.hid (HT11.out.below hb12)
      have HB12 := Lib.hid (below_self HB11.out hb12)
      clear hb12 HK11 HT11 HB11
      go_wp2_with fail
      refine (awake11_any _ HT12.out HK12.out).mono ?_
      rintro e w13 ⟨rfl, hb13⟩
      have HB13 := Lib.hid (below_self HB12.out hb13)
      clear hb13
      go_wp2_with fail
      go_ret
      exact ⟨rfl, HB13.out⟩
    · have hQz := parse_no HG.out hG
      subst hQz
      have g1 : (G != 0) = true := by simp [hG]
      have hq := optsEq 0 0 0 0 false false false false false false false false false false 0 0 0 0 false false false false false false false false false false
      have hy : (((0 : Int) == (0 : Int)) && ((0 : Int) == (0 : Int)) && ((0 : Int) == (0 : Int)) && ((0 : Int) == (0 : Int)) && (false == false) && (false == false) && (false == false) && (false == false) && (false == false) && (false == false) && (false == false) && (false == false) && (false == false) && (false == false)) = true := rfl
      simp only [hy] at hq
      clear hG hy
      simp only [Opt.zero, Opt.val, Opt.cells]
      have HK8 := Lib.hid (HK7.out.below (below_new w7 (.cells #[.int .i64 0, .int .i64 0, .int .i64 0, .int .i64 0, .bool false, .bool false, .bool false, .bool false, .bool false, .bool false, .bool false, .bool false, .bool false, .bool false] 23)))
      have HT8 := Lib.hid (HT7.out.below (below_new w7 (.cells #[.int .i64 0, .int .i64 0, .int .i64 0, .int .i64 0, .bool false, .bool false, .bool false, .bool false, .bool false, .bool false, .bool false, .bool false, .bool false, .bool false] 23)))
      have HB8 := Lib.hid (below_self HB7.out (below_new w7 (.cells #[.int .i64 0, .int .i64 0, .int .i64 0, .int .i64 0, .bool false, .bool false, .bool false, .bool false, .bool false, .bool false, .bool false, .bool false, .bool false, .bool false] 23)))
      clear HK7 HT7 HB7
      go_wp2_with fail
      refine (awake11_any _ HT8.out HK8.out).mono ?_
      rintro e w9 ⟨rfl, hb9⟩
      have HB9 := Lib.hid (below_self HB8.out hb9)
      clear hb9
      go_wp2_with fail
      go_ret
      exact ⟨rfl, HB9.out⟩
end Go.Proofs.YtcdogkabdhbjmaaDoor
/- A variable that reads as nested arrays and structs of integers, bools and strings: its cells are the datum's leaves, one behind the other. -/
namespace Go.Proofs.YtcdogkabdhbjmaaDoor
open Go.RowKit Go.ChangeShapes Go.WideShapes Go.ChangeAt

/-- A literal's value. -/
def litVal : Lit → List Value
  | .int k n => [.int k n]
  | .bool b => [.bool b]
  | .string l => [.string ⟨l.toArray⟩]
  | _ => []
/-- The leaves of a datum. -/
def flatD {H : Type} : Nat → DataW H → List Value
  | 0, _ => []
  | m + 1, d => match d with
    | .lit l => litVal l
    | .agg ps => (ps.map (flatD m)).flatten
    | _ => []
/-- Where the fields lie one behind the other, the place behind the last one. -/
def tileEnd (P : Program) : Nat → List Field → Option Nat
  | o, [] => some o
  | o, f :: fs => if f.offset = o then tileEnd P (o + P.cellsOf f.type) fs else none
/-- Arrays and structs of integers and bools, without a gap. -/
def plainTy (P : Program) : Nat → TypeId → Bool
  | 0, _ => false
  | m + 1, t => match P.underlying t with
    | some (.int _) => true
    | some .bool => true
    | some .string => true
    | some (.array n e) => P.cellsOf t == n * P.cellsOf e && plainTy P m e
    | some (.struct fs) => tileEnd P 0 fs.toList == some (P.cellsOf t) && fs.toList.all (fun f => plainTy P m f.type)
    | _ => false

theorem tile_array (c : Nat) : ∀ (n : Nat) (cs : List Value) (ys : List (List Value)), cs.length = n * c → ys.length = n → (∀ i, i < n → ys[i]? = some ((cs.drop (i * c)).take c)) → cs = ys.flatten := by
  intro n
  induction n with
  | zero =>
    intro cs ys h1 h2 _
    have : cs = [] := List.eq_nil_of_length_eq_zero (by simpa using h1)
    have : ys = [] := List.eq_nil_of_length_eq_zero h2
    subst_vars; rfl
  | succ n ih =>
    intro cs ys h1 h2 h
    match ys, h2 with
    | y :: ys, h2 =>
      have h0 := h 0 (by omega)
      simp at h0
      have := ih (cs.drop c) ys (by rw [List.length_drop, h1, Nat.succ_mul]; omega) (by simpa using h2) (fun i hi => by
        have := h (i + 1) (by omega)
        simp only [List.getElem?_cons_succ] at this
        rw [this, List.drop_drop, Nat.succ_mul, Nat.add_comm])
      rw [List.flatten_cons, ← this, h0, List.take_append_drop]

theorem tile_struct (P : Program) (e : Nat) : ∀ (fs : List Field) (o : Nat) (cs : List Value) (ys : List (List Value)), tileEnd P o fs = some e → cs.length = e → ys.length = fs.length →
    (∀ (i : Nat) (f : Field), fs[i]? = some f → ys[i]? = some ((cs.drop f.offset).take (P.cellsOf f.type))) → cs.drop o = ys.flatten := by
  intro fs
  induction fs with
  | nil =>
    intro o cs ys h1 h2 h3 _
    have : ys = [] := List.eq_nil_of_length_eq_zero h3
    subst this
    injection h1 with h1
    rw [List.drop_eq_nil_of_le (by omega)]; rfl
  | cons f fs ih =>
    intro o cs ys h1 h2 h3 h
    match ys, h3 with
    | y :: ys, h3 =>
      unfold tileEnd at h1
      split at h1
      · rename_i ho
        have h0 := h 0 f rfl
        simp at h0
        have := ih (o + P.cellsOf f.type) cs ys h1 h2 (by simpa using h3) (fun i g hg => by
          have := h (i + 1) g (by simpa using hg)
          simpa using this)
        rw [List.flatten_cons, ← this, h0, ho, ← List.drop_drop, List.take_append_drop]
      · cases h1

theorem flat_of_trod {H : Type} {enc : TypeId × Value → H} {P : Program} {w : World} {base : Nat} {sp : Nat → Bool} {held : Bool} : ∀ (m fuel : Nat) (t : TypeId) (cs : List Value) (x : DataW H × List MemPlace),
    plainTy P m t = true → DataW.trod enc P w base sp held fuel t cs = some x → cs = flatD m x.1 := by
  intro m
  induction m with
  | zero => intro _ _ _ _ h; simp [plainTy] at h
  | succ m ih =>
    intro fuel t cs x hp h
    unfold plainTy at hp
    split at hp
    · rename_i k ht
      obtain ⟨n, rfl, rfl, _⟩ := DataW.trod_int ht h
      rfl
    · rename_i ht
      obtain ⟨b, rfl, rfl⟩ := DataW.trod_bool ht h
      rfl
    · rename_i ht
      obtain ⟨b, rfl, rfl, _⟩ := DataW.trod_string ht h
      rfl
    · rename_i n e ht
      simp only [Bool.and_eq_true, beq_iff_eq] at hp
      obtain ⟨xs, m', _, rfl, hl, hn, hel⟩ := DataW.trod_array ht h
      have := tile_array (P.cellsOf e) n cs (xs.map fun y => flatD m y.1) (by rw [hl, hp.1]) (by simpa using hn) (fun i hi => by
        have h1 := hel i hi
        obtain ⟨y, hy⟩ : ∃ y, xs[i]? = some y := ⟨_, List.getElem?_eq_getElem (by omega)⟩
        rw [hy] at h1
        rw [List.getElem?_map, hy, ih _ _ _ _ hp.2 h1]; rfl)
      rw [this]
      simp [flatD, List.map_map, Function.comp_def]
    · rename_i fs ht
      simp only [Bool.and_eq_true, beq_iff_eq] at hp
      obtain ⟨xs, m', _, rfl, hl, hn, hel⟩ := DataW.trod_struct ht h
      have := tile_struct P _ fs.toList 0 cs (xs.map fun y => flatD m y.1) hp.1 hl (by simpa using hn) (fun i f hf => by
        have h1 := hel i f (by simpa using hf)
        have hlt : i < fs.size := by
          have := (List.getElem?_eq_some_iff.1 hf).1
          simpa using this
        obtain ⟨y, hy⟩ : ∃ y, xs[i]? = some y := ⟨_, List.getElem?_eq_getElem (by omega)⟩
        rw [hy] at h1
        rw [List.getElem?_map, hy, ih _ _ _ _ (List.all_eq_true.1 hp.2 f (List.mem_of_getElem? hf)) h1]; rfl)
      simp only [List.drop_zero] at this
      rw [this]
      simp [flatD, List.map_map, Function.comp_def]
    · cases hp
end Go.Proofs.YtcdogkabdhbjmaaDoor
/- The row's last step where of the world behind the call only 'Below' is known (after the guide's page of small lemmas, which asks to copy it). -/
namespace Go.Proofs.YtcdogkabdhbjmaaDoor
open Go.RowKit Go.WideShapes Go.ChangeShapes

section
variable {H : Type} {enc : TypeId × Value → H} {P : Program}
theorem post_of_below {f : Func} {s : ChangeSpec} {apart fresh handsOn again : Bool} {W W' : World} {args : Array Value} {v : Value} {ds gs : List (DataW H)} {before pa pv : List MemPlace}
    (hW : DataW.Whole enc P f.params.toList s.vars apart W args.toList ds gs before)
    (hres : ∀ (b : Nat) (sp : Nat → Bool) (hd : Bool), DataW.TrodAll enc P W' b sp hd f.resultTypes.toList (v.resultList f.resultTypes.size) (s.fn H (ds ++ gs)).results [])
    (hargs : ∀ sp : Nat → Bool, (∀ p ∈ before, sp p.block = true) → DataW.TrodAll enc P W' 0 sp true f.params.toList args.toList (s.fn H (ds ++ gs)).args pa)
    (hvars : ∀ sp : Nat → Bool, (∀ p ∈ before, sp p.block = true) → DataW.TrodVars enc P W' sp s.vars (s.fn H (ds ++ gs)).vars pv)
    (hps : before = pa ++ pv) (hb : Below W.heap.size W W')
    (hok : ∀ (j : Nat) (t : TypeId) (r : Value), f.resultTypes[j]? = some t → (v.resultList f.resultTypes.size)[j]? = some r → Value.okWide P W' .any 0 t r) :
    s.post enc P f apart fresh handsOn again W args v W' := by
  have hlt : ∀ p ∈ before, p.block < W.heap.size := fun p hp => hW.lt p hp
  have hold : ∀ p ∈ before, (fun b => decide (b < W.heap.size)) p.block = true := fun p hp => by simpa using hlt p hp
  refine ⟨ds, gs, before, [], pa, pv, hW, hres _ _ _, hargs _ hold, hvars _ hold, World.keptBut_mono (fun p hp => ⟨hp, ?_⟩) (hb.frame (· ∈ before)), fun _ => ?_⟩
  · rw [hps, List.mem_append] at hp
    exact Or.inr hp
  · obtain ⟨_, _, _, _, _, hz, hn⟩ := hW
    refine ⟨hok, _, _, ([] ++ pa) ++ pv, ⟨[] ++ pa, pv, trodAll_append (hargs _ (fun _ _ => rfl)) (hres _ _ _), hvars _ (fun _ _ => rfl), rfl, ?_, ?_⟩, ?_⟩
    · intro b off hp
      have hin : MemPlace.cell b off ∈ before := by rw [hps]; simpa using hp
      rw [hb.frozen (hlt _ hin)]
      exact hz b off hin
    · intro ha
      have := hn ha
      rw [hps] at this
      simpa using this
    · intro p hp _
      rw [hps]
      simpa using hp
end
end Go.Proofs.YtcdogkabdhbjmaaDoor
/- A law's row out of its walk: whatever the arguments' types, if the call returns true and leaves all memory that was there as it was, the row's post holds. -/
namespace Go.Proofs.YtcdogkabdhbjmaaDoor
open Go.ChangeShapes Go.WideShapes Go.ChangeAt Go.RowKit

theorem own : ownKnob Tryd.prog.godebug = none := by kernel_rfl
theorem laidOut : laidOutB Tryd.prog = true := by kernel_rfl

section
variable {H : Type} {enc : TypeId × Value → H} {P : Program}
theorem trodAll_below (hl : laidOutB P = true) {W W' : World} (hb : Below W.heap.size W W') {sp : Nat → Bool} : ∀ (ts : List TypeId) (vs : List Value) (ds : List (DataW H)) (p : List MemPlace),
    (∀ t ∈ ts, P.readableRec t = true ∧ t < P.types.size) → (∀ x ∈ p, x.block < W.heap.size) → (∀ x ∈ p, sp x.block = true) →
    DataW.TrodAll enc P W 0 (fun _ => true) true ts vs ds p → DataW.TrodAll enc P W' 0 sp true ts vs ds p := by
  intro ts
  induction ts with
  | nil => intro vs ds p _ _ _ h; cases vs <;> cases ds <;> exact h
  | cons t ts ih =>
    intro vs ds p hr hlt hsp h
    match vs, ds, h with
    | v :: vs, d :: ds, h =>
      obtain ⟨p1, p2, h1, h2, rfl⟩ := h
      have ⟨r1, r2⟩ := hr t (by simp)
      exact ⟨p1, p2, WideElems.Trod_stays hl r1 r2 h1 (fun x hx => hb.same (hlt x (by simp [hx]))) (fun x hx => hsp x (by simp [hx])), ih vs ds p2 (fun t ht => hr t (by simp [ht])) (fun x hx => hlt x (by simp [hx])) (fun x hx => hsp x (by simp [hx])) h2, rfl⟩
end
theorem trodAll_len {H : Type} {enc : TypeId × Value → H} {P : Program} {w : World} {base : Nat} {sp : Nat → Bool} {held : Bool} : ∀ (ts : List TypeId) (vs : List Value) (ds : List (DataW H)) (p : List MemPlace), DataW.TrodAll enc P w base sp held ts vs ds p → ds.length = ts.length := by
  intro ts
  induction ts with
  | nil => intro vs ds p h; cases vs <;> cases ds <;> simp_all [DataW.TrodAll]
  | cons t ts ih =>
    intro vs ds p h
    match vs, ds, h with
    | v :: vs, d :: ds, h =>
      obtain ⟨p1, p2, _, h2, _⟩ := h
      simp [ih vs ds p2 h2]

/-- What the walk owes of a law: called with whatever reads as data, the variables as laid, it returns true and leaves what was there. -/
def LawWalk (H : Type) (enc : TypeId × Value → H) (f : FuncId) (fn : Func) (L : List (String × DataW Unit)) : Prop :=
  ∀ (W : World) (base : Nat) (args : Array Value) (ds : List (DataW H)) (p : List MemPlace),
    (∀ (j : Nat) t v, fn.params[j]? = some t → args[j]? = some v → Value.okWide Tryd.prog W .any base t v) →
    DataW.TrodAll enc Tryd.prog W 0 (fun _ => true) true fn.params.toList args.toList ds p → laidMetH Tryd.prog L W →
    Calls Tryd.prog f args W fun e W' => e = .returned (.bool true) ∧ Below W.heap.size W W'

set_option maxRecDepth 100000 in
theorem law_lifted {H : Type} {enc : TypeId × Value → H} {os : Os} (started : os.Started) (s : ChangeSpec) (f : FuncId) (fn : Func) (tb : TypeId) (L : List (String × DataW Unit))
    (hvars : s.vars = []) (hspec : ∀ (ds : List (DataW H)), ds.length = fn.params.toList.length → s.fn H ds = { results := [.lit (.bool true)], args := ds })
    (hf : Tryd.checked.prog.funcs[f]? = some fn) (hinit : Tryd.checked.prog.inits.idxOf? f = none) (hrt : fn.resultTypes = #[tb]) (hub : Tryd.prog.underlying tb = some .bool)
    (hread : ∀ t ∈ fn.params.toList, Tryd.prog.readableRec t = true ∧ t < Tryd.prog.types.size)
    (witness : ∃ (w : World) (tape : Tape) (i : Input), w.os = os ∧ (w.forCall tape i).Shaped Tryd.checked.prog ∧ i.vars = [] ∧ Input.okWide Tryd.checked.prog (w.forCall tape i) .any w.heap.size f i ∧
      ((s.pre enc Tryd.checked.prog fn [] false (w.forCall tape i).memory i.args ∧ laidMetH Tryd.prog L (w.forCall tape i).memory) ∧ sizedMet enc Tryd.checked.prog fn (OpenSpec.ofChange s) false (w.forCall tape i).memory i.args) ∧ ({} : Assume).holds Tryd.checked.prog (lone (Frame.enter Tryd.checked.prog f i.args .normal) [] (w.forCall tape i)))
    (walk : LawWalk H enc f fn L) :
    ReturnsInHanded {} Tryd.checked os f .any (fun w args => (s.pre enc Tryd.prog fn [] false w args ∧ laidMetH Tryd.prog L w) ∧ sizedMet enc Tryd.prog fn (OpenSpec.ofChange s) false w args) (s.post enc Tryd.prog fn false true false false) := by
  refine returnsInHanded_of_change_and (C := Tryd.checked) (X := fun w _ => laidMetH Tryd.prog L w) (fun _ _ _ hh h => h.of_heap hh) own started hinit hf witness ?_
  intro W base args ds gs before hval hW _ _ hL _
  have hW' := hW
  have hlt : ∀ p ∈ before, p.block < W.heap.size := fun p hp => hW.lt p hp
  obtain ⟨p, q, hA, hV, rfl, hfz, hnd⟩ := hW
  rw [hvars] at hV
  obtain ⟨rfl, rfl⟩ := trodVars_none hV
  have hlen := trodAll_len _ _ _ _ hA
  have hsp := hspec ds hlen
  refine (walk W base args ds p hval hA hL).mono fun e W' ⟨he, hb⟩ => ?_
  subst he
  refine ⟨_, rfl, post_of_below (pa := p) (pv := []) hW' (fun _ _ _ => ?_) (fun sp hs => ?_) (fun sp hs => ?_) (by simp) hb (ok_one hrt ?_ (okWide_bool_mk hub _))⟩
  · rw [List.append_nil, hsp, hrt]
    exact trodAll_mk1 (shut_bool hub _)
  · rw [List.append_nil, hsp]
    exact trodAll_below laidOut hb _ _ _ _ hread (fun x hx => hlt x (by simp [hx])) (fun x hx => hs x (by simp [hx])) hA
  · rw [List.append_nil, hsp, hvars]
    exact rfl
  · rfl
end Go.Proofs.YtcdogkabdhbjmaaDoor
/- The sizes of the kinds, out of the row's condition that they read as the program's text lays them; the heap that the door's own run leaves meets that condition. -/
namespace Go.Proofs.YtcdogkabdhbjmaaDoor
open Go.ChangeShapes Go.WideShapes Go.ChangeAt Go.RowKit

def laidOp : List (String × DataW Unit) := [("naskh/option.sizes", Rows.laid_naskh_option_sizes)]
theorem gSizes : Tryd.prog.globalNamed "naskh/option.sizes" = some 1 := by kernel_rfl
theorem tSizes : (Tryd.prog.globals[1]?).map (·.type) = some 46 := by kernel_rfl
theorem pSizes : plainTy Tryd.prog 4 46 = true := by kernel_rfl
theorem doorOp_met (os : Os) (args : Array Value) : laidMetH Tryd.prog laidOp ((World.doorLaid Tryd.prog 400 os).forCall (fun _ _ => 0) ⟨#[], args, []⟩).memory :=
  laidMetH_of_parts3 (fuel := 8) (laidMet_of_run' 8 (by kernel_rfl) (by kernel_rfl)) (by kernel_rfl) (by kernel_rfl)
theorem door_shaped (os : Os) (args : Array Value) : ((World.doorLaid Tryd.prog 400 os).forCall (fun _ _ => 0) ⟨#[], args, []⟩).Shaped Tryd.prog := World.shaped_of_RefB (by kernel_rfl) (by kernel_rfl)
theorem sizes_of_laid {W : World} (h : laidMetH Tryd.prog laidOp W) : KindsAt W := by
  rw [MakeChecks.laidMetH_plain _ _ _ (by kernel_rfl)] at h
  obtain ⟨ps, ⟨g0, t0, cs0, f0, p0, q0, hg0, ht0, hv0, hd0, _⟩, _, _⟩ := h
  obtain rfl := Option.some.inj (gSizes.symm.trans hg0)
  obtain rfl := Option.some.inj (tSizes.symm.trans ht0)
  have hcs := flat_of_trod 4 _ _ _ _ pSizes hd0
  have hc : ∀ (i : Nat) (v : Value), cs0.toList[i]? = some v → W.cell? ⟨1, i, none⟩ = some v := fun i v hv => by
    rw [World.var?_cell hg0 hv0 i]; simpa using hv
  rw [hcs] at hc
  exact ⟨hc 0 _ rfl, hc 1 _ rfl, hc 2 _ rfl, hc 3 _ rfl⟩
end Go.Proofs.YtcdogkabdhbjmaaDoor
/- The sizes of the kinds and the words, out of the row's condition that they read as the program's text lays them. -/
namespace Go.Proofs.YtcdogkabdhbjmaaDoor
open Go.ChangeShapes Go.WideShapes Go.ChangeAt Go.RowKit

def laidSw : List (String × DataW Unit) := [("naskh/option.sizes", Rows.laid_naskh_option_sizes), ("naskh/spell.terms", Rows.laid_naskh_spell_terms)]
theorem gTerms : Tryd.prog.globalNamed "naskh/spell.terms" = some 0 := by kernel_rfl
theorem tTerms : (Tryd.prog.globals[0]?).map (·.type) = some 66 := by kernel_rfl
theorem pTerms : plainTy Tryd.prog 4 66 = true := by kernel_rfl
theorem doorSw_met (os : Os) (args : Array Value) : laidMetH Tryd.prog laidSw ((World.doorLaid Tryd.prog 400 os).forCall (fun _ _ => 0) ⟨#[], args, []⟩).memory :=
  laidMetH_of_parts3 (fuel := 8) (laidMet_of_run' 8 (by kernel_rfl) (by kernel_rfl)) (by kernel_rfl) (by kernel_rfl)
theorem flat_terms : flatD (H := Unit) 4 Rows.laid_naskh_spell_terms = termCells := by rfl
theorem tabSw_of_laid {W : World} (h : laidMetH Tryd.prog laidSw W) : KindsAt W ∧ TermsAt W := by
  rw [MakeChecks.laidMetH_plain _ _ _ (by kernel_rfl)] at h
  obtain ⟨ps, ⟨g0, t0, cs0, f0, p0, q0, hg0, ht0, hv0, hd0, ⟨g1, t1, cs1, f1, p1, q1, hg1, ht1, hv1, hd1, _⟩, _⟩, _, _⟩ := h
  obtain rfl := Option.some.inj (gSizes.symm.trans hg0)
  obtain rfl := Option.some.inj (tSizes.symm.trans ht0)
  obtain rfl := Option.some.inj (gTerms.symm.trans hg1)
  obtain rfl := Option.some.inj (tTerms.symm.trans ht1)
  have e0 := flat_of_trod 4 _ _ _ _ pSizes hd0
  have e1 := flat_of_trod 4 _ _ _ _ pTerms hd1
  have c0 : ∀ (i : Nat) (v : Value), cs0.toList[i]? = some v → W.cell? ⟨1, i, none⟩ = some v := fun i v hv => by
    rw [World.var?_cell hg0 hv0 i]; simpa using hv
  have c1 : ∀ (i : Nat) (v : Value), cs1.toList[i]? = some v → W.cell? ⟨0, i, none⟩ = some v := fun i v hv => by
    rw [World.var?_cell hg1 hv1 i]; simpa using hv
  rw [e0] at c0
  rw [e1] at c1
  exact ⟨⟨c0 0 _ rfl, c0 1 _ rfl, c0 2 _ rfl, c0 3 _ rfl⟩, fun j v hv => c1 j v (by
    have := flat_terms
    rw [← this] at hv
    exact hv)⟩
end Go.Proofs.YtcdogkabdhbjmaaDoor
/- Spans as data: what a span is, the cells of a slice of spans; no function of the program. -/
namespace Go.Proofs.YtcdogkabdhbjmaaDoor
open Go.RowKit

abbrev Sp := Int × Int
def rightB (s : Sp) : Bool := decide (0 ≤ s.1 ∧ s.1 < s.2)
def sizeS (s : Sp) : Int := if rightB s = true then s.2 - s.1 else 0
def hasB (s : Sp) (at_ : Int) : Bool := decide (s.1 ≤ at_ ∧ at_ < s.2)
def encS (s : Sp) : List Value := [.int .i64 s.1, .int .i64 s.2]
def cellsS (l : List Sp) : List Value := l.flatMap encS
def valS (s : Sp) : Value := .agg #[.int .i64 s.1, .int .i64 s.2]
def Fit (x : Int) : Prop := -9223372036854775808 ≤ x ∧ x ≤ 9223372036854775807

theorem cellsS_len (l : List Sp) : (cellsS l).length = l.length * 2 := by
  induction l with
  | nil => rfl
  | cons s l ih =>
    show (encS s ++ cellsS l).length = _
    rw [List.length_append, ih, List.length_cons]
    simp only [encS, List.length_cons, List.length_nil]
    omega
theorem cellsS_at {l : List Sp} {k : Nat} {s : Sp} (h : l[k]? = some s) : (cellsS l)[k * 2]? = some (.int .i64 s.1) ∧ (cellsS l)[k * 2 + 1]? = some (.int .i64 s.2) := by
  induction l generalizing k with
  | nil => simp at h
  | cons t l ih =>
    have hc : cellsS (t :: l) = .int .i64 t.1 :: .int .i64 t.2 :: cellsS l := rfl
    cases k with
    | zero =>
      simp at h
      subst h
      exact ⟨rfl, rfl⟩
    | succ k =>
      have := ih (k := k) (by simpa using h)
      rw [hc]
      have e1 : (k + 1) * 2 = k * 2 + 1 + 1 := by omega
      have e2 : (k + 1) * 2 + 1 = (k * 2 + 1) + 1 + 1 := by omega
      rw [e2, e1]
      simpa using this

theorem addNext (a : Addr) (j i : Nat) : a.add (j + (i + 1)) = ⟨(a.add j).block, (a.add j).off + (i + 1), none⟩ := by
  unfold Addr.add
  by_cases hj : j = 0
  · subst hj; simp
  · simp [hj]; omega
/-- The two cells of a span in a slice, as the walk spells them. -/
theorem Rd.span {w : World} {A : Option Addr} {n k : Nat} {l : List Sp} {s : Sp} (hr : Rd w 2 A n (cellsS l)) (h : l[k]? = some s) : ∃ ad, A = some ad ∧ ad.block < w.heap.size ∧ w.cell? (ad.add (k * 2)) = some (.int .i64 s.1) ∧ w.cell? ⟨(ad.add (k * 2)).block, (ad.add (k * 2)).off + 1, none⟩ = some (.int .i64 s.2) := by
  have hlen : l.length * 2 = n * 2 := by rw [← cellsS_len]; exact hr.1
  have hk := (List.getElem?_eq_some_iff.1 h).1
  obtain ⟨ad, rfl, hb, hc⟩ := hr.2 (by omega)
  obtain ⟨e1, e2⟩ := cellsS_at h
  refine ⟨ad, rfl, hb, hc _ _ e1, ?_⟩
  have := hc _ _ e2
  rwa [addNext ad (k * 2) 0] at this

end Go.Proofs.YtcdogkabdhbjmaaDoor
/- Arguments that came in: slices of rows (structs of integers), integers, opened to lists (XOpenR without its spans). -/
namespace Go.Proofs.YtcdogkabdhbjmaaDoor
open Go.ChangeShapes Go.WideShapes Go.ChangeAt Go.RowKit Go.Deep

theorem flatMap_len {α : Type} (f : α → List Value) (size : Nat) (hs : ∀ s, (f s).length = size) (l : List α) : (l.flatMap f).length = l.length * size := by
  induction l with
  | nil => simp
  | cons s l ih => rw [List.flatMap_cons, List.length_append, hs, ih, List.length_cons, Nat.succ_mul]; omega
theorem flatMap_at {α : Type} (f : α → List Value) (size : Nat) (hs : ∀ s, (f s).length = size) {l : List α} {j : Nat} {u : Value} (h : (l.flatMap f)[j]? = some u) :
    ∃ i k s, j = i * size + k ∧ k < size ∧ l[i]? = some s ∧ (f s)[k]? = some u := by
  induction l generalizing j with
  | nil => simp at h
  | cons s l ih =>
    rw [List.flatMap_cons] at h
    by_cases hj : j < size
    · rw [List.getElem?_append_left (by rw [hs]; exact hj)] at h
      exact ⟨0, j, s, by omega, hj, rfl, h⟩
    · rw [List.getElem?_append_right (by rw [hs]; omega), hs] at h
      obtain ⟨i, k, s', e, hk, hl, hf⟩ := ih h
      exact ⟨i + 1, k, s', by rw [Nat.succ_mul]; omega, hk, by simpa using hl, hf⟩

/-- A list chosen element by element. -/
theorem list_of {α : Type} {R : Nat → α → Prop} : ∀ (n : Nat), (∀ i, i < n → ∃ s, R i s) → ∃ l : List α, l.length = n ∧ ∀ i s, l[i]? = some s → R i s
  | 0, _ => ⟨[], rfl, fun i s h => by simp at h⟩
  | n + 1, h => by
    obtain ⟨l, hl, hR⟩ := list_of n (fun i hi => h i (by omega))
    obtain ⟨s, hs⟩ := h n (by omega)
    refine ⟨l ++ [s], by simp [hl], fun i t ht => ?_⟩
    by_cases hi : i < n
    · rw [List.getElem?_append_left (by omega)] at ht
      exact hR i t ht
    · rw [List.getElem?_append_right (by omega)] at ht
      have h0 : i - l.length = 0 := by
        have := (List.getElem?_eq_some_iff.1 ht).1
        simp at this; omega
      rw [h0] at ht
      simp at ht
      subst ht
      rwa [show i = n by omega]

section
variable {H : Type} {enc : TypeId × Value → H} {P : Program} {W : World} {base : Nat}
theorem open_rows {α : Type} (f : α → List Value) (size : Nat) (h0 : 0 < size) (hs : ∀ s, (f s).length = size) (good : α → Prop) {t e : TypeId} {v : Value} {d : DataW H} {p : List MemPlace} (ht : P.underlying t = some (.slice e)) (hc : P.cellsOf e = size)
    (hel : ∀ fuel cs x, DataW.trod enc P W 0 (fun _ => true) true fuel e cs = some x → ∃ s, cs = f s ∧ good s)
    (hval : Value.okWide P W .any base t v) (h : DataW.Trod enc P W 0 (fun _ => true) true t v d p) :
    ∃ (A : Option Addr) (n c : Nat) (l : List α), v = .slice A n c ∧ n ≤ c ∧ c ≤ maxLen ∧ Rd W size A n (l.flatMap f) ∧ l.length = n ∧ ∀ s ∈ l, good s := by
  obtain ⟨A, n, c, rfl⟩ := okWide_slice ht hval
  obtain ⟨fuel, hf⟩ := h
  rcases open_slice ht hf with ⟨hcs, _⟩ | ⟨a, len, cap, m, n', D, Pl, hcs, _, hle, hm, hmm, _, hi⟩
  · simp [Value.cells] at hcs
    obtain ⟨rfl, rfl, rfl⟩ := hcs
    exact ⟨none, 0, 0, [], rfl, Nat.le_refl _, by simp, Rd.nil_, rfl, by simp⟩
  · simp [Value.cells] at hcs
    obtain ⟨rfl, rfl, rfl⟩ := hcs
    have hmn : n ≤ m := by rw [hmm]; split <;> omega
    rw [hc] at hi
    obtain ⟨l, hl, hR⟩ := list_of (R := fun i (s : α) => (∀ k u, (f s)[k]? = some u → W.cell? ((a.add (i * size)).add k) = some u) ∧ good s) n (fun i hin => by
      obtain ⟨cs', hc', ht'⟩ := hi i (by omega)
      obtain ⟨s, rfl, hg⟩ := hel _ _ _ ht'
      obtain ⟨_, _, hat⟩ := World.cells?_some hc'
      exact ⟨s, fun k u hk => by
        have hkl := (List.getElem?_eq_some_iff.1 hk).1
        rw [hs] at hkl
        rw [hat k hkl, hk], hg⟩)
    refine ⟨some a, n, c, l, rfl, hle, hm, ⟨by rw [flatMap_len f size hs, hl], fun hn => ?_⟩, hl, fun s hsl => ?_⟩
    · have hcell : ∀ j u, (l.flatMap f)[j]? = some u → W.cell? (a.add j) = some u := fun j u hj => by
        obtain ⟨i, k, s, rfl, hk, hli, hfu⟩ := flatMap_at f size hs hj
        rw [← addAdd]
        exact (hR i s hli).1 k u hfu
      have hlen : 0 < (l.flatMap f).length := by rw [flatMap_len f size hs, hl]; exact Nat.mul_pos hn h0
      have := cell_lt (hcell 0 _ (List.getElem?_eq_getElem hlen))
      rw [blockAdd] at this
      exact ⟨a, rfl, this, hcell⟩
    · obtain ⟨i, hi', rfl⟩ := List.getElem_of_mem hsl
      exact (hR i _ (List.getElem?_eq_getElem hi')).2
end

def FitS (s : Sp) : Prop := Fit s.1 ∧ Fit s.2
theorem fit_of_wf {x : Int} (h : (Lit.int .i64 x).wf = true) : Fit x := by
  unfold Fit
  simp [Lit.wf, IntKind.min, IntKind.max, IntKind.signed, IntKind.bits] at h
  omega

section
variable {H : Type} {enc : TypeId × Value → H} {W : World} {base : Nat}
set_option maxRecDepth 100000 in
/-- A slice of integers that came in. -/
theorem open_ints_ {v : Value} {d : DataW H} {p : List MemPlace} (hval : Value.okWide Tryd.prog W .any base 97 v) (h : DataW.Trod enc Tryd.prog W 0 (fun _ => true) true 97 v d p) :
    ∃ (A : Option Addr) (n c : Nat) (l : List Int), v = .slice A n c ∧ n ≤ c ∧ c ≤ maxLen ∧ Rd W 1 A n (l.map (Value.int .i64)) ∧ l.length = n ∧ ∀ s ∈ l, Fit s := by
  have := open_rows (fun x : Int => [Value.int .i64 x]) 1 (by decide) (fun _ => rfl) Fit Tryd.underlying97 (by kernel_rfl) (fun fuel cs x h => by
    obtain ⟨a, rfl, _, w0⟩ := DataW.trod_int Tryd.underlying3 h
    exact ⟨a, rfl, fit_of_wf w0⟩) hval h
  simpa [List.flatMap_singleton', ← List.map_eq_flatMap] using this
end
end Go.Proofs.YtcdogkabdhbjmaaDoor
