/- naskhlaw10.OptionChecks. -/
import Derived.Test.YtcdogkabdhbjmaaDoorOpL1
import Derived.Deep.RegionHeld3
namespace Go.Proofs.YtcdogkabdhbjmaaDoor
open Go.RowKit

theorem s28_on {w0 X Y : World} {b c : Nat} {d l t g d' l' t' g' : Int} {b0 b1 b2 b3 b4 b5 b6 b7 b8 b9 a0 a1 a2 a3 a4 a5 a6 a7 a8 a9 : Bool} (h : X.cell? ⟨b, 0, none⟩ = some (.int .i64 d) ∧ X.cell? ⟨b, 1, none⟩ = some (.int .i64 l) ∧ X.cell? ⟨b, 2, none⟩ = some (.int .i64 t) ∧ X.cell? ⟨b, 3, none⟩ = some (.int .i64 g) ∧ X.cell? ⟨b, 4, none⟩ = some (.bool b0) ∧ X.cell? ⟨b, 5, none⟩ = some (.bool b1) ∧ X.cell? ⟨b, 6, none⟩ = some (.bool b2) ∧ X.cell? ⟨b, 7, none⟩ = some (.bool b3) ∧ X.cell? ⟨b, 8, none⟩ = some (.bool b4) ∧ X.cell? ⟨b, 9, none⟩ = some (.bool b5) ∧ X.cell? ⟨b, 10, none⟩ = some (.bool b6) ∧ X.cell? ⟨b, 11, none⟩ = some (.bool b7) ∧ X.cell? ⟨b, 12, none⟩ = some (.bool b8) ∧ X.cell? ⟨b, 13, none⟩ = some (.bool b9) ∧ X.cell? ⟨c, 0, none⟩ = some (.int .i64 d') ∧ X.cell? ⟨c, 1, none⟩ = some (.int .i64 l') ∧ X.cell? ⟨c, 2, none⟩ = some (.int .i64 t') ∧ X.cell? ⟨c, 3, none⟩ = some (.int .i64 g') ∧ X.cell? ⟨c, 4, none⟩ = some (.bool a0) ∧ X.cell? ⟨c, 5, none⟩ = some (.bool a1) ∧ X.cell? ⟨c, 6, none⟩ = some (.bool a2) ∧ X.cell? ⟨c, 7, none⟩ = some (.bool a3) ∧ X.cell? ⟨c, 8, none⟩ = some (.bool a4) ∧ X.cell? ⟨c, 9, none⟩ = some (.bool a5) ∧ X.cell? ⟨c, 10, none⟩ = some (.bool a6) ∧ X.cell? ⟨c, 11, none⟩ = some (.bool a7) ∧ X.cell? ⟨c, 12, none⟩ = some (.bool a8) ∧ X.cell? ⟨c, 13, none⟩ = some (.bool a9) ∧ Below w0.heap.size w0 X) (hb : Below X.heap.size X Y) : Y.cell? ⟨b, 0, none⟩ = some (.int .i64 d) ∧ Y.cell? ⟨b, 1, none⟩ = some (.int .i64 l) ∧ Y.cell? ⟨b, 2, none⟩ = some (.int .i64 t) ∧ Y.cell? ⟨b, 3, none⟩ = some (.int .i64 g) ∧ Y.cell? ⟨b, 4, none⟩ = some (.bool b0) ∧ Y.cell? ⟨b, 5, none⟩ = some (.bool b1) ∧ Y.cell? ⟨b, 6, none⟩ = some (.bool b2) ∧ Y.cell? ⟨b, 7, none⟩ = some (.bool b3) ∧ Y.cell? ⟨b, 8, none⟩ = some (.bool b4) ∧ Y.cell? ⟨b, 9, none⟩ = some (.bool b5) ∧ Y.cell? ⟨b, 10, none⟩ = some (.bool b6) ∧ Y.cell? ⟨b, 11, none⟩ = some (.bool b7) ∧ Y.cell? ⟨b, 12, none⟩ = some (.bool b8) ∧ Y.cell? ⟨b, 13, none⟩ = some (.bool b9) ∧ Y.cell? ⟨c, 0, none⟩ = some (.int .i64 d') ∧ Y.cell? ⟨c, 1, none⟩ = some (.int .i64 l') ∧ Y.cell? ⟨c, 2, none⟩ = some (.int .i64 t') ∧ Y.cell? ⟨c, 3, none⟩ = some (.int .i64 g') ∧ Y.cell? ⟨c, 4, none⟩ = some (.bool a0) ∧ Y.cell? ⟨c, 5, none⟩ = some (.bool a1) ∧ Y.cell? ⟨c, 6, none⟩ = some (.bool a2) ∧ Y.cell? ⟨c, 7, none⟩ = some (.bool a3) ∧ Y.cell? ⟨c, 8, none⟩ = some (.bool a4) ∧ Y.cell? ⟨c, 9, none⟩ = some (.bool a5) ∧ Y.cell? ⟨c, 10, none⟩ = some (.bool a6) ∧ Y.cell? ⟨c, 11, none⟩ = some (.bool a7) ∧ Y.cell? ⟨c, 12, none⟩ = some (.bool a8) ∧ Y.cell? ⟨c, 13, none⟩ = some (.bool a9) ∧ Below w0.heap.size w0 Y :=
  ⟨cell_below hb h.1, cell_below hb h.2.1, cell_below hb h.2.2.1, cell_below hb h.2.2.2.1, cell_below hb h.2.2.2.2.1, cell_below hb h.2.2.2.2.2.1, cell_below hb h.2.2.2.2.2.2.1, cell_below hb h.2.2.2.2.2.2.2.1, cell_below hb h.2.2.2.2.2.2.2.2.1, cell_below hb h.2.2.2.2.2.2.2.2.2.1, cell_below hb h.2.2.2.2.2.2.2.2.2.2.1, cell_below hb h.2.2.2.2.2.2.2.2.2.2.2.1, cell_below hb h.2.2.2.2.2.2.2.2.2.2.2.2.1, cell_below hb h.2.2.2.2.2.2.2.2.2.2.2.2.2.1, cell_below hb h.2.2.2.2.2.2.2.2.2.2.2.2.2.2.1, cell_below hb h.2.2.2.2.2.2.2.2.2.2.2.2.2.2.2.1, cell_below hb h.2.2.2.2.2.2.2.2.2.2.2.2.2.2.2.2.1, cell_below hb h.2.2.2.2.2.2.2.2.2.2.2.2.2.2.2.2.2.1, cell_below hb h.2.2.2.2.2.2.2.2.2.2.2.2.2.2.2.2.2.2.1, cell_below hb h.2.2.2.2.2.2.2.2.2.2.2.2.2.2.2.2.2.2.2.1, cell_below hb h.2.2.2.2.2.2.2.2.2.2.2.2.2.2.2.2.2.2.2.2.1, cell_below hb h.2.2.2.2.2.2.2.2.2.2.2.2.2.2.2.2.2.2.2.2.2.1, cell_below hb h.2.2.2.2.2.2.2.2.2.2.2.2.2.2.2.2.2.2.2.2.2.2.1, cell_below hb h.2.2.2.2.2.2.2.2.2.2.2.2.2.2.2.2.2.2.2.2.2.2.2.1, cell_below hb h.2.2.2.2.2.2.2.2.2.2.2.2.2.2.2.2.2.2.2.2.2.2.2.2.1, cell_below hb h.2.2.2.2.2.2.2.2.2.2.2.2.2.2.2.2.2.2.2.2.2.2.2.2.2.1, cell_below hb h.2.2.2.2.2.2.2.2.2.2.2.2.2.2.2.2.2.2.2.2.2.2.2.2.2.2.1, cell_below hb h.2.2.2.2.2.2.2.2.2.2.2.2.2.2.2.2.2.2.2.2.2.2.2.2.2.2.2.1, below_self h.2.2.2.2.2.2.2.2.2.2.2.2.2.2.2.2.2.2.2.2.2.2.2.2.2.2.2.2 hb⟩
set_option maxRecDepth 100000 in
set_option maxHeartbeats 8000000 in
theorem optionChecks_any (d l t g : Int) (b0 b1 b2 b3 b4 b5 b6 b7 b8 b9 : Bool) (d' l' t' g' : Int) (a0 a1 a2 a3 a4 a5 a6 a7 a8 a9 : Bool) (w : World) (hK : KindsAt w) :
    Calls Tryd.prog 3 #[.agg #[.int .i64 d, .int .i64 l, .int .i64 t, .int .i64 g, .bool b0, .bool b1, .bool b2, .bool b3, .bool b4, .bool b5, .bool b6, .bool b7, .bool b8, .bool b9], .agg #[.int .i64 d', .int .i64 l', .int .i64 t', .int .i64 g', .bool a0, .bool a1, .bool a2, .bool a3, .bool a4, .bool a5, .bool a6, .bool a7, .bool a8, .bool a9]] w fun e w' => e = .returned (.bool true) ∧ Below w.heap.size w w' := by
  obtain ⟨E, hE⟩ : ∃ E, Opt.err ⟨d, l, t, g, b0, b1, b2, b3, b4, b5, b6, b7, b8, b9⟩ = E := ⟨_, rfl⟩
  obtain ⟨y, hy⟩ : ∃ y, ((d == d') && (l == l') && (t == t') && (g == g') && (b0 == a0) && (b1 == a1) && (b2 == a2) && (b3 == a3) && (b4 == a4) && (b5 == a5) && (b6 == a6) && (b7 == a7) && (b8 == a8) && (b9 == a9)) = y := ⟨_, rfl⟩
  have hz : ((d == d) && (l == l) && (t == t) && (g == g) && (b0 == b0) && (b1 == b1) && (b2 == b2) && (b3 == b3) && (b4 == b4) && (b5 == b5) && (b6 == b6) && (b7 == b7) && (b8 == b8) && (b9 == b9)) = true := by simp
  obtain ⟨W1, hW1⟩ : ∃ W1, w.alloc (.cells #[.int .i64 d, .int .i64 l, .int .i64 t, .int .i64 g, .bool b0, .bool b1, .bool b2, .bool b3, .bool b4, .bool b5, .bool b6, .bool b7, .bool b8, .bool b9] 23) = W1 := ⟨_, rfl⟩
  have hO1 : OptAt W1 w.heap.size ⟨d, l, t, g, b0, b1, b2, b3, b4, b5, b6, b7, b8, b9⟩ := by rw [← hW1]; exact OptAt.new_ w ⟨d, l, t, g, b0, b1, b2, b3, b4, b5, b6, b7, b8, b9⟩ 23
  have hb1 : Below w.heap.size w W1 := by rw [← hW1]; exact below_new _ _
  obtain ⟨w0, hW2⟩ : ∃ W2, W1.alloc (.cells #[.int .i64 d', .int .i64 l', .int .i64 t', .int .i64 g', .bool a0, .bool a1, .bool a2, .bool a3, .bool a4, .bool a5, .bool a6, .bool a7, .bool a8, .bool a9] 23) = W2 := ⟨_, rfl⟩
  have hA2 : OptAt w0 W1.heap.size ⟨d', l', t', g', a0, a1, a2, a3, a4, a5, a6, a7, a8, a9⟩ := by rw [← hW2]; exact OptAt.new_ W1 ⟨d', l', t', g', a0, a1, a2, a3, a4, a5, a6, a7, a8, a9⟩ 23
  have hb2 : Below W1.heap.size W1 w0 := by rw [← hW2]; exact below_new _ _
  have HO := Lib.hid (hO1.below hb2)
  have HA := Lib.hid hA2
  have HK := Lib.hid ((hK.below hb1).below hb2)
  have HB := Lib.hid (below_self hb1 hb2)
  have HE := Lib.hid hE
  have HY := Lib.hid hy
  have HZ := Lib.hid hz
  clear hK hO1 hb1 hb2 hA2 hE hy hz
  go_enter Tryd.func3, Tryd.ntmps3
  go_wp2_with fail
  clear hW1 hW2
  generalize W1.heap.size = c at *
  obtain ⟨b, hbe⟩ : ∃ b, w.heap.size = b := ⟨_, rfl⟩
  have HBE := Lib.hid hbe
  rw [hbe] at HO
  simp only [hbe]
  clear hbe
  have c0 : w0.cell? ⟨b, 0, none⟩ = some (.int .i64 d) := HO.out.1 0 _ rfl
  have c1 : w0.cell? ⟨b, 1, none⟩ = some (.int .i64 l) := HO.out.1 1 _ rfl
  have c2 : w0.cell? ⟨b, 2, none⟩ = some (.int .i64 t) := HO.out.1 2 _ rfl
  have c3 : w0.cell? ⟨b, 3, none⟩ = some (.int .i64 g) := HO.out.1 3 _ rfl
  have c4 : w0.cell? ⟨b, 4, none⟩ = some (.bool b0) := HO.out.1 4 _ rfl
  have c5 : w0.cell? ⟨b, 5, none⟩ = some (.bool b1) := HO.out.1 5 _ rfl
  have c6 : w0.cell? ⟨b, 6, none⟩ = some (.bool b2) := HO.out.1 6 _ rfl
  have c7 : w0.cell? ⟨b, 7, none⟩ = some (.bool b3) := HO.out.1 7 _ rfl
  have c8 : w0.cell? ⟨b, 8, none⟩ = some (.bool b4) := HO.out.1 8 _ rfl
  have c9 : w0.cell? ⟨b, 9, none⟩ = some (.bool b5) := HO.out.1 9 _ rfl
  have c10 : w0.cell? ⟨b, 10, none⟩ = some (.bool b6) := HO.out.1 10 _ rfl
  have c11 : w0.cell? ⟨b, 11, none⟩ = some (.bool b7) := HO.out.1 11 _ rfl
  have c12 : w0.cell? ⟨b, 12, none⟩ = some (.bool b8) := HO.out.1 12 _ rfl
  have c13 : w0.cell? ⟨b, 13, none⟩ = some (.bool b9) := HO.out.1 13 _ rfl
  have q0 : w0.cell? ⟨c, 0, none⟩ = some (.int .i64 d') := HA.out.1 0 _ rfl
  have q1 : w0.cell? ⟨c, 1, none⟩ = some (.int .i64 l') := HA.out.1 1 _ rfl
  have q2 : w0.cell? ⟨c, 2, none⟩ = some (.int .i64 t') := HA.out.1 2 _ rfl
  have q3 : w0.cell? ⟨c, 3, none⟩ = some (.int .i64 g') := HA.out.1 3 _ rfl
  have q4 : w0.cell? ⟨c, 4, none⟩ = some (.bool a0) := HA.out.1 4 _ rfl
  have q5 : w0.cell? ⟨c, 5, none⟩ = some (.bool a1) := HA.out.1 5 _ rfl
  have q6 : w0.cell? ⟨c, 6, none⟩ = some (.bool a2) := HA.out.1 6 _ rfl
  have q7 : w0.cell? ⟨c, 7, none⟩ = some (.bool a3) := HA.out.1 7 _ rfl
  have q8 : w0.cell? ⟨c, 8, none⟩ = some (.bool a4) := HA.out.1 8 _ rfl
  have q9 : w0.cell? ⟨c, 9, none⟩ = some (.bool a5) := HA.out.1 9 _ rfl
  have q10 : w0.cell? ⟨c, 10, none⟩ = some (.bool a6) := HA.out.1 10 _ rfl
  have q11 : w0.cell? ⟨c, 11, none⟩ = some (.bool a7) := HA.out.1 11 _ rfl
  have q12 : w0.cell? ⟨c, 12, none⟩ = some (.bool a8) := HA.out.1 12 _ rfl
  have q13 : w0.cell? ⟨c, 13, none⟩ = some (.bool a9) := HA.out.1 13 _ rfl
  go_region_held3 (fun w' => w'.cell? ⟨b, 0, none⟩ = some (.int .i64 d) ∧ w'.cell? ⟨b, 1, none⟩ = some (.int .i64 l) ∧ w'.cell? ⟨b, 2, none⟩ = some (.int .i64 t) ∧ w'.cell? ⟨b, 3, none⟩ = some (.int .i64 g) ∧ w'.cell? ⟨b, 4, none⟩ = some (.bool b0) ∧ w'.cell? ⟨b, 5, none⟩ = some (.bool b1) ∧ w'.cell? ⟨b, 6, none⟩ = some (.bool b2) ∧ w'.cell? ⟨b, 7, none⟩ = some (.bool b3) ∧ w'.cell? ⟨b, 8, none⟩ = some (.bool b4) ∧ w'.cell? ⟨b, 9, none⟩ = some (.bool b5) ∧ w'.cell? ⟨b, 10, none⟩ = some (.bool b6) ∧ w'.cell? ⟨b, 11, none⟩ = some (.bool b7) ∧ w'.cell? ⟨b, 12, none⟩ = some (.bool b8) ∧ w'.cell? ⟨b, 13, none⟩ = some (.bool b9) ∧ w'.cell? ⟨c, 0, none⟩ = some (.int .i64 d') ∧ w'.cell? ⟨c, 1, none⟩ = some (.int .i64 l') ∧ w'.cell? ⟨c, 2, none⟩ = some (.int .i64 t') ∧ w'.cell? ⟨c, 3, none⟩ = some (.int .i64 g') ∧ w'.cell? ⟨c, 4, none⟩ = some (.bool a0) ∧ w'.cell? ⟨c, 5, none⟩ = some (.bool a1) ∧ w'.cell? ⟨c, 6, none⟩ = some (.bool a2) ∧ w'.cell? ⟨c, 7, none⟩ = some (.bool a3) ∧ w'.cell? ⟨c, 8, none⟩ = some (.bool a4) ∧ w'.cell? ⟨c, 9, none⟩ = some (.bool a5) ∧ w'.cell? ⟨c, 10, none⟩ = some (.bool a6) ∧ w'.cell? ⟨c, 11, none⟩ = some (.bool a7) ∧ w'.cell? ⟨c, 12, none⟩ = some (.bool a8) ∧ w'.cell? ⟨c, 13, none⟩ = some (.bool a9) ∧ Below w0.heap.size w0 w')
    (first
      | exact ⟨c0, c1, c2, c3, c4, c5, c6, c7, c8, c9, c10, c11, c12, c13, q0, q1, q2, q3, q4, q5, q6, q7, q8, q9, q10, q11, q12, q13, (Below.refl _ _).drew⟩
      | exact s28_on (by assumption) h1
      | exact s28_on ⟨c0, c1, c2, c3, c4, c5, c6, c7, c8, c9, c10, c11, c12, c13, q0, q1, q2, q3, q4, q5, q6, q7, q8, q9, q10, q11, q12, q13, (Below.refl _ _).drew⟩ h1
      | fail)
    (first
      | (go_at_call 10; with_reducible refine (opCheck_any d l t g b0 b1 b2 b3 b4 b5 b6 b7 b8 b9 E HE.out _ (HK.out.below (by first | exact (by assumption : _ ∧ _ ∧ _ ∧ _ ∧ _ ∧ _ ∧ _ ∧ _ ∧ _ ∧ _ ∧ _ ∧ _ ∧ _ ∧ _ ∧ _ ∧ _ ∧ _ ∧ _ ∧ _ ∧ _ ∧ _ ∧ _ ∧ _ ∧ _ ∧ _ ∧ _ ∧ _ ∧ _ ∧ Below w0.heap.size w0 _).2.2.2.2.2.2.2.2.2.2.2.2.2.2.2.2.2.2.2.2.2.2.2.2.2.2.2.2 | exact (Below.refl _ _).drew))).mono ?_; rintro e w7 ⟨rfl, h1⟩)
      | (go_at_call 11; with_reducible refine (refCheckO_any d l t g b0 b1 b2 b3 b4 b5 b6 b7 b8 b9 E HE.out _).mono ?_; rintro e w7 ⟨rfl, h1⟩)
      | (go_at_call 12; with_reducible refine (opSame_any d l t g b0 b1 b2 b3 b4 b5 b6 b7 b8 b9 d' l' t' g' a0 a1 a2 a3 a4 a5 a6 a7 a8 a9 y HY.out _).mono ?_; rintro e w7 ⟨rfl, h1⟩)
      | (go_at_call 13; with_reducible refine (refSame_any d l t g b0 b1 b2 b3 b4 b5 b6 b7 b8 b9 d' l' t' g' a0 a1 a2 a3 a4 a5 a6 a7 a8 a9 y HY.out _).mono ?_; rintro e w7 ⟨rfl, h1⟩)
      | (go_at_call 12; with_reducible refine (opSame_any d l t g b0 b1 b2 b3 b4 b5 b6 b7 b8 b9 d l t g b0 b1 b2 b3 b4 b5 b6 b7 b8 b9 true HZ.out _).mono ?_; rintro e w7 ⟨rfl, h1⟩)
      | (go_at_call 14; with_reducible refine (awake10_any _ (HK.out.below (by first | exact (by assumption : _ ∧ _ ∧ _ ∧ _ ∧ _ ∧ _ ∧ _ ∧ _ ∧ _ ∧ _ ∧ _ ∧ _ ∧ _ ∧ _ ∧ _ ∧ _ ∧ _ ∧ _ ∧ _ ∧ _ ∧ _ ∧ _ ∧ _ ∧ _ ∧ _ ∧ _ ∧ _ ∧ _ ∧ Below w0.heap.size w0 _).2.2.2.2.2.2.2.2.2.2.2.2.2.2.2.2.2.2.2.2.2.2.2.2.2.2.2.2 | exact (Below.refl _ _).drew))).mono ?_; rintro e w7 ⟨rfl, h1⟩)
      | fail)
  go_wp2_with fail
  go_ret
  exact ⟨rfl, below_self HB.out (by assumption : _ ∧ _ ∧ _ ∧ _ ∧ _ ∧ _ ∧ _ ∧ _ ∧ _ ∧ _ ∧ _ ∧ _ ∧ _ ∧ _ ∧ _ ∧ _ ∧ _ ∧ _ ∧ _ ∧ _ ∧ _ ∧ _ ∧ _ ∧ _ ∧ _ ∧ _ ∧ _ ∧ _ ∧ Below w0.heap.size w0 _).2.2.2.2.2.2.2.2.2.2.2.2.2.2.2.2.2.2.2.2.2.2.2.2.2.2.2.2⟩
end Go.Proofs.YtcdogkabdhbjmaaDoor
