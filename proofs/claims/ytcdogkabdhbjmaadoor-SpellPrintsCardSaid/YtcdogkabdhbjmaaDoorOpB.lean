/- Options as a number: the project's Bits. -/
import Derived.Test.YtcdogkabdhbjmaaDoorOpF
import Derived.Test.YtcdogkabdhbjmaaDoorOpP2
namespace Go.Proofs.YtcdogkabdhbjmaaDoor
open Go.RowKit

theorem s14_on {w0 X Y : World} {b : Nat} {d l t g : Int} {b0 b1 b2 b3 b4 b5 b6 b7 b8 b9 : Bool} (h : X.cell? ⟨b, 0, none⟩ = some (.int .i64 d) ∧ X.cell? ⟨b, 1, none⟩ = some (.int .i64 l) ∧ X.cell? ⟨b, 2, none⟩ = some (.int .i64 t) ∧ X.cell? ⟨b, 3, none⟩ = some (.int .i64 g) ∧ X.cell? ⟨b, 4, none⟩ = some (.bool b0) ∧ X.cell? ⟨b, 5, none⟩ = some (.bool b1) ∧ X.cell? ⟨b, 6, none⟩ = some (.bool b2) ∧ X.cell? ⟨b, 7, none⟩ = some (.bool b3) ∧ X.cell? ⟨b, 8, none⟩ = some (.bool b4) ∧ X.cell? ⟨b, 9, none⟩ = some (.bool b5) ∧ X.cell? ⟨b, 10, none⟩ = some (.bool b6) ∧ X.cell? ⟨b, 11, none⟩ = some (.bool b7) ∧ X.cell? ⟨b, 12, none⟩ = some (.bool b8) ∧ X.cell? ⟨b, 13, none⟩ = some (.bool b9) ∧ Below w0.heap.size w0 X) (hb : Below X.heap.size X Y) : Y.cell? ⟨b, 0, none⟩ = some (.int .i64 d) ∧ Y.cell? ⟨b, 1, none⟩ = some (.int .i64 l) ∧ Y.cell? ⟨b, 2, none⟩ = some (.int .i64 t) ∧ Y.cell? ⟨b, 3, none⟩ = some (.int .i64 g) ∧ Y.cell? ⟨b, 4, none⟩ = some (.bool b0) ∧ Y.cell? ⟨b, 5, none⟩ = some (.bool b1) ∧ Y.cell? ⟨b, 6, none⟩ = some (.bool b2) ∧ Y.cell? ⟨b, 7, none⟩ = some (.bool b3) ∧ Y.cell? ⟨b, 8, none⟩ = some (.bool b4) ∧ Y.cell? ⟨b, 9, none⟩ = some (.bool b5) ∧ Y.cell? ⟨b, 10, none⟩ = some (.bool b6) ∧ Y.cell? ⟨b, 11, none⟩ = some (.bool b7) ∧ Y.cell? ⟨b, 12, none⟩ = some (.bool b8) ∧ Y.cell? ⟨b, 13, none⟩ = some (.bool b9) ∧ Below w0.heap.size w0 Y :=
  ⟨cell_below hb h.1, cell_below hb h.2.1, cell_below hb h.2.2.1, cell_below hb h.2.2.2.1, cell_below hb h.2.2.2.2.1, cell_below hb h.2.2.2.2.2.1, cell_below hb h.2.2.2.2.2.2.1, cell_below hb h.2.2.2.2.2.2.2.1, cell_below hb h.2.2.2.2.2.2.2.2.1, cell_below hb h.2.2.2.2.2.2.2.2.2.1, cell_below hb h.2.2.2.2.2.2.2.2.2.2.1, cell_below hb h.2.2.2.2.2.2.2.2.2.2.2.1, cell_below hb h.2.2.2.2.2.2.2.2.2.2.2.2.1, cell_below hb h.2.2.2.2.2.2.2.2.2.2.2.2.2.1, below_self h.2.2.2.2.2.2.2.2.2.2.2.2.2.2 hb⟩
theorem may_of_err {o : Opt} (h : o.err = 0) : 0 ≤ o.d ∧ o.d ≤ 3 ∧ 0 ≤ o.l ∧ o.l ≤ 4 ∧ 0 ≤ o.t ∧ o.t ≤ 4 ∧ 0 ≤ o.g ∧ o.g ≤ 4 := by
  have := Opt.err_zero h
  unfold Opt.may at this
  simpa using this
set_option maxRecDepth 100000 in
set_option maxHeartbeats 8000000 in
theorem opBitsOf_any (d l t g : Int) (b0 b1 b2 b3 b4 b5 b6 b7 b8 b9 : Bool) (N E : Int) (hb : Opt.bits ⟨d, l, t, g, b0, b1, b2, b3, b4, b5, b6, b7, b8, b9⟩ = (N, E)) (w : World) (hK : KindsAt w) :
    Calls Tryd.prog 15 #[.agg #[.int .i64 d, .int .i64 l, .int .i64 t, .int .i64 g, .bool b0, .bool b1, .bool b2, .bool b3, .bool b4, .bool b5, .bool b6, .bool b7, .bool b8, .bool b9]] w fun e w' => e = .returned (.tuple #[.int .i64 N, .int .i64 E]) ∧ Below w.heap.size w w' := by
  obtain ⟨R, hR⟩ : ∃ R, Opt.err ⟨d, l, t, g, b0, b1, b2, b3, b4, b5, b6, b7, b8, b9⟩ = R := ⟨_, rfl⟩
  have HK := Lib.hid hK
  have hb0 := below_new w (.cells (Opt.cells ⟨d, l, t, g, b0, b1, b2, b3, b4, b5, b6, b7, b8, b9⟩) 23)
  have HO := Lib.hid (OptAt.new_ w ⟨d, l, t, g, b0, b1, b2, b3, b4, b5, b6, b7, b8, b9⟩ 23)
  have HCK := Lib.hid (opCheck_any d l t g b0 b1 b2 b3 b4 b5 b6 b7 b8 b9 R hR _ (hK.below hb0))
  have HB0 := Lib.hid hb0
  have HR := Lib.hid hR
  have HBB := Lib.hid hb
  clear hK hb0 hR hb
  go_enter Tryd.func15, Tryd.ntmps15
  go_wp2_with fail
  refine HCK.out.mono ?_
  rintro e w3 ⟨rfl, hb3⟩
  have HO3 := Lib.hid (HO.out.below hb3)
  have hb4 := below_self HB0.out hb3
  have HK3 := Lib.hid (HK.out.below hb4)
  have HB4 := Lib.hid hb4
  clear HCK hb3 hb4 HO HB0
  by_cases h0 : R = 0
  · have hmay := may_of_err (HR.out.trans h0)
    simp only at hmay
    have HMAY := Lib.hid hmay
    obtain ⟨d0, d1, l0, l1, t0, t1, g0, g1⟩ := hmay
    obtain ⟨F, hF⟩ : ∃ F : Nat, Opt.fl ⟨d, l, t, g, b0, b1, b2, b3, b4, b5, b6, b7, b8, b9⟩ = F := ⟨_, rfl⟩
    have hF9 : F < 1024 := by rw [← hF]; exact Opt.fl_lt _
    have hN : N = d + 4 * l + 20 * t + 100 * g + 500 * (F : Int) ∧ E = 0 := by
      have := HBB.out
      unfold Opt.bits at this
      rw [if_pos (HR.out.trans h0)] at this
      injection this with e1 e2
      refine ⟨?_, e2.symm⟩
      rw [← e1, ← hF]
      rfl
    obtain ⟨hN1, rfl⟩ := hN
    have HN := Lib.hid hN1
    have HF := Lib.hid (opBits_any ⟨d, l, t, g, b0, b1, b2, b3, b4, b5, b6, b7, b8, b9⟩)
    simp only [hF] at HF
    subst h0
    have c : ∀ (j : Nat) (u : Value), (Opt.cells ⟨d, l, t, g, b0, b1, b2, b3, b4, b5, b6, b7, b8, b9⟩)[j]? = some u → w3.cell? ⟨w.heap.size, j, none⟩ = some u := HO3.out.1
    have c0 := c 0 _ rfl
    have c1 := c 1 _ rfl
    have c2 := c 2 _ rfl
    have c3 := c 3 _ rfl
    have c4 := c 4 _ rfl
    have c5 := c 5 _ rfl
    have c6 := c 6 _ rfl
    have c7 := c 7 _ rfl
    have c8 := c 8 _ rfl
    have c9 := c 9 _ rfl
    have c10 := c 10 _ rfl
    have c11 := c 11 _ rfl
    have c12 := c 12 _ rfl
    have c13 := c 13 _ rfl
    clear c hN1 hF HBB HR HO3
    go_wp2
    go_region_held3 (fun w' => w'.cell? ⟨w.heap.size, 0, none⟩ = some (.int .i64 d) ∧ w'.cell? ⟨w.heap.size, 1, none⟩ = some (.int .i64 l) ∧ w'.cell? ⟨w.heap.size, 2, none⟩ = some (.int .i64 t) ∧ w'.cell? ⟨w.heap.size, 3, none⟩ = some (.int .i64 g) ∧ w'.cell? ⟨w.heap.size, 4, none⟩ = some (.bool b0) ∧ w'.cell? ⟨w.heap.size, 5, none⟩ = some (.bool b1) ∧ w'.cell? ⟨w.heap.size, 6, none⟩ = some (.bool b2) ∧ w'.cell? ⟨w.heap.size, 7, none⟩ = some (.bool b3) ∧ w'.cell? ⟨w.heap.size, 8, none⟩ = some (.bool b4) ∧ w'.cell? ⟨w.heap.size, 9, none⟩ = some (.bool b5) ∧ w'.cell? ⟨w.heap.size, 10, none⟩ = some (.bool b6) ∧ w'.cell? ⟨w.heap.size, 11, none⟩ = some (.bool b7) ∧ w'.cell? ⟨w.heap.size, 12, none⟩ = some (.bool b8) ∧ w'.cell? ⟨w.heap.size, 13, none⟩ = some (.bool b9) ∧ Below w3.heap.size w3 w')
      (first
        | exact ⟨c0, c1, c2, c3, c4, c5, c6, c7, c8, c9, c10, c11, c12, c13, (Below.refl _ _).drew⟩
        | exact s14_on (by assumption) h1
        | exact s14_on ⟨c0, c1, c2, c3, c4, c5, c6, c7, c8, c9, c10, c11, c12, c13, (Below.refl _ _).drew⟩ h1
        | fail)
      (first
        | (go_at_call 29; with_reducible refine (opKinds_any d l t g b0 b1 b2 b3 b4 b5 b6 b7 b8 b9 _).mono ?_; rintro e w7 ⟨rfl, h1⟩)
        | (go_at_call 33; with_reducible refine (opNumber_any d l t g HMAY.out _ (HK3.out.below (by first | exact (by assumption : _ ∧ _ ∧ _ ∧ _ ∧ _ ∧ _ ∧ _ ∧ _ ∧ _ ∧ _ ∧ _ ∧ _ ∧ _ ∧ _ ∧ Below w3.heap.size w3 _).2.2.2.2.2.2.2.2.2.2.2.2.2.2 | exact (Below.refl _ _).drew))).mono ?_; rintro e w7 ⟨rfl, h1⟩)
        | (go_at_call 34; with_reducible refine (HF.out _).mono ?_; rintro e w7 ⟨rfl, h1⟩)
        | fail)
    all_goals (
      have hfin := (by assumption : _ ∧ _ ∧ _ ∧ _ ∧ _ ∧ _ ∧ _ ∧ _ ∧ _ ∧ _ ∧ _ ∧ _ ∧ _ ∧ _ ∧ Below w3.heap.size w3 _).2.2.2.2.2.2.2.2.2.2.2.2.2.2
      have hbf := below_self HB4.out hfin
      have hw1 : IntKind.i64.wrap (500 * (F : Int)) = 500 * (F : Int) := by rw [IntKind.wrap_i64]; omega
      have hw2 : IntKind.i64.wrap N = N := by rw [HN.out, IntKind.wrap_i64]; omega
      simp only [hw1, ← HN.out, hw2]
      clear hw1 hw2
      go_wp2
      go_ret2
      exact ⟨rfl, hbf⟩)
  · have g1 : (R != 0) = true := by simp [h0]
    have hN : N = 0 ∧ E = R := by
      have := HBB.out
      unfold Opt.bits at this
      rw [if_neg (fun e => h0 (HR.out.symm.trans e)), HR.out] at this
      injection this with e1 e2
      exact ⟨e1.symm, e2.symm⟩
    obtain ⟨rfl, rfl⟩ := hN
    clear h0
    go_wp2
    go_ret2
    exact ⟨rfl, HB4.out⟩
end Go.Proofs.YtcdogkabdhbjmaaDoor
