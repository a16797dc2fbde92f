/- Texts of one claim, one behind the other. -/
import Derived.Deep.RegionHeld3
import Derived.BigQuiet
import Derived.Test.YtcbiaeeifclieaaGreatDoorMgM5
/- The project's Check of options. -/
namespace Go.Proofs.YtcbiaeeifclieaaGreatDoor
open Go.RowKit

theorem near_same (m x : Int) (hm : 0 ≤ m) : (x == nrF m x) = decide (0 ≤ x ∧ x ≤ m) := by
  unfold nrF
  by_cases h0 : x < 0
  · rw [if_pos h0, if_neg (by omega)]
    have h1 : (x == 0) = false := by simp; omega
    rw [h1]
    exact (decide_eq_false (by omega)).symm
  · rw [if_neg h0]
    by_cases h1 : m < x
    · rw [if_pos h1]
      have h2 : (x == m) = false := by simp; omega
      rw [h2]
      exact (decide_eq_false (by omega)).symm
    · rw [if_neg h1]
      simp
      omega
set_option maxRecDepth 100000 in
theorem kindsEq (x0 x1 x2 x3 y0 y1 y2 y3 : Int) (w : World) : (Op.equalIn 10000 72 (.agg #[.int .i64 x0, .int .i64 x1, .int .i64 x2, .int .i64 x3]) (.agg #[.int .i64 y0, .int .i64 y1, .int .i64 y2, .int .i64 y3])).run Tryz.prog w = .ok ((x0 == y0) && (x1 == y1) && (x2 == y2) && (x3 == y3)) w := by
  have hi : Tryz.prog.info? 3 = some (Tryz.prog.info? 3 |>.getD default) := by kernel_rfl
  rw [show (10000 : Nat) = 9999 + 1 from rfl, equal_one (P := Tryz.prog) (Value.int .i64) 9999 4 (t := 72) (e := 3) Tryz.underlying72 hi (by kernel_rfl) (by kernel_rfl) (fun a b w => run_equalIn_int w 9998 _ _ _ a b Tryz.underlying3) _ _ (fun i => [x0, x1, x2, x3].getD i 0) (fun i => [y0, y1, y2, y3].getD i 0) (fun i h => by
    have : i = 0 ∨ i = 1 ∨ i = 2 ∨ i = 3 := by omega
    rcases this with rfl | rfl | rfl | rfl <;> exact ⟨rfl, rfl⟩) w]
  congr 1
  simp [List.range, List.range.loop, Bool.and_assoc]
theorem rdB2 (w : World) (o : Obj) (l : List Bool) (t : TypeId) : Rd ((w.alloc o).alloc (.cells (l.map Value.bool).toArray t)) 1 (some ⟨w.heap.size + 1, 0, none⟩) l.length (l.map Value.bool) := by
  have h := rdBools (w.alloc o) l t
  rwa [size_alloc] at h
theorem rdB3 (w : World) (o o' : Obj) (l : List Bool) (t : TypeId) : Rd (((w.alloc o).alloc o').alloc (.cells (l.map Value.bool).toArray t)) 1 (some ⟨w.heap.size + 1 + 1, 0, none⟩) l.length (l.map Value.bool) := by
  have h := rdBools ((w.alloc o).alloc o') l t
  rwa [size_alloc, size_alloc] at h
theorem rdB1k (w : World) (l : List Bool) (t : TypeId) (o : Obj) : Rd ((w.alloc (.cells (l.map Value.bool).toArray t)).alloc o) 1 (some ⟨w.heap.size, 0, none⟩) l.length (l.map Value.bool) := (rdBools w l t).alloc o
theorem s8_on {w0 X Y : World} {b : Nat} {t : Int} {b1 b2 b3 b4 b5 b6 b7 : Bool} (h : X.cell? ⟨b, 2, none⟩ = some (.int .i64 t) ∧ X.cell? ⟨b, 5, none⟩ = some (.bool b1) ∧ X.cell? ⟨b, 6, none⟩ = some (.bool b2) ∧ X.cell? ⟨b, 7, none⟩ = some (.bool b3) ∧ X.cell? ⟨b, 8, none⟩ = some (.bool b4) ∧ X.cell? ⟨b, 9, none⟩ = some (.bool b5) ∧ X.cell? ⟨b, 10, none⟩ = some (.bool b6) ∧ X.cell? ⟨b, 11, none⟩ = some (.bool b7) ∧ Below w0.heap.size w0 X) (hb : Below X.heap.size X Y) :
    Y.cell? ⟨b, 2, none⟩ = some (.int .i64 t) ∧ Y.cell? ⟨b, 5, none⟩ = some (.bool b1) ∧ Y.cell? ⟨b, 6, none⟩ = some (.bool b2) ∧ Y.cell? ⟨b, 7, none⟩ = some (.bool b3) ∧ Y.cell? ⟨b, 8, none⟩ = some (.bool b4) ∧ Y.cell? ⟨b, 9, none⟩ = some (.bool b5) ∧ Y.cell? ⟨b, 10, none⟩ = some (.bool b6) ∧ Y.cell? ⟨b, 11, none⟩ = some (.bool b7) ∧ Below w0.heap.size w0 Y :=
  ⟨cell_below hb h.1, cell_below hb h.2.1, cell_below hb h.2.2.1, cell_below hb h.2.2.2.1, cell_below hb h.2.2.2.2.1, cell_below hb h.2.2.2.2.2.1, cell_below hb h.2.2.2.2.2.2.1, cell_below hb h.2.2.2.2.2.2.2.1, below_self h.2.2.2.2.2.2.2.2 hb⟩
theorem odd_eq (d l t g : Int) (b0 b1 b2 b3 b4 b5 b6 b7 b8 b9 : Bool) (B : Nat) : Opt.odd ⟨d, l, t, g, b0, b1, b2, b3, b4, b5, b6, b7, b8, b9⟩ = oddP ⟨B, t, l != 0, t != 0, b1, b2, b3, b4, b5, b6, b7⟩ := by
  unfold Opt.odd oddP
  simp only
  have e1 : decide (l ≠ 0) = (l != 0) := by by_cases h : l = 0 <;> simp [h]
  have e2 : decide (t ≠ 0) = (t != 0) := by by_cases h : t = 0 <;> simp [h]
  have e3 : decide (l = 0) = !(l != 0) := by by_cases h : l = 0 <;> simp [h]
  have e4 : decide (t = 3) = (t == 3) := by by_cases h : t = 3 <;> simp [h]
  have e5 : decide (t = 4) = (t == 4) := by by_cases h : t = 4 <;> simp [h]
  rw [e1, e2, e3, e4, e5]
  generalize (l != 0) = x1
  generalize (t != 0) = x2
  generalize (t == 3) = x3
  generalize (t == 4) = x4
  revert x1 x2 x3 x4 b1 b2 b3 b4 b5 b6 b7
  decide
set_option maxRecDepth 100000 in
set_option maxHeartbeats 8000000 in
theorem opCheck_any (d l t g : Int) (b0 b1 b2 b3 b4 b5 b6 b7 b8 b9 : Bool) (E : Int) (hE : Opt.err ⟨d, l, t, g, b0, b1, b2, b3, b4, b5, b6, b7, b8, b9⟩ = E) (w : World) (hK : KindsAt w) :
    Calls Tryz.prog 13 #[.agg #[.int .i64 d, .int .i64 l, .int .i64 t, .int .i64 g, .bool b0, .bool b1, .bool b2, .bool b3, .bool b4, .bool b5, .bool b6, .bool b7, .bool b8, .bool b9]] w fun e w' => e = .returned (.int .i64 E) ∧ Below w.heap.size w w' := by
  have HE := Lib.hid hE
  have HK := Lib.hid hK
  have hb0 := below_new w (.cells #[.int .i64 d, .int .i64 l, .int .i64 t, .int .i64 g, .bool b0, .bool b1, .bool b2, .bool b3, .bool b4, .bool b5, .bool b6, .bool b7, .bool b8, .bool b9] 24)
  have hcel : ∀ (j : Nat) (u : Value), [Value.int .i64 d, .int .i64 l, .int .i64 t, .int .i64 g, .bool b0, .bool b1, .bool b2, .bool b3, .bool b4, .bool b5, .bool b6, .bool b7, .bool b8, .bool b9][j]? = some u → (w.alloc (.cells #[.int .i64 d, .int .i64 l, .int .i64 t, .int .i64 g, .bool b0, .bool b1, .bool b2, .bool b3, .bool b4, .bool b5, .bool b6, .bool b7, .bool b8, .bool b9] 24)).cell? ⟨w.heap.size, j, none⟩ = some u := fun j u hu => by
    rw [World.cell?_alloc_at _ _ _ _ rfl]
    simpa using hu
  clear hE hK
  go_enter Tryz.func13, Tryz.ntmps13
  go_wp2
  go_quiet (fail)
  have hbq := below_drewN hb0 nq
  have HKQ := Lib.hid (HK.out.below hbq)
  have hcq : ∀ (j : Nat) (u : Value), [Value.int .i64 d, .int .i64 l, .int .i64 t, .int .i64 g, .bool b0, .bool b1, .bool b2, .bool b3, .bool b4, .bool b5, .bool b6, .bool b7, .bool b8, .bool b9][j]? = some u → ((w.alloc (.cells #[.int .i64 d, .int .i64 l, .int .i64 t, .int .i64 g, .bool b0, .bool b1, .bool b2, .bool b3, .bool b4, .bool b5, .bool b6, .bool b7, .bool b8, .bool b9] 24)).drewN nq).cell? ⟨w.heap.size, j, none⟩ = some u := hcel
  clear hcel
  go_wp2_with fail
  generalize (w.alloc (.cells #[.int .i64 d, .int .i64 l, .int .i64 t, .int .i64 g, .bool b0, .bool b1, .bool b2, .bool b3, .bool b4, .bool b5, .bool b6, .bool b7, .bool b8, .bool b9] 24)).drewN nq = wq at *
  refine (opKinds_any d l t g b0 b1 b2 b3 b4 b5 b6 b7 b8 b9 wq).mono ?_
  rintro e w2 ⟨rfl, hb2⟩
  have hb3 := hbq.trans (hb2.mono hbq.size)
  have hb4 := hb3.alloc hb3.size (.cells #[.int .i64 d, .int .i64 l, .int .i64 t, .int .i64 g] 72)
  have HC := Lib.hid (fun (j : Nat) (u : Value) hu => cell_below (below_self hb2 (below_new w2 (.cells #[.int .i64 d, .int .i64 l, .int .i64 t, .int .i64 g] 72))) (hcq j u hu))
  obtain ⟨⟨k0, k1, k2, k3⟩, _⟩ := FourAt.new_ w2 d l t g 72
  have HK2 := Lib.hid (HKQ.out.below (below_self hb2 (below_new w2 (.cells #[.int .i64 d, .int .i64 l, .int .i64 t, .int .i64 g] 72))))
  clear hb0 hbq hb2 hb3 hcq HKQ
  go_wp2
  generalize w2.alloc (.cells #[.int .i64 d, .int .i64 l, .int .i64 t, .int .i64 g] 72) = w0 at *
  obtain ⟨bk, hbk⟩ : ∃ bk, w2.heap.size = bk := ⟨_, rfl⟩
  simp only [hbk] at k0 k1 k2 k3 ⊢
  have hq := kindsEq d l t g (nrF 3 d) (nrF 4 l) (nrF 4 t) (nrF 4 g)
  clear hbk
  go_region_held3 (fun w' => w'.cell? ⟨bk, 0, none⟩ = some (.int .i64 d) ∧ w'.cell? ⟨bk, 1, none⟩ = some (.int .i64 l) ∧ w'.cell? ⟨bk, 2, none⟩ = some (.int .i64 t) ∧ w'.cell? ⟨bk, 3, none⟩ = some (.int .i64 g) ∧ Below w0.heap.size w0 w')
    (first
      | exact ⟨k0, k1, k2, k3, (Below.refl _ _).drew⟩
      | exact ⟨cell_below h1 (by assumption : _ ∧ _ ∧ _ ∧ _ ∧ Below w0.heap.size w0 _).1, cell_below h1 (by assumption : _ ∧ _ ∧ _ ∧ _ ∧ Below w0.heap.size w0 _).2.1, cell_below h1 (by assumption : _ ∧ _ ∧ _ ∧ _ ∧ Below w0.heap.size w0 _).2.2.1, cell_below h1 (by assumption : _ ∧ _ ∧ _ ∧ _ ∧ Below w0.heap.size w0 _).2.2.2.1, below_self (by assumption : _ ∧ _ ∧ _ ∧ _ ∧ Below w0.heap.size w0 _).2.2.2.2 h1⟩
      | exact ⟨cell_below h1 k0, cell_below h1 k1, cell_below h1 k2, cell_below h1 k3, below_self (Below.refl _ _).drew h1⟩)
    (first
      | (go_at_call 29; with_reducible refine (opNearest_any d l t g _ (HK2.out.below (by first | exact (Below.refl _ _).drew | exact (by assumption : _ ∧ _ ∧ _ ∧ _ ∧ Below w0.heap.size w0 _).2.2.2.2))).mono ?_; rintro e w3 ⟨rfl, h1⟩)
      | fail)
  have hb5 := below_self hb4 ((by assumption : _ ∧ _ ∧ _ ∧ _ ∧ Below w0.heap.size w0 _).2.2.2.2)
  have HB := Lib.hid hb5
  have hin := (by assumption : _ ∧ _ ∧ _ ∧ _ ∧ Below w0.heap.size w0 _).2.2.2.2
  obtain ⟨m, hm⟩ : ∃ m, Opt.may ⟨d, l, t, g, b0, b1, b2, b3, b4, b5, b6, b7, b8, b9⟩ = m := ⟨_, rfl⟩
  have hmm : (!(d == nrF 3 d) || !(l == nrF 4 l) || !(t == nrF 4 t) || !(g == nrF 4 g)) = !m := by
    rw [← hm, near_same 3 d (by omega), near_same 4 l (by omega), near_same 4 t (by omega), near_same 4 g (by omega)]
    unfold Opt.may
    simp only
    rw [Bool.eq_iff_iff]
    simp only [Bool.or_eq_true, Bool.not_eq_true', decide_eq_false_iff_not]
    omega
  simp only [hmm]
  have HM := Lib.hid hm
  have c2 := cell_below hin (HC.out 2 _ rfl)
  have c5 := cell_below hin (HC.out 5 _ rfl)
  have c6 := cell_below hin (HC.out 6 _ rfl)
  have c7 := cell_below hin (HC.out 7 _ rfl)
  have c8 := cell_below hin (HC.out 8 _ rfl)
  have c9 := cell_below hin (HC.out 9 _ rfl)
  have c10 := cell_below hin (HC.out 10 _ rfl)
  have c11 := cell_below hin (HC.out 11 _ rfl)
  clear hm hmm hq hin hb4 hb5 k0 k1 k2 k3 h1
  cases m with
  | false =>
    have HF := Lib.hid (show E = 1 by rw [← HE.out, Opt.err, HM.out]; rfl)
    go_wp2
    go_ret
    exact ⟨by rw [HF.out]; rfl, HB.out⟩
  | true =>
    have HOD := Lib.hid (show E = if Opt.odd ⟨d, l, t, g, b0, b1, b2, b3, b4, b5, b6, b7, b8, b9⟩ = true then 3 else 0 by rw [← HE.out, Opt.err, HM.out]; rfl)
    clear HE HM HC HK2 HK
    go_wp2
    refine check_region (p := ⟨w.heap.size, t, l != 0, t != 0, b1, b2, b3, b4, b5, b6, b7⟩) (w0 := w3) (by rfl) (by kernel_rfl) (by kernel_rfl) (by kernel_rfl) ?hH ?_
    case hH => exact ⟨rfl, rfl, rfl, rfl, rfl, c2, c5, c6, c7, c8, c9, c10, c11, (Below.refl _ _).drew⟩
    intro a' w' hA e
    obtain ⟨tm, df⟩ := a'
    have hdf := hA.defers
    have hsz := hA.size
    have hbf := below_self HB.out hA.below
    simp only at hdf hsz e
    subst hdf
    obtain ⟨u0, u1, u2, u3, u4, u5, u6, u7, u8, u9, u10, u11, u12, u13, u14, u15, u16, u17, u18, u19, u20, u21, u22, u23, u24, u25, u26, u27, u28, u29, u30, u31, u32, u33, u34, u35, u36, u37, u38, u39, u40, u41, u42, u43, u44, u45, u46, u47, u48, u49, u50, u51, u52, u53, u54, u55, u56, u57, u58, u59, u60, u61, rfl⟩ := arr62 tm hsz
    clear hsz hA c2 c5 c6 c7 c8 c9 c10 c11
    cases ho : oddP ⟨w.heap.size, t, l != 0, t != 0, b1, b2, b3, b4, b5, b6, b7⟩ with
    | true =>
      rw [ho] at e
      have HF := Lib.hid (show E = 3 by rw [HOD.out, if_pos]; rw [← ho]; exact odd_eq ..)
      clear ho HOD
      obtain rfl := Option.some.inj e
      clear e
      go_wp2
      go_ret
      exact ⟨by rw [HF.out]; rfl, hbf⟩
    | false =>
      rw [ho] at e
      have HF := Lib.hid (show E = 0 by rw [HOD.out, if_neg]; rw [odd_eq, ho]; decide)
      clear ho HOD
      obtain rfl := Option.some.inj e
      clear e
      go_wp2
      go_ret
      exact ⟨by rw [HF.out]; rfl, hbf⟩
end Go.Proofs.YtcbiaeeifclieaaGreatDoor
