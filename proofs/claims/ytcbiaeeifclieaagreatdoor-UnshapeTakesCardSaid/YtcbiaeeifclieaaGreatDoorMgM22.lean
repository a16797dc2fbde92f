/- Texts of one claim, one behind the other. -/
import Derived.Deep.DeepCutAuto
import Derived.Test.YtcbiaeeifclieaaGreatDoorMgM4
/- The reference's Check of options. -/
namespace Go.Proofs.YtcbiaeeifclieaaGreatDoor
open Go.RowKit

set_option maxRecDepth 100000 in
set_option maxHeartbeats 8000000 in
theorem refCheckO_any (d l t g : Int) (b0 b1 b2 b3 b4 b5 b6 b7 b8 b9 : Bool) (E : Int) (hE : Opt.err ⟨d, l, t, g, b0, b1, b2, b3, b4, b5, b6, b7, b8, b9⟩ = E) (w : World) :
    Calls Tryz.prog 47 #[.agg #[.int .i64 d, .int .i64 l, .int .i64 t, .int .i64 g, .bool b0, .bool b1, .bool b2, .bool b3, .bool b4, .bool b5, .bool b6, .bool b7, .bool b8, .bool b9]] w fun e w' => e = .returned (.int .i64 E) ∧ Below w.heap.size w w' := by
  obtain ⟨i0, h0⟩ : ∃ i, decide (0 ≤ d ∧ d ≤ 3) = i := ⟨_, rfl⟩
  obtain ⟨i1, h1⟩ : ∃ i, decide (0 ≤ l ∧ l ≤ 4) = i := ⟨_, rfl⟩
  obtain ⟨i2, h2⟩ : ∃ i, decide (0 ≤ t ∧ t ≤ 4) = i := ⟨_, rfl⟩
  obtain ⟨i3, h3⟩ : ∃ i, decide (0 ≤ g ∧ g ≤ 4) = i := ⟨_, rfl⟩
  have HM := Lib.hid (show Opt.may ⟨d, l, t, g, b0, b1, b2, b3, b4, b5, b6, b7, b8, b9⟩ = (i0 && i1 && i2 && i3) by
    rw [← h0, ← h1, ← h2, ← h3]
    unfold Opt.may
    rw [Bool.eq_iff_iff]
    simp only [Bool.and_eq_true, decide_eq_true_eq]
    omega)
  have HE := Lib.hid hE
  have H0 := Lib.hid (fun w => refIn_y d 3 i0 h0 w)
  have H1 := Lib.hid (fun w => refIn_y l 4 i1 h1 w)
  have H2 := Lib.hid (fun w => refIn_y t 4 i2 h2 w)
  have H3 := Lib.hid (fun w => refIn_y g 4 i3 h3 w)
  clear h0 h1 h2 h3 hE
  have hb0 := below_new w (.cells #[.int .i64 d, .int .i64 l, .int .i64 t, .int .i64 g, .bool b0, .bool b1, .bool b2, .bool b3, .bool b4, .bool b5, .bool b6, .bool b7, .bool b8, .bool b9] 24)
  have hc : ∀ (j : Nat) (u : Value), [Value.int .i64 d, .int .i64 l, .int .i64 t, .int .i64 g, .bool b0, .bool b1, .bool b2, .bool b3, .bool b4, .bool b5, .bool b6, .bool b7, .bool b8, .bool b9][j]? = some u → (w.alloc (.cells #[.int .i64 d, .int .i64 l, .int .i64 t, .int .i64 g, .bool b0, .bool b1, .bool b2, .bool b3, .bool b4, .bool b5, .bool b6, .bool b7, .bool b8, .bool b9] 24)).cell? ⟨w.heap.size, j, none⟩ = some u := fun j u hu => by
    rw [World.cell?_alloc_at _ _ _ _ rfl]
    simpa using hu
  have c0 := hc 0 _ rfl
  have c1 := hc 1 _ rfl
  have c2 := hc 2 _ rfl
  have c3 := hc 3 _ rfl
  have c5 := hc 5 _ rfl
  have c6 := hc 6 _ rfl
  have c7 := hc 7 _ rfl
  have c8 := hc 8 _ rfl
  have c9 := hc 9 _ rfl
  have c10 := hc 10 _ rfl
  have c11 := hc 11 _ rfl
  have HB := Lib.hid hb0
  clear hc hb0
  go_enter Tryz.func47, Tryz.ntmps47
  go_upto_region 1 with fail
  generalize w.alloc (.cells #[.int .i64 d, .int .i64 l, .int .i64 t, .int .i64 g, .bool b0, .bool b1, .bool b2, .bool b3, .bool b4, .bool b5, .bool b6, .bool b7, .bool b8, .bool b9] 24) = W at *
  go_cut [26] from 5 to 26 (fun s26 wx => s26 = .bool (!(i0 && i1 && i2 && i3)) ∧ wx = W)
  case first =>
    cases i0 with
    | false =>
      go_wp2_with (first | (go_at_call 77; with_reducible refine (H0.out _).mono ?_; rintro e w9 ⟨rfl, rfl⟩) | (go_at_call 77; with_reducible refine (H1.out _).mono ?_; rintro e w9 ⟨rfl, rfl⟩) | (go_at_call 77; with_reducible refine (H2.out _).mono ?_; rintro e w9 ⟨rfl, rfl⟩) | (go_at_call 77; with_reducible refine (H3.out _).mono ?_; rintro e w9 ⟨rfl, rfl⟩) | fail)
      go_meet
      exact ⟨rfl, rfl⟩
    | true =>
      cases i1 with
      | false =>
        go_wp2_with (first | (go_at_call 77; with_reducible refine (H0.out _).mono ?_; rintro e w9 ⟨rfl, rfl⟩) | (go_at_call 77; with_reducible refine (H1.out _).mono ?_; rintro e w9 ⟨rfl, rfl⟩) | (go_at_call 77; with_reducible refine (H2.out _).mono ?_; rintro e w9 ⟨rfl, rfl⟩) | (go_at_call 77; with_reducible refine (H3.out _).mono ?_; rintro e w9 ⟨rfl, rfl⟩) | fail)
        go_meet
        exact ⟨rfl, rfl⟩
      | true =>
        cases i2 with
        | false =>
          go_wp2_with (first | (go_at_call 77; with_reducible refine (H0.out _).mono ?_; rintro e w9 ⟨rfl, rfl⟩) | (go_at_call 77; with_reducible refine (H1.out _).mono ?_; rintro e w9 ⟨rfl, rfl⟩) | (go_at_call 77; with_reducible refine (H2.out _).mono ?_; rintro e w9 ⟨rfl, rfl⟩) | (go_at_call 77; with_reducible refine (H3.out _).mono ?_; rintro e w9 ⟨rfl, rfl⟩) | fail)
          go_meet
          exact ⟨rfl, rfl⟩
        | true =>
          cases i3 with
          | false =>
            go_wp2_with (first | (go_at_call 77; with_reducible refine (H0.out _).mono ?_; rintro e w9 ⟨rfl, rfl⟩) | (go_at_call 77; with_reducible refine (H1.out _).mono ?_; rintro e w9 ⟨rfl, rfl⟩) | (go_at_call 77; with_reducible refine (H2.out _).mono ?_; rintro e w9 ⟨rfl, rfl⟩) | (go_at_call 77; with_reducible refine (H3.out _).mono ?_; rintro e w9 ⟨rfl, rfl⟩) | fail)
            go_meet
            exact ⟨rfl, rfl⟩
          | true =>
            go_wp2_with (first | (go_at_call 77; with_reducible refine (H0.out _).mono ?_; rintro e w9 ⟨rfl, rfl⟩) | (go_at_call 77; with_reducible refine (H1.out _).mono ?_; rintro e w9 ⟨rfl, rfl⟩) | (go_at_call 77; with_reducible refine (H2.out _).mono ?_; rintro e w9 ⟨rfl, rfl⟩) | (go_at_call 77; with_reducible refine (H3.out _).mono ?_; rintro e w9 ⟨rfl, rfl⟩) | fail)
            go_meet
            exact ⟨rfl, rfl⟩
  case rest =>
    obtain ⟨rfl, hwx⟩ := hcut
    obtain rfl := hwx.symm
    clear hwx
    clear H0 H1 H2 H3
    cases hm : (i0 && i1 && i2 && i3) with
    | false =>
      have HF := Lib.hid (show E = 1 by rw [← HE.out, Opt.err, HM.out, hm]; rfl)
      clear hm
      go_wp2_with fail
      go_ret
      exact ⟨by rw [HF.out]; rfl, HB.out⟩
    | true =>
      have HOD := Lib.hid (show E = if Opt.odd ⟨d, l, t, g, b0, b1, b2, b3, b4, b5, b6, b7, b8, b9⟩ = true then 3 else 0 by rw [← HE.out, Opt.err, HM.out, hm]; rfl)
      clear hm HE HM c0 c3
      go_upto_region 3 with fail
      go_cut [3] from 5 to 46 (fun s3 wx => s3 = .bool ((l != 0) || (t != 0) || b3 || b4 || b5) ∧ wx = W)
      case first =>
        clear c5 c6 c10 c11
        by_cases e1 : l = 0
        · have g1 : (l != 0) = false := by simp [e1]
          by_cases e2 : t = 0
          · have g2 : (t != 0) = false := by simp [e2]
            clear e1 e2
            cases b3 with
            | true =>
              go_wp2_with fail
              go_meet
              exact ⟨by simp [g1, g2], rfl⟩
            | false =>
              cases b4 with
              | true =>
                go_wp2_with fail
                go_meet
                exact ⟨by simp [g1, g2], rfl⟩
              | false =>
                go_wp2_with fail
                go_meet
                exact ⟨by simp [g1, g2], rfl⟩
          · have g2 : (t != 0) = true := by simp [e2]
            clear e1 e2
            go_wp2_with fail
            go_meet
            exact ⟨by simp [g1, g2], rfl⟩
        · have g1 : (l != 0) = true := by simp [e1]
          clear e1
          go_wp2_with fail
          go_meet
          exact ⟨by simp [g1], rfl⟩
      case rest =>
        obtain ⟨rfl, hwx⟩ := hcut
        obtain rfl := hwx.symm
        clear hwx
        obtain ⟨ltr, hltr⟩ : ∃ x, ((l != 0) || (t != 0) || b3 || b4 || b5) = x := ⟨_, rfl⟩
        rw [hltr]
        have HL := Lib.hid hltr
        clear hltr
        go_upto_region 4 with fail
        go_cut [4] from 5 to 54 (fun s4 wx => s4 = .bool ((t == 3) || (t == 4)) ∧ wx = W)
        case first =>
          clear c1 c5 c6 c7 c8 c9 c10 c11
          by_cases e1 : t = 3
          · have g1 : (t == 3) = true := by simp [e1]
            clear e1
            go_wp2_with fail
            go_meet
            exact ⟨by simp [g1], rfl⟩
          · have g1 : (t == 3) = false := by simp [e1]
            clear e1
            go_wp2_with fail
            go_meet
            exact ⟨by simp [g1], rfl⟩
        case rest =>
          obtain ⟨rfl, hwx⟩ := hcut
          obtain rfl := hwx.symm
          clear hwx
          obtain ⟨gone, hgone⟩ : ∃ x, ((t == 3) || (t == 4)) = x := ⟨_, rfl⟩
          rw [hgone]
          have HG := Lib.hid hgone
          clear hgone
          go_upto_region 5 with fail
          go_cut [85] from 5 to 85 (fun s85 wx => s85 = .bool ((ltr && !b1) || (b2 && (l == 0)) || (b3 && gone) || (b7 && !b6)) ∧ wx = W)
          case first =>
            clear c2 c8 c9
            obtain ⟨lz, hlz⟩ : ∃ x, (l == 0) = x := ⟨_, rfl⟩
            have HZ := Lib.hid hlz
            cases ltr with
            | false =>
              cases b2 with
              | false =>
                cases b3 with
                | false =>
                  cases b7 with
                  | false =>
                    go_wp2_with fail
                    go_meet
                    exact ⟨by first | rfl | simp [HZ.out], rfl⟩
                  | true =>
                    go_wp2_with fail
                    go_meet
                    exact ⟨by first | rfl | simp [HZ.out], rfl⟩
                | true =>
                  cases gone with
                  | true =>
                    go_wp2_with fail
                    go_meet
                    exact ⟨by first | rfl | simp [HZ.out], rfl⟩
                  | false =>
                    cases b7 with
                    | false =>
                      go_wp2_with fail
                      go_meet
                      exact ⟨by first | rfl | simp [HZ.out], rfl⟩
                    | true =>
                      go_wp2_with fail
                      go_meet
                      exact ⟨by first | rfl | simp [HZ.out], rfl⟩
              | true =>
                cases lz with
                | true =>
                  go_wp2_with fail
                  go_meet
                  exact ⟨by first | rfl | simp [HZ.out], rfl⟩
                | false =>
                  cases b3 with
                  | false =>
                    cases b7 with
                    | false =>
                      go_wp2_with fail
                      go_meet
                      exact ⟨by first | rfl | simp [HZ.out], rfl⟩
                    | true =>
                      go_wp2_with fail
                      go_meet
                      exact ⟨by first | rfl | simp [HZ.out], rfl⟩
                  | true =>
                    cases gone with
                    | true =>
                      go_wp2_with fail
                      go_meet
                      exact ⟨by first | rfl | simp [HZ.out], rfl⟩
                    | false =>
                      cases b7 with
                      | false =>
                        go_wp2_with fail
                        go_meet
                        exact ⟨by first | rfl | simp [HZ.out], rfl⟩
                      | true =>
                        go_wp2_with fail
                        go_meet
                        exact ⟨by first | rfl | simp [HZ.out], rfl⟩
            | true =>
              cases b1 with
              | false =>
                go_wp2_with fail
                go_meet
                exact ⟨by first | rfl | simp [HZ.out], rfl⟩
              | true =>
                cases b2 with
                | false =>
                  cases b3 with
                  | false =>
                    cases b7 with
                    | false =>
                      go_wp2_with fail
                      go_meet
                      exact ⟨by first | rfl | simp [HZ.out], rfl⟩
                    | true =>
                      go_wp2_with fail
                      go_meet
                      exact ⟨by first | rfl | simp [HZ.out], rfl⟩
                  | true =>
                    cases gone with
                    | true =>
                      go_wp2_with fail
                      go_meet
                      exact ⟨by first | rfl | simp [HZ.out], rfl⟩
                    | false =>
                      cases b7 with
                      | false =>
                        go_wp2_with fail
                        go_meet
                        exact ⟨by first | rfl | simp [HZ.out], rfl⟩
                      | true =>
                        go_wp2_with fail
                        go_meet
                        exact ⟨by first | rfl | simp [HZ.out], rfl⟩
                | true =>
                  cases lz with
                  | true =>
                    go_wp2_with fail
                    go_meet
                    exact ⟨by first | rfl | simp [HZ.out], rfl⟩
                  | false =>
                    cases b3 with
                    | false =>
                      cases b7 with
                      | false =>
                        go_wp2_with fail
                        go_meet
                        exact ⟨by first | rfl | simp [HZ.out], rfl⟩
                      | true =>
                        go_wp2_with fail
                        go_meet
                        exact ⟨by first | rfl | simp [HZ.out], rfl⟩
                    | true =>
                      cases gone with
                      | true =>
                        go_wp2_with fail
                        go_meet
                        exact ⟨by first | rfl | simp [HZ.out], rfl⟩
                      | false =>
                        cases b7 with
                        | false =>
                          go_wp2_with fail
                          go_meet
                          exact ⟨by first | rfl | simp [HZ.out], rfl⟩
                        | true =>
                          go_wp2_with fail
                          go_meet
                          exact ⟨by first | rfl | simp [HZ.out], rfl⟩
          case rest =>
            obtain ⟨rfl, hwx⟩ := hcut
            obtain rfl := hwx.symm
            clear hwx
            have HO := Lib.hid (odd_ref d l t g b0 b1 b2 b3 b4 b5 b6 b7 b8 b9 ltr gone HL.out HG.out)
            clear HL HG c1 c2 c5 c6 c7 c8 c9 c10 c11
            cases hq : ((ltr && !b1) || (b2 && (l == 0)) || (b3 && gone) || (b7 && !b6)) with
            | true =>
              have HF := Lib.hid (show E = 3 by rw [HOD.out, HO.out, hq]; rfl)
              clear hq HOD HO
              go_wp2_with fail
              go_ret
              exact ⟨by rw [HF.out]; rfl, HB.out⟩
            | false =>
              have HF := Lib.hid (show E = 0 by rw [HOD.out, HO.out, hq]; rfl)
              clear hq HOD HO
              go_wp2_with fail
              go_ret
              exact ⟨by rw [HF.out]; rfl, HB.out⟩
end Go.Proofs.YtcbiaeeifclieaaGreatDoor
