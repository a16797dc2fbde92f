/- Texts of one claim, one behind the other. -/
import Derived.Deep.CutBlock
import Derived.Deep.DeepCutAuto
import Derived.Deep.LoopGhost
import Derived.Test.YtcbiaeeifclieaaMgCL3
import Derived.Test.YtcbiaeeifclieaaMgCL8
import Derived.Test.YtcbiaeeifclieaaMgCL26
import Derived.Test.YtcbiaeeifclieaaMgCL27
/- naskhlaw12.CellsLive, walked. -/
namespace Go.Proofs.Ytcbiaeeifclieaa
open Go.RowKit

set_option maxRecDepth 100000 in
set_option maxHeartbeats 4000000 in
theorem cellsLive_in (N : Nat) (hN40 : N ≤ 40) (A : Option Addr) (q c : Nat) (l : List DoK) (w0 : World) (hr : Rd w0 5 A q (l.flatMap encK)) (hl : l.length = q) (hg : ∀ k ∈ l, GoodK w0 k) (hq : q ≤ maxLen) :
    Calls Try.prog 3 #[.int .i64 (N : Int), .slice A q c] w0 fun e w' => e = .returned (.bool true) ∧ Below w0.heap.size w0 w' := by
  have HR := Lib.hid hr
  have HG := Lib.hid hg
  have HL := Lib.hid hl
  unfold maxLen at hq
  clear hr hg hl
  go_enter Try.func3, Try.ntmps3
  go_wp2_with fail
  refine (new_any (N : Int) w0).mono ?_
  rintro e w1 ⟨hans, hb1⟩
  rcases hans with ⟨h, _⟩ | ⟨N', b, gc, base, hNe, _, rfl, hC, hbf, hgf⟩
  · omega
  obtain rfl : N' = N := by omega
  clear hNe
  have HB1 := Lib.hid hb1
  have HC1 := Lib.hid (And.intro hC (And.intro hbf hgf))
  clear hb1 hC hbf hgf
  go_wp2_with fail
  refine (rcNew_any N' (by omega) w1).mono ?_
  rintro e w2 ⟨⟨bs2, bR, gl, rfl, hQ, h3, h4⟩, hb2⟩
  have HM0 : Hid (LS w0 w2 b gc N' bR gl 0 [] id id) := Lib.hid (ls_new HB1.out HC1.out.1 HC1.out.2.1 HC1.out.2.2 hb2 hQ h3 h4)
  clear hQ h3 h4 hb2 HB1 HC1
  go_upto_block 0 with fail
  go_cut [9, 10] from 42 to 86 (fun v9 v10 wx => ∃ k, k ≤ 40 ∧ LS w0 wx b gc N' bR gl k [] id id)
  case first =>
    go_wp2_with fail
    go_loopw [44] (fun i ws => ∃ k : Nat, k ≤ q ∧ k ≤ 40 ∧ i = .int .i64 (k : Int) ∧ LS w0 ws b gc N' bR gl k [] id id) (fun i _ => q - (intOf i).toNat)
    case atStart => exact ⟨0, Nat.zero_le _, by omega, rfl, HM0.out⟩
    case round =>
      obtain ⟨k, hkq, hk40, rfl, hM⟩ := hrel
      have HM := Lib.hid hM
      clear hM HM0
      by_cases hlt : k < q
      · obtain ⟨s, hs⟩ : ∃ s, l[k]? = some s := ⟨_, List.getElem?_eq_getElem (by rw [HL.out]; exact hlt)⟩
        obtain ⟨ad, rfl, hab, d0, d1, d2, d3, d4⟩ := (HR.out.below HM.out.low).dos HL.out hs
        have HGS := Lib.hid (HG.out s (List.mem_of_getElem? hs))
        clear hs
        obtain ⟨op, at_, B, sn, sc, sl, s1, s2⟩ := s
        simp only at d0 d1 d2 d3 d4
        have hbn := below_new wr (.cells #[.int .i64 op, .int .i64 at_, .slice B sn sc, .int .i64 s1, .int .i64 s2] 35)
        have hbx := heap_alloc_new wr (.cells #[.int .i64 op, .int .i64 at_, .slice B sn sc, .int .i64 s1, .int .i64 s2] 35)
        have HM1 := Lib.hid (HM.out.add hbn (G := [wr.heap.size]) (by simp))
        obtain ⟨W1, hW1⟩ : ∃ W1, wr.alloc (.cells #[.int .i64 op, .int .i64 at_, .slice B sn sc, .int .i64 s1, .int .i64 s2] 35) = W1 := ⟨_, rfl⟩
        rw [hW1] at hbn hbx HM1
        obtain ⟨bo, hbo⟩ : ∃ bo, wr.heap.size = bo := ⟨_, rfl⟩
        rw [hbo] at hbx HM1
        obtain ⟨e0, e1, e2, e3, e4⟩ := box5 hbx
        have HBX := Lib.hid hbx
        have HRD := Lib.hid HGS.out.2.2.1
        clear hbn hbx
        by_cases hk : k < 40
        · by_cases hs4 : sn ≤ 4
          · have HDO := Lib.hid (fun W (hb : Below W1.heap.size W1 W) => do_any op at_ s1 s2 B sn sc b gc N' bR gl k sl [bo] w0 W (HM1.out.lower hb).1 (by omega) (by omega) HRD.out hs4)
            clear HGS HG HR
            go_upto_region 11 with fail
            go_region_law (first
              | (go_simp; go_at_call 11; refine (HDO.out _ (by first | exact Below.refl _ _ | exact (Below.refl _ _).drew)).mono ?_; rintro e W2 ⟨rfl, hLS2, hSF2⟩; have hx2 := (hSF2 bo (List.mem_singleton_self _)).trans HBX.out; obtain ⟨y0, y1, y2, y3, y4⟩ := box5 hx2; have HLS2 := Lib.hid hLS2; obtain ⟨T, U, htl, hul, HSP', HSR', HAP', HAR'⟩ := facts_of hLS2 (by omega) (by omega) at_; have HSP := Lib.hid HSP'; have HSR := Lib.hid HSR'; have HAP := Lib.hid HAP'; have HAR := Lib.hid HAR'; clear HSP' HSR' HAP' HAR' hSF2 hLS2)
              | (go_simp; go_at_call 13; refine (HSP.out _ (Below.refl _ _)).mono ?_; rintro e W3 ⟨⟨A3, k3, rfl, hr3⟩, hz3⟩; have u0 := cell_below hz3 y0; have u1 := cell_below hz3 y1)
              | (go_simp; go_at_call 14; refine (HSR.out _ hz3).mono ?_; rintro e W4 ⟨⟨A4, k4, rfl, hr4⟩, hb4⟩; have hz4 := below_self hz3 hb4; have hr3' := hr3.below hb4; have t0 := cell_below hz4 y0; have t1 := cell_below hz4 y1)
              | (go_simp; go_at_call 12; refine (equalInt_b A3 A4 T.length T.length k3 k4 T T W4 hr3' hr4 (by unfold maxLen; omega) (by unfold maxLen; omega)).mono ?_; rintro e W5 ⟨rfl, hb5⟩; rw [decide_eq_true rfl]; have hz5 := below_self hz4 hb5; have p0 := cell_below hz5 y0; have p1 := cell_below hz5 y1; clear hr3' hr4)
              | (go_simp; go_at_call 15; refine (HAP.out _ hz5).mono ?_; rintro e W6 ⟨⟨A6, k6, rfl, hr6⟩, hb6⟩; have hz6 := below_self hz5 hb6; have q0 := cell_below hz6 y0; have q1 := cell_below hz6 y1)
              | (go_simp; go_at_call 16; refine (HAR.out _ hz6).mono ?_; rintro e W7 ⟨⟨A7, k7, rfl, hr7⟩, hb7⟩; have hz7 := below_self hz6 hb7; have hr6' := hr6.below hb7; have r0 := cell_below hz7 y0; have r1 := cell_below hz7 y1)
              | (go_simp; go_at_call 12; refine (equalInt_b A6 A7 U.length U.length k6 k7 U U W7 hr6' hr7 (by unfold maxLen; omega) (by unfold maxLen; omega)).mono ?_; rintro e W8 ⟨rfl, hb8⟩; rw [decide_eq_true rfl]; have hz8 := below_self hz7 hb8)
              | fail)
            all_goals (have HLS8 := Lib.hid ((HLS2.out.lower hz8).1.sub (G := []) (by simp)))
            all_goals clear hz3 hz4 hz5 hz6 hz7 hz8 hb4 hb5 hb6 hb7 hb8
            all_goals go_wp2_with fail
            all_goals go_roundw
            all_goals first
              | exact ⟨k + 1, by omega, by omega, by go_num, HLS8.out⟩
              | (simp [intOf]; omega)
          · go_wp2_with fail
            go_meet
            case rel => exact ⟨k, hk40, HM1.out.sub (by simp)⟩
        · go_wp2_with fail
          go_meet
          case rel => exact ⟨k, hk40, HM1.out.sub (by simp)⟩
      · obtain rfl : k = q := by omega
        go_wp2_with fail
        go_meet
        case rel => exact ⟨k, hk40, HM.out⟩
  case rest =>
    obtain ⟨k, hk40, hM⟩ := hcut
    have HLOW := Lib.hid hM.low
    obtain ⟨base', bs3, R, va, ah, Q, L, J, Js, hS, g1, g2, g3, g4, g5, g6⟩ := hM.ex
    have hsm : ah.length + lenR R ≤ 100000 := by omega
    have hjl : Js.length ≤ 100000 := by simp only [id] at g5; omega
    simp only [id] at g1 g2
    rcases Nat.eq_zero_or_pos N' with rfl | hN0
    · have HP := Lib.hid (noCells_z hS.p)
      have HQ := Lib.hid (fun W (hb : Below wc.heap.size wc W) => cl_r0 (hS.q.low hb) (own_below hS.j hb) g1 hjl hsm)
      clear hS g1 g2 g3 g4 g5 g6 hM HM0 HR HG HL
      go_wp2_with fail
      refine (clusters_none _ wc HP.out).mono ?_
      rintro e w3 ⟨rfl, h3⟩
      have H3 := Lib.hid h3
      clear h3
      go_wp2_with fail
      refine (HQ.out w3 H3.out).mono ?_
      rintro e w4 ⟨rfl, h4⟩
      have H4 := Lib.hid (below_self H3.out h4)
      clear h4
      go_wp2_with fail
      refine (equalC_b none none 0 0 0 0 [] [] w4 Rd.nil_ Rd.nil_ (by unfold maxLen; omega) (by unfold maxLen; omega)).mono ?_
      rintro e w5 ⟨rfl, h5⟩
      rw [show decide (([] : List Cl) = []) = true from decide_eq_true rfl]
      have H5 := Lib.hid (below_self H4.out h5)
      clear h5
      go_wp2_with fail
      refine (awake12_any w5).mono ?_
      rintro e w6 ⟨rfl, h6⟩
      have H6 := Lib.hid (HLOW.out.trans ((below_self H5.out h6).mono HLOW.out.size))
      clear h6
      go_wp2_with fail
      go_ret
      exact ⟨rfl, H6.out⟩
    · have HP := Lib.hid (clusters_cells base' b gc N' R va ah wc hS.p hN0 (by omega) (by omega))
      have HQ := Lib.hid (fun W (hb : Below wc.heap.size wc W) l' hok => cl_r (hS.q.low hb) (own_below hS.j hb) g1 g2 hS.p.len hN0 (by omega) hjl hsm l' hok)
      clear hS g1 g2 g3 g4 g5 g6 hM HM0 HR HG HL
      go_wp2_with fail
      refine HP.out.mono ?_
      rintro e w3 ⟨hans, h3⟩
      have H3 := Lib.hid h3
      unfold FinAns at hans
      rcases hans with ⟨hE, rfl⟩ | ⟨hE, _, _, _, _, _, _, v, l', rfl, hfi, hown⟩
      · have HQQ := Lib.hid (HQ.out w3 h3 [] (fun h => absurd h hE))
        rw [if_neg hE] at HQQ
        obtain ⟨er, her⟩ : ∃ er, finE (N' : Int) (cntR R ah 0 N' : Nat) (linksR N' R ah) = er := ⟨_, rfl⟩
        rw [her] at HQQ ⊢
        have geq : (er == er) = true := by simp
        clear h3 hE her HQ HP
        go_wp2_with fail
        refine HQQ.out.mono ?_
        rintro e w4 ⟨⟨A4, k4, rfl, hr4⟩, h4⟩
        have HR4 := Lib.hid hr4
        have H4 := Lib.hid (below_self H3.out h4)
        clear h4 hr4
        go_wp2_with fail
        refine (equalC_b none A4 0 0 0 k4 [] [] w4 Rd.nil_ HR4.out (by unfold maxLen; omega) (by unfold maxLen; omega)).mono ?_
        rintro e w5 ⟨rfl, h5⟩
        rw [show decide (([] : List Cl) = []) = true from decide_eq_true rfl]
        have H5 := Lib.hid (below_self H4.out h5)
        clear h5
        go_wp2_with fail
        refine (awake12_any w5).mono ?_
        rintro e w6 ⟨rfl, h6⟩
        have H6 := Lib.hid (HLOW.out.trans ((below_self H5.out h6).mono HLOW.out.size))
        clear h6
        go_wp2_with fail
        go_ret
        exact ⟨rfl, H6.out⟩
      · rw [Int.toNat_natCast, Int.toNat_natCast] at hfi
        have HQQ := Lib.hid (HQ.out w3 h3 l' (fun _ => hfi))
        rw [if_pos hE, hE] at HQQ
        have hpl := finIs_len hfi
        obtain ⟨A3, k3, rfl, _⟩ := own_form hown
        have HR3 := Lib.hid (Rd.of_own hown)
        obtain ⟨p, hp⟩ : ∃ p, l'.length = p := ⟨_, rfl⟩
        obtain ⟨X, hX⟩ : ∃ X, l'.map NC.cl = X := ⟨_, rfl⟩
        rw [hp] at hpl
        rw [hp, hX] at HR3 HQQ
        rw [hp]
        clear h3 hE hfi hown hp hX HQ HP
        go_wp2_with fail
        refine HQQ.out.mono ?_
        rintro e w4 ⟨⟨A4, k4, rfl, hr4⟩, h4⟩
        have HR4 := Lib.hid hr4
        have HR34 := Lib.hid (HR3.out.below h4)
        have H4 := Lib.hid (below_self H3.out h4)
        clear h4 hr4
        go_wp2_with fail
        refine (equalC_b A3 A4 p p k3 k4 X X w4 HR34.out HR4.out (by unfold maxLen; omega) (by unfold maxLen; omega)).mono ?_
        rintro e w5 ⟨rfl, h5⟩
        rw [decide_eq_true rfl]
        have H5 := Lib.hid (below_self H4.out h5)
        clear h5
        go_wp2_with fail
        refine (awake12_any w5).mono ?_
        rintro e w6 ⟨rfl, h6⟩
        have H6 := Lib.hid (HLOW.out.trans ((below_self H5.out h6).mono HLOW.out.size))
        clear h6
        go_wp2_with fail
        go_ret
        exact ⟨rfl, H6.out⟩
end Go.Proofs.Ytcbiaeeifclieaa
/- naskhlaw12.CellsLive of cells that there can't be. -/
namespace Go.Proofs.Ytcbiaeeifclieaa
open Go.RowKit

set_option maxRecDepth 100000 in
set_option maxHeartbeats 4000000 in
theorem cellsLive_out (nn : Int) (hnn : ¬ (0 ≤ nn ∧ nn ≤ 40)) (A : Option Addr) (q c : Nat) (l : List DoK) (w0 : World) (hr : Rd w0 5 A q (l.flatMap encK)) (hl : l.length = q) (hg : ∀ k ∈ l, GoodK w0 k) (hq : q ≤ maxLen) :
    Calls Try.prog 3 #[.int .i64 nn, .slice A q c] w0 fun e w' => e = .returned (.bool true) ∧ Below w0.heap.size w0 w' := by
  have HR := Lib.hid hr
  have HG := Lib.hid hg
  have HL := Lib.hid hl
  unfold maxLen at hq
  clear hr hg hl
  have hcase : (40 < nn ∧ nn ≤ 16777216) ∨ (40 < nn ∧ 16777216 < nn) ∨ nn < 0 := by omega
  rcases hcase with ⟨h1, h2⟩ | ⟨h1, h2⟩ | h1
  · go_enter Try.func3, Try.ntmps3
    go_wp2_with fail
    refine (awake12_any w0).mono ?_
    rintro e w1 ⟨rfl, hb⟩
    go_wp2_with fail
    go_ret
    exact ⟨rfl, hb⟩
  iterate 2
    · have hout : nn < 0 ∨ 16777216 < nn := by omega
      have HOUT := Lib.hid hout
      clear hout
      go_enter Try.func3, Try.ntmps3
      go_wp2_with fail
      refine (new_any nn w0).mono ?_
      rintro e w1 ⟨hans, hb1⟩
      rcases hans with ⟨_, rfl⟩ | ⟨N, b, gc, base, hNe, hN, rfl, _⟩
      · go_wp2_with fail
        refine (rcNew_no nn HOUT.out w1).mono ?_
        rintro e w2 ⟨rfl, rfl⟩
        have HB1 := Lib.hid hb1
        clear hb1
        go_wp2_with fail
        go_loopw [44] (fun i ws => ∃ k : Nat, k ≤ q ∧ i = .int .i64 (k : Int) ∧ ws = w1) (fun _ _ => 0)
        case atStart => exact ⟨0, Nat.zero_le _, rfl, rfl⟩
        case round =>
          obtain ⟨k, hkq, rfl, rfl⟩ := hrel
          by_cases hlt : ¬ k < q
          · obtain rfl : k = q := by omega
            go_wp2_with fail
            refine (awake12_any _).mono ?_
            rintro e w3 ⟨rfl, hb⟩
            have HB3 := Lib.hid (below_self HB1.out hb)
            clear hb
            go_wp2_with fail
            go_ret
            exact ⟨rfl, HB3.out⟩
          · obtain ⟨s, hs⟩ : ∃ s, l[k]? = some s := ⟨_, List.getElem?_eq_getElem (by rw [HL.out]; omega)⟩
            have hkq2 : (k : Int) < (q : Int) := by omega
            obtain ⟨ad, rfl, hab, d0, d1, d2, d3, d4⟩ := (HR.out.below HB1.out).dos HL.out hs
            obtain ⟨op, at_, B, sn, sc, sl, s1, s2⟩ := s
            simp only at d0 d1 d2 d3 d4
            have hbn := below_self HB1.out (below_new wr (.cells #[.int .i64 op, .int .i64 at_, .slice B sn sc, .int .i64 s1, .int .i64 s2] 35))
            have HBN := Lib.hid hbn
            clear hs hbn
            go_wp2_with fail
            refine (awake12_any _).mono ?_
            rintro e w3 ⟨rfl, hb⟩
            have HB3 := Lib.hid (below_self HBN.out hb)
            clear hb
            go_wp2_with fail
            go_ret
            exact ⟨rfl, HB3.out⟩
      · exfalso
        have := HOUT.out
        omega
end Go.Proofs.Ytcbiaeeifclieaa
/- naskhlaw12.CellsLive, whatever comes in. -/
namespace Go.Proofs.Ytcbiaeeifclieaa
open Go.RowKit

theorem cellsLive_any (nn : Int) (A : Option Addr) (q c : Nat) (l : List DoK) (w0 : World) (hr : Rd w0 5 A q (l.flatMap encK)) (hl : l.length = q) (hg : ∀ k ∈ l, GoodK w0 k) (hq : q ≤ maxLen) :
    Calls Try.prog 3 #[.int .i64 nn, .slice A q c] w0 fun e w' => e = .returned (.bool true) ∧ Below w0.heap.size w0 w' := by
  by_cases h : 0 ≤ nn ∧ nn ≤ 40
  · obtain ⟨N, rfl⟩ := Int.eq_ofNat_of_zero_le h.1
    exact cellsLive_in N (by omega) A q c l w0 hr hl hg hq
  · exact cellsLive_out nn h A q c l w0 hr hl hg hq
end Go.Proofs.Ytcbiaeeifclieaa
