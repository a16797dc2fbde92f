/- runs.line's put, walked: a row follows. -/
import Derived.Test.YtaiefneimjdmhaaRuLP3
import Derived.Test.YtaiefneimjdmhaaRoL
import Derived.Test.YtaiefneimjdmhaaTnM2
import Derived.Deep.CutBlock
import Derived.BigQuiet
import Derived.Deep.RegionLaw
namespace Go.Proofs.Ytaiefneimjdmhaa
open Go.RowKit
theorem ruRowSlice : SliceOf Try.prog 60 65 3 24 := .mk_ (z := .agg #[.int .i64 0, .int .i64 0, .int .i64 0]) Try.underlying60 (by kernel_rfl) rfl
set_option maxRecDepth 100000 in
set_option maxHeartbeats 4000000 in
theorem ruPut_any (X : Nat → Obj → Prop) (b g n v x : Nat) (R : List (TnR Nat)) (w0 w : World) (h : LnAt 62 65 X b g n R w0 w) (hm : R.length ≤ 100000) (hn : n ≤ 100000) (hv : v ≤ 126) (hx : x ∉ R.flatMap (·.seq)) (hxn : x < n) :
    Calls Try.prog 39 #[.pointer (some ⟨g, 0, none⟩), .agg #[.int .i64 (v : Int), .int .i64 (x : Int), .int .i64 (x : Int)]] w fun e w' => e = .returned (.tuple #[]) ∧ LnAt 62 65 X b g n (tnPut ⟨v, [x]⟩ R) w0 w' := by
  have hgs := h.len
  obtain ⟨gb, hgb⟩ : ∃ gb, w.heap.size = gb := ⟨_, rfl⟩
  obtain ⟨Y, hY⟩ : ∃ Y : Nat → Obj → Prop, (fun k o => X k o ∨ (k = gb ∧ o = .cells #[.int .i64 (v : Int), .int .i64 (x : Int), .int .i64 (x : Int)] 65 (0, 0))) = Y := ⟨_, rfl⟩
  have HY := Lib.hid (show ∀ k o, X k o → Y k o by intro k o hk; rw [← hY]; exact .inl hk)
  have HYB := Lib.hid (show Y gb (.cells #[.int .i64 (v : Int), .int .i64 (x : Int), .int .i64 (x : Int)] 65 (0, 0)) by rw [← hY]; exact .inr ⟨rfl, rfl⟩)
  obtain ⟨W, hW⟩ : ∃ W, w.alloc (.cells #[.int .i64 (v : Int), .int .i64 (x : Int), .int .i64 (x : Int)] 65) = W := ⟨_, rfl⟩
  have HS := Lib.hid (show LnAt 62 65 Y b g n R w0 W by
    rw [← hW]
    refine h.more (below_new w _) fun k o hk => ?_
    rw [← hY] at hk
    rcases hk with hk | ⟨rfl, rfl⟩
    · exact .inl hk
    · exact .inr ⟨by omega, by rw [← hgb]; exact heap_alloc_new w _⟩)
  have HX := Lib.hid hx
  have HV := Lib.hid hv
  clear h hY hgs hx
  go_enter Try.func39, Try.ntmps39
  go_upto_block 0 with fail
  go_cut [] (fun wx => ∃ R2, LnAt 62 65 Y b g n R2 w0 wx ∧ tnTop ⟨v, [x]⟩ R2 = tnPut ⟨v, [x]⟩ R ∧ x ∉ R2.flatMap (·.seq) ∧ R2.length ≤ 100000)
  case first =>
    go_wp2_with fail
    go_loopg [] (tnCnt v R) (fun gh wr => ∃ R2, gh = tnCnt v R2 ∧ LnAt 62 65 Y b g n R2 w0 wr ∧ tnPut ⟨v, [x]⟩ R2 = tnPut ⟨v, [x]⟩ R ∧ x ∉ R2.flatMap (·.seq) ∧ R2.length ≤ 100000)
    case atStart => exact ⟨R, rfl, HS.out, rfl, HX.out, hm⟩
    case round =>
      obtain ⟨R2, hgk, hl, hp, hx2, hm2⟩ := hrel
      have HGK := Lib.hid hgk
      have HL2 := Lib.hid hl
      have HP2 := Lib.hid hp
      have HX2 := Lib.hid hx2
      have HM2 := Lib.hid hm2
      have hbx := hl.extra HYB.out
      have d0 := hp_cell (j := 0) hbx rfl
      obtain ⟨A, c, c0, hc, hgs, fz⟩ := hl.len
      cases R2 with
      | nil =>
        have hE : tnTop ⟨v, [x]⟩ ([] : List (TnR Nat)) = tnPut ⟨v, [x]⟩ R := hp
        clear hgk hl hp hx2 hm2 hbx
        simp only [List.length_nil] at c0 hc
        go_wp2
        go_quiet (fail)
        go_wp2
        go_meet
        exact ⟨[], HL2.out.drewN nq, hE, by simp, by simp⟩
      | cons t R2 =>
        obtain ⟨lt, hlt⟩ : ∃ k : Int, (t.lev : Int) = k := ⟨_, rfl⟩
        have HQL := Lib.hid (show ∀ q, Calls Try.prog 53 #[.pointer (some ⟨g, 0, none⟩), .int .i64 0] (wr.drewN q) fun e w' => e = .returned (.int .i64 lt) ∧ ∃ m, w' = wr.drewN m by
          intro q
          have h9 := ruLevel_any Y b g n (t :: R2) w0 (wr.drewN q) (hl.drewN q) 0 t rfl (by omega)
          rw [hlt] at h9
          exact h9.mono fun e w' ⟨h1, q2, h2⟩ => ⟨h1, q + q2, by rw [h2, World.drewN_drewN]⟩)
        have HLO := Lib.hid (fun q => ruLower_any Y b g n v R2 t w0 (wr.drewN q) (hl.drewN q) (by simp only [List.length_cons] at hm2; omega) hn HV.out)
        simp only [List.length_cons] at c0 hc
        obtain ⟨m, hmR⟩ : ∃ m, R2.length + 1 = m := ⟨_, rfl⟩
        rw [hmR] at c0 hc
        have dg : decide (0 < m) = true := decide_eq_true (by omega)
        have i2 : (m : Int) ≤ 100002 := by simp only [List.length_cons] at hm2; omega
        by_cases hvt : v < t.lev
        · have d1 : decide ((v : Int) < lt) = true := decide_eq_true (by omega)
          have HC := Lib.hid (tnCnt_low (R := R2) hvt)
          have HPL := Lib.hid ((tnPut_low (x := x) (R := R2) hvt).trans hp)
          have HXL := Lib.hid (show x ∉ (tnLow v t R2).flatMap (·.seq) from fun hc => hx2 ((tnLow_perm (v := v) (t := t) (R := R2)).mem_iff.1 hc))
          have HML := Lib.hid (Nat.le_trans (tnLow_len (v := v) (t := t) (R := R2)) hm2)
          clear hgk hl hp hx2 hm2 hbx hlt hmR hvt
          go_wp2
          go_quiet ((go_at_call 53; exact HQL.out _))
          go_wp2_with (first
            | (go_at_call 54; refine (HLO.out _).mono ?_; rintro e w3 ⟨rfl, hl3⟩)
            | fail)
          go_roundg (tnCnt v (tnLow v t R2))
          case measure => have := HC.out; have := HGK.out; omega
          case rel => exact ⟨_, rfl, hl3, HPL.out, HXL.out, HML.out⟩
        · have d1 : decide ((v : Int) < lt) = false := decide_eq_false (by omega)
          have hE : tnTop ⟨v, [x]⟩ (t :: R2) = tnPut ⟨v, [x]⟩ R := by rw [← tnPut_top hvt]; exact hp
          have HE := Lib.hid hE
          clear hgk hl hp hx2 hm2 hbx hlt hmR hvt hE
          go_wp2
          go_quiet ((go_at_call 53; exact HQL.out _))
          go_wp2
          go_meet
          exact ⟨t :: R2, HL2.out.drewN nq, HE.out, HX2.out, HM2.out⟩
  case rest =>
    obtain ⟨R2, hl, hp, hx2, hm2⟩ := hcut
    have HP := Lib.hid hp
    have HX2 := Lib.hid hx2
    have HM2 := Lib.hid hm2
    obtain ⟨A, c, hc, hgs, hbs, c0, hown, hgrow⟩ := hl.grow
    have hbx := hl.extra HYB.out
    have d0 := hp_cell (j := 0) hbx rfl
    have d1 := hp_cell (j := 1) hbx rfl
    have d2 := hp_cell (j := 2) hbx rfl
    have HO := Lib.hid hown
    have HGR := Lib.hid hgrow
    obtain ⟨m, hmR⟩ : ∃ m, R2.length = m := ⟨_, rfl⟩
    have HMR := Lib.hid hmR
    rw [hmR] at c0 hc hm2 HO HGR
    clear hl hp hx2 hbx hown hgrow hmR HS HX
    go_upto_region 3 with fail
    go_cut [] (fun wx => LnAt 62 65 Y b g n (⟨v, [x]⟩ :: R2) w0 wx)
    case first =>
      go_wp2_with fail
      first | (go_region_law (first
        | (refine step_appR (by rfl) _ _ _ (by rfl) ruRowSlice (by decide) (.slice A m c) m (cellsG (tnL R2)) (by rfl) (by first | exact HO.out.alloc _ | exact own_below HO.out (below_drew (below_new _ _) 1)) _ 1 _ [.int .i64 (v : Int), .int .i64 (x : Int), .int .i64 (x : Int)] (by rfl) (rdNewT _ _ _ _ _) (int3 _ _ _) (by omega) (by unfold maxLen; omega) (by first | exact hbs | (simp; omega)) _ rfl ?_; intro v7 w7 hown7 hg7 hat7; obtain ⟨A7, k7, rfl, hk7⟩ := own_form hown7; obtain ⟨z0, zf, z1⟩ := HGR.out _ w7 _ x v (below_drew (below_new wc _) 1) hg7 hown7 hat7 HX2.out hxn HV.out)
        | fail)) | fail
      all_goals (
        have Z1 := Lib.hid z1
        clear z1 z0 zf hown7 hg7 hat7
        go_wp2_with fail
        rename_i hJ
        refine Met.intro (hJ _ _ ?_)
        (repeat apply Exists.intro)
        refine ⟨?_, rfl⟩)
      all_goals exact Z1.out
    case rest =>
      have HL := Lib.hid hcut
      have hbx := hcut.extra HYB.out
      have d0 := hp_cell (j := 0) hbx rfl
      obtain ⟨A, c, c0, hc, hgs, fz⟩ := hcut.len
      clear d0 d1 d2
      have d0 := hp_cell (j := 0) hbx rfl
      cases R2 with
      | nil =>
        have HE := Lib.hid (show tnPut ⟨v, [x]⟩ R = [⟨v, [x]⟩] from HP.out.symm)
        simp only [List.length_cons, List.length_nil, Nat.zero_add] at c0 hc
        clear hcut hbx
        go_wp2_with fail
        go_quiet (fail)
        go_wp2
        go_end0
        exact ⟨rfl, by rw [HE.out]; exact (HL.out.drewN nq).less HY.out⟩
      | cons u R2 =>
        have hmL := HM2.out
        simp only [List.length_cons] at c0 hc hmL
        obtain ⟨lu, hlu⟩ : ∃ k : Int, (u.lev : Int) = k := ⟨_, rfl⟩
        have HQL := Lib.hid (show ∀ q, Calls Try.prog 53 #[.pointer (some ⟨g, 0, none⟩), .int .i64 1] (wc.drewN q) fun e w' => e = .returned (.int .i64 lu) ∧ ∃ m, w' = wc.drewN m by
          intro q
          have h9 := ruLevel_any Y b g n (⟨v, [x]⟩ :: u :: R2) w0 (wc.drewN q) (hcut.drewN q) 1 u rfl (by simp only [List.length_cons]; omega)
          rw [hlu] at h9
          exact h9.mono fun e w' ⟨h1, q2, h2⟩ => ⟨h1, q + q2, by rw [h2, World.drewN_drewN]⟩)
        have HJO := Lib.hid (fun q => ruJoin_any Y b g n R2 ⟨v, [x]⟩ u w0 (wc.drewN q) (hcut.drewN q) (by omega) hn)
        obtain ⟨p, hpR⟩ : ∃ p, R2.length + 1 + 1 = p := ⟨_, rfl⟩
        rw [hpR] at c0 hc
        have dg : decide ((1 : Int) < (p : Int)) = true := decide_eq_true (by omega)
        have i2 : (p : Int) ≤ 100002 := by omega
        by_cases hvu : u.lev = v
        · obtain rfl : lu = (v : Int) := by omega
          have HE := Lib.hid (show tnPut ⟨v, [x]⟩ R = u.join ⟨v, [x]⟩ :: R2 from HP.out.symm.trans (if_pos hvu))
          clear hcut hbx hlu hpR hvu hmL
          go_wp2_with fail
          go_quiet ((go_at_call 53; exact HQL.out _))
          go_wp2_with (first
            | (go_at_call 55; refine (HJO.out _).mono ?_; rintro e w3 ⟨rfl, hl3⟩)
            | fail)
          go_end0
          exact ⟨rfl, by rw [HE.out]; exact hl3.less HY.out⟩
        · have d1 : (lu == (v : Int)) = false := beq_eq_false_iff_ne.2 (by omega)
          have HE := Lib.hid (show tnPut ⟨v, [x]⟩ R = ⟨v, [x]⟩ :: u :: R2 from HP.out.symm.trans (if_neg hvu))
          clear hcut hbx hlu hpR hvu hmL
          go_wp2_with fail
          go_quiet ((go_at_call 53; exact HQL.out _))
          go_wp2
          go_end0
          exact ⟨rfl, by rw [HE.out]; exact (HL.out.drewN nq).less HY.out⟩
end Go.Proofs.Ytaiefneimjdmhaa
