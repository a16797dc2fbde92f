/- Texts of one claim, one behind the other. -/
import Derived.BigRegion
import Derived.Deep.Cut
import Derived.Deep.DeepCutAuto
import Derived.Test.YtaiefneimjdmhaaMgRo1
import Derived.Test.YtaiefneimjdmhaaMgRo3
/- runs.line's join, walked: two rows become one. -/
namespace Go.Proofs.Ytaiefneimjdmhaa
open Go.RowKit
set_option maxRecDepth 100000 in
set_option maxHeartbeats 2000000 in
theorem ruJoin_any (X : Nat → Obj → Prop) (b g n : Nat) (R : List (TnR Nat)) (t u : TnR Nat) (w0 w : World) (h : LnAt 62 65 X b g n (t :: u :: R) w0 w) (hm : R.length ≤ 100000) (hn : n ≤ 100000) :
    Calls Try.prog 55 #[.pointer (some ⟨g, 0, none⟩)] w fun e w' => e = .returned (.tuple #[]) ∧ LnAt 62 65 X b g n (u.join t :: R) w0 w' := by
  obtain ⟨v, gN, N, h1, h2, h3, h4, h5, h6, h7, h8⟩ := h.ex
  have HLOW := Lib.hid h.low
  have hbg := h.le
  have hgs := hp_lt h1
  clear h
  obtain ⟨gR, c, rfl, hbR, hltR⟩ := h2.form (by simp)
  obtain ⟨_, c', e, hnc⟩ := own_form h2
  injection e with e1 e2 e3
  subst e1 e3
  clear e2
  obtain ⟨r, hr⟩ : ∃ r, R.length = r := ⟨_, rfl⟩
  obtain ⟨p, hp⟩ : ∃ p, r + 1 = p := ⟨_, rfl⟩
  obtain ⟨m, hmp⟩ : ∃ m, p + 1 = m := ⟨_, rfl⟩
  simp only [List.length_cons, hr, hp, hmp] at h1 h2 hnc hm
  have HRR := Lib.hid hr
  have ct := tnL_top t (u :: R)
  have cu := tnL_next t u R
  simp only [List.length_cons, hr, hp] at ct cu
  obtain ⟨lu, hlu⟩ : ∃ k : Int, (u.lev : Int) = k := ⟨_, rfl⟩
  obtain ⟨lt, hlt⟩ : ∃ k : Int, (t.lev : Int) = k := ⟨_, rfl⟩
  obtain ⟨uf, huf⟩ : ∃ k : Nat, u.seq.headD 0 = k := ⟨_, rfl⟩
  obtain ⟨ul, hul⟩ : ∃ k : Nat, u.seq.getLastD 0 = k := ⟨_, rfl⟩
  obtain ⟨tf, htf⟩ : ∃ k : Nat, t.seq.headD 0 = k := ⟨_, rfl⟩
  obtain ⟨tl, htl⟩ : ∃ k : Nat, t.seq.getLastD 0 = k := ⟨_, rfl⟩
  have hx : tnG u = (lu, (uf : Int), (ul : Int)) := by unfold tnG; rw [hlu, huf, hul]
  have hy : tnG t = (lt, (tf : Int), (tl : Int)) := by unfold tnG; rw [hlt, htf, htl]
  have htln := h4.last_lt (t := t) (by simp)
  have huln := h4.last_lt (t := u) (by simp)
  rw [htl] at htln
  rw [hul] at huln
  rw [hx] at cu
  rw [hy] at ct
  have HJ := Lib.hid h4.join
  have HG := Lib.hid (tnG_join h4)
  have HUT := Lib.hid (And.intro hlu (And.intro huf (And.intro hul (And.intro htf htl))))
  have hN := h4.len
  have HC63 := Lib.hid (show c ≤ maxLen by
    rcases h2.2 with ⟨e9, _⟩ | ⟨g9, cap9, cur9, e9, _, _, _, h9, _⟩
    · cases e9
    · injection e9 with _ _ e9; rw [e9]; exact h9)
  have HOR := Lib.hid h2
  have HON := Lib.hid h3
  have c0 := hp_cell (j := 0) h1 rfl
  have c1 := hp_cell (j := 1) h1 rfl
  have HB := Lib.hid h1
  obtain ⟨p0, p1, p2⟩ := cellsG_at cu
  obtain ⟨q0, q1, q2⟩ := cellsG_at ct
  have k0 := (h2.cellAt (r * 3) (by omega)).trans p0
  have k1 := (h2.cellAt (r * 3 + 1) (by omega)).trans p1
  have k2 := (h2.cellAt (r * 3 + 2) (by omega)).trans p2
  have m0 := (h2.cellAt (p * 3) (by omega)).trans q0
  have m1 := (h2.cellAt (p * 3 + 1) (by omega)).trans q1
  have m2 := (h2.cellAt (p * 3 + 2) (by omega)).trans q2
  simp only at k0 k1 k2 m0 m1 m2
  have i1 : (m : Int) - 1 = (p : Int) := by omega
  have i2 : (p : Int) - 1 = (r : Int) := by omega
  have i3 : (0 : Int) ≤ (p : Int) := by omega
  have i4 : (p : Int) < (m : Int) := by omega
  have i5 : (0 : Int) ≤ (r : Int) := by omega
  have i6 : (r : Int) < (m : Int) := by omega
  have i7 : (m : Int) ≤ 100002 := by omega
  have HPR := Lib.hid hp
  have HMP := Lib.hid hmp
  clear h1 h2 h3 h4 hr hx hy hlu hlt huf hul htf htl ct cu p0 p1 p2 q0 q1 q2 hp hmp
  go_enter Try.func55, Try.ntmps55
  go_upto_region 1 with fail
  go_cut [3, 4] (fun s3 s4 wx => ∃ gl gr, s3 = .pointer (some ⟨gl, 0, none⟩) ∧ s4 = .pointer (some ⟨gr, 0, none⟩) ∧ BxTwo 65 w wx gl gr (lu, (uf : Int), (ul : Int)) (lt, (tf : Int), (tl : Int)))
  case first =>
    go_wp2_with fail
    go_region
    all_goals (
      rename_i hJ hK
      refine hK _ _ (Met.intro (hJ _ _ ?_))
      (repeat apply Exists.intro)
      refine ⟨?_, rfl⟩)
    all_goals clear hJ hK
    all_goals first
      | exact ⟨_, _, rfl, rfl, bxTwo_ab 65 w (lu, (uf : Int), (ul : Int)) (lt, (tf : Int), (tl : Int))⟩
      | exact ⟨_, _, rfl, rfl, (bxTwo_ab 65 w (lt, (tf : Int), (tl : Int)) (lu, (uf : Int), (ul : Int))).turn⟩
      | fail
  case rest =>
    obtain ⟨gl, gr, rfl, rfl, hbx⟩ := hcut
    have hla := hbx.la
    have hlb := hbx.lb
    have hNl := (HON.out.lt gN rfl).2
    have hNb := (HON.out.lt gN rfl).1
    have HS := Lib.hid (JnSt.mk (T := 62) ((hbx.low.block g hgs).trans HB.out) (own_below HOR.out hbx.low) (own_below HON.out hbx.low) hbx.ha hbx.hb (HLOW.out.trans (hbx.low.mono (by omega))) ⟨by omega, by omega, by omega, by omega, by omega⟩ ⟨fun e => h5 (by rw [e]; rfl), h6, fun e => h7 (by rw [e]; rfl), hbx.ne, by omega, by omega, by omega, by omega, by omega, by omega⟩ (fun k o hx => by
      obtain ⟨x1, x2, x3, x4⟩ := h8 k o hx
      have x5 := hp_lt x1
      exact ⟨(hbx.low.block k x5).trans x1, x2, x3, fun e => x4 (by rw [e]; rfl), by omega, by omega⟩))
    clear hbx h5 h6 h7 h8 hbR hltR c0 c1 k0 k1 k2 m0 m1 m2 HB HOR HON HLOW hgs
    have a0 := hp_cell (j := 0) HS.out.ha rfl
    have a1 := hp_cell (j := 1) HS.out.ha rfl
    have a2 := hp_cell (j := 2) HS.out.ha rfl
    have b0 := hp_cell (j := 0) HS.out.hb rfl
    have b1 := hp_cell (j := 1) HS.out.hb rfl
    have b2 := hp_cell (j := 2) HS.out.hb rfl
    have fa := hp_froz HS.out.ha
    have fb := hp_froz HS.out.hb
    have hnlr := HS.out.ne.2.2.2.1
    by_cases ho : u.lev % 2 = 1
    · have hbit : bits .and .i64 lu 1 = 1 := by rw [and1_i64, ← HUT.out.1]; omega
      have HA : Hid (tnA u t = (t, u)) := Lib.hid (if_pos ho)
      clear ho
      go_upto_region 5 with fail
      have HS3 := Lib.hid HS.out.swap
      obtain ⟨W, hW⟩ : ∃ W, put3 (put3 wc gl (lt, (tf : Int), (tl : Int))) gr (lu, (uf : Int), (ul : Int)) = W := ⟨_, rfl⟩
      rw [hW] at HS3
      simp only [put3] at hW
      rw [hW]
      clear hW HS a0 a1 a2 b0 b1 b2 fa fb
      obtain ⟨n1, n2, n3, n4, n5, n6, n7, n8, n9, n10⟩ := HS3.out.ne
      have d0 := hp_cell (j := 0) HS3.out.box rfl
      have d1 := hp_cell (j := 1) HS3.out.box rfl
      have a2' := hp_cell (j := 2) HS3.out.ha rfl
      have b1' := hp_cell (j := 1) HS3.out.hb rfl
      obtain ⟨⟨y9, hy9⟩, fN⟩ := own_slot HS3.out.next (j := tl) (by omega)
      have j1 : (0 : Int) ≤ (tl : Int) := by omega
      have j2 : (tl : Int) < (n : Int) := by omega
      have j3 : (n : Int) ≤ 100000 := by omega
      go_cut [] (fun wx => JnSt 62 65 X b g n gN gR m c gl gr (tnL (t :: u :: R)) (N.set tl (uf : Int)) (lt, (tf : Int), (tl : Int)) (lu, (uf : Int), (ul : Int)) w0 wx)
      case first =>
        go_wp2_with fail
        go_region
        all_goals (
          rename_i hJ hK
          refine hK _ _ (Met.intro (hJ _ _ ?_))
          (repeat apply Exists.intro)
          refine ⟨?_, rfl⟩)
        all_goals first
          | exact (HS3.out.drew.setN _ _)
          | exact (HS3.out.setN _ _).drew
          | fail
      case rest =>
        have HS4 := Lib.hid hcut
        clear hcut HS3 d0 d1 a2' b1' hy9 fN
        have d0 := hp_cell (j := 0) HS4.out.box rfl
        have d1 := hp_cell (j := 1) HS4.out.box rfl
        have e1 := hp_cell (j := 1) HS4.out.ha rfl
        have e2 := hp_cell (j := 2) HS4.out.hb rfl
        have fz := hp_froz HS4.out.box
        obtain ⟨g0, g1, g2⟩ := cellsG_at (show (tnL (t :: u :: R))[r]? = some (tnG u) by rw [← HRR.out]; exact tnL_next t u R)
        obtain ⟨r0, f0⟩ := HS4.out.cellR g0
        obtain ⟨r1, f1⟩ := HS4.out.cellR g1
        obtain ⟨r2, f2⟩ := HS4.out.cellR g2
        have HLR := Lib.hid (show r < (tnL (t :: u :: R)).length by rw [tnL_len]; simp only [List.length_cons]; have := HRR.out; omega)
        have HP5 := Lib.hid (HS4.out.putR r (lu, (tf : Int), (ul : Int)) HLR.out).drew
        have HTK := Lib.hid (tnL_put (t := t) (u := u) (z := (lu, (tf : Int), (ul : Int))) HRR.out HPR.out)
        obtain ⟨W5, hW5⟩ : ∃ W5, (putG wc gR r (lu, (tf : Int), (ul : Int))).drew = W5 := ⟨_, rfl⟩
        rw [hW5] at HP5
        simp only [putG] at hW5
        clear g0 g1 g2
        go_wp2_with fail
        go_region
        have HZ := Lib.hid (show (lu, (tf : Int), (ul : Int)) = tnG (u.join t) by
          obtain ⟨z1, z2, z3, z4, z5⟩ := HUT.out
          rw [HG.out, HA.out]
          simp only
          rw [z1, z4, z3])
        have HJ2 := Lib.hid (show TnK n (N.set tl (uf : Int)) (u.join t :: R) by
          obtain ⟨z1, z2, z3, z4, z5⟩ := HUT.out
          have := HJ.out
          rw [HA.out] at this
          simp only at this
          rw [z5, z2] at this
          exact this)
        have HF := Lib.hid (HP5.out.fin (R := u.join t :: R) (q := p) (by have := HRR.out; have := HPR.out; simp only [List.length_cons]; omega) (by omega) (by rw [HTK.out, HZ.out, ← tnL_cons]) HJ2.out)
        have d5 := hp_cell (j := 0) HP5.out.box rfl
        have fz5 := hp_froz HP5.out.box 0
        have i8 : (p : Int) ≤ (c : Int) := by omega
        have i9 : (c : Int) ≤ 9223372036854775807 := by have := HC63.out; unfold maxLen at this; omega
        have hpm : p ≤ m := by omega
        have hpc : p ≤ c := by omega
        clear hW5 d0 d1 e1 e2 fz r0 f0 r1 f1 r2 f2 HP5
        go_wp2
        go_end0
        exact ⟨rfl, HF.out⟩
    · have hbit : bits .and .i64 lu 1 = 0 := by rw [and1_i64, ← HUT.out.1]; omega
      have HA : Hid (tnA u t = (u, t)) := Lib.hid (if_neg ho)
      clear ho
      go_upto_region 5 with fail
      have HS3 := HS
      clear HS a0 a1 a2 b0 b1 b2 fa fb
      obtain ⟨n1, n2, n3, n4, n5, n6, n7, n8, n9, n10⟩ := HS3.out.ne
      have d0 := hp_cell (j := 0) HS3.out.box rfl
      have d1 := hp_cell (j := 1) HS3.out.box rfl
      have a2' := hp_cell (j := 2) HS3.out.ha rfl
      have b1' := hp_cell (j := 1) HS3.out.hb rfl
      obtain ⟨⟨y9, hy9⟩, fN⟩ := own_slot HS3.out.next (j := ul) (by omega)
      have j1 : (0 : Int) ≤ (ul : Int) := by omega
      have j2 : (ul : Int) < (n : Int) := by omega
      have j3 : (n : Int) ≤ 100000 := by omega
      go_cut [] (fun wx => JnSt 62 65 X b g n gN gR m c gl gr (tnL (t :: u :: R)) (N.set ul (tf : Int)) (lu, (uf : Int), (ul : Int)) (lt, (tf : Int), (tl : Int)) w0 wx)
      case first =>
        go_wp2_with fail
        go_region
        all_goals (
          rename_i hJ hK
          refine hK _ _ (Met.intro (hJ _ _ ?_))
          (repeat apply Exists.intro)
          refine ⟨?_, rfl⟩)
        all_goals first
          | exact (HS3.out.drew.setN _ _)
          | exact (HS3.out.setN _ _).drew
          | fail
      case rest =>
        have HS4 := Lib.hid hcut
        clear hcut HS3 d0 d1 a2' b1' hy9 fN
        have d0 := hp_cell (j := 0) HS4.out.box rfl
        have d1 := hp_cell (j := 1) HS4.out.box rfl
        have e1 := hp_cell (j := 1) HS4.out.ha rfl
        have e2 := hp_cell (j := 2) HS4.out.hb rfl
        have fz := hp_froz HS4.out.box
        obtain ⟨g0, g1, g2⟩ := cellsG_at (show (tnL (t :: u :: R))[r]? = some (tnG u) by rw [← HRR.out]; exact tnL_next t u R)
        obtain ⟨r0, f0⟩ := HS4.out.cellR g0
        obtain ⟨r1, f1⟩ := HS4.out.cellR g1
        obtain ⟨r2, f2⟩ := HS4.out.cellR g2
        have HLR := Lib.hid (show r < (tnL (t :: u :: R)).length by rw [tnL_len]; simp only [List.length_cons]; have := HRR.out; omega)
        have HP5 := Lib.hid (HS4.out.putR r (lu, (uf : Int), (tl : Int)) HLR.out).drew
        have HTK := Lib.hid (tnL_put (t := t) (u := u) (z := (lu, (uf : Int), (tl : Int))) HRR.out HPR.out)
        obtain ⟨W5, hW5⟩ : ∃ W5, (putG wc gR r (lu, (uf : Int), (tl : Int))).drew = W5 := ⟨_, rfl⟩
        rw [hW5] at HP5
        simp only [putG] at hW5
        clear g0 g1 g2
        go_wp2_with fail
        go_region
        have HZ := Lib.hid (show (lu, (uf : Int), (tl : Int)) = tnG (u.join t) by
          obtain ⟨z1, z2, z3, z4, z5⟩ := HUT.out
          rw [HG.out, HA.out]
          simp only
          rw [z1, z2, z5])
        have HJ2 := Lib.hid (show TnK n (N.set ul (tf : Int)) (u.join t :: R) by
          obtain ⟨z1, z2, z3, z4, z5⟩ := HUT.out
          have := HJ.out
          rw [HA.out] at this
          simp only at this
          rw [z3, z4] at this
          exact this)
        have HF := Lib.hid (HP5.out.fin (R := u.join t :: R) (q := p) (by have := HRR.out; have := HPR.out; simp only [List.length_cons]; omega) (by omega) (by rw [HTK.out, HZ.out, ← tnL_cons]) HJ2.out)
        have d5 := hp_cell (j := 0) HP5.out.box rfl
        have fz5 := hp_froz HP5.out.box 0
        have i8 : (p : Int) ≤ (c : Int) := by omega
        have i9 : (c : Int) ≤ 9223372036854775807 := by have := HC63.out; unfold maxLen at this; omega
        have hpm : p ≤ m := by omega
        have hpc : p ≤ c := by omega
        clear hW5 d0 d1 e1 e2 fz r0 f0 r1 f1 r2 f2 HP5
        go_wp2
        go_end0
        exact ⟨rfl, HF.out⟩
end Go.Proofs.Ytaiefneimjdmhaa
/- runs.line's lower, walked: the last row ends. -/
namespace Go.Proofs.Ytaiefneimjdmhaa
open Go.RowKit
set_option maxRecDepth 100000 in
set_option maxHeartbeats 2000000 in
theorem ruLower_any (X : Nat → Obj → Prop) (b g n v : Nat) (R : List (TnR Nat)) (t : TnR Nat) (w0 w : World) (h : LnAt 62 65 X b g n (t :: R) w0 w) (hm : R.length ≤ 100000) (hn : n ≤ 100000) (hv : v ≤ 126) :
    Calls Try.prog 54 #[.pointer (some ⟨g, 0, none⟩), .int .i64 (v : Int)] w fun e w' => e = .returned (.tuple #[]) ∧ LnAt 62 65 X b g n (tnLow v t R) w0 w' := by
  obtain ⟨gR, m, c, hRm, hmc, hgs, c0, f0, c1, f1, hset⟩ := h.top
  have hv126 : (v : Int) ≤ 126 := by omega
  cases R with
  | nil =>
    have HF := Lib.hid (hset v hv)
    simp only [List.length_nil] at hRm c1 f1 HF
    subst hRm
    clear h hset
    simp only [Nat.zero_mul, Nat.zero_add] at c0 c1 f1 HF hmc
    go_enter Try.func54, Try.ntmps54
    go_wp2
    go_region
    go_end0
    exact ⟨rfl, by first | exact HF.out.drewN 1 | exact HF.out⟩
  | cons u R =>
    simp only [List.length_cons] at hRm c1 f1 hm
    obtain ⟨p, hp⟩ : ∃ p, R.length + 1 = p := ⟨_, rfl⟩
    rw [hp] at hRm c1 f1 hm
    have HL := Lib.hid (ruLevel_any X b g n (t :: u :: R) w0 w h 1 u rfl (by simp only [List.length_cons]; omega))
    have HJ := Lib.hid (fun q => ruJoin_any X b g n R t u w0 (w.drewN q) (h.drewN q) (by omega) hn)
    have i1 : (m : Int) - 1 = (p : Int) := by omega
    have i2 : (0 : Int) ≤ (p : Int) := by omega
    have i3 : (p : Int) < (m : Int) := by omega
    have i4 : (m : Int) ≤ 100002 := by omega
    have i5 : (1 : Int) < (m : Int) := by omega
    obtain ⟨lu, hlu⟩ : ∃ k : Int, (u.lev : Int) = k := ⟨_, rfl⟩
    rw [hlu] at HL
    by_cases hvu : v ≤ u.lev
    · have d1 : decide ((v : Int) ≤ lu) = true := decide_eq_true (by omega)
      have HE : Hid (tnLow v t (u :: R) = u.join t :: R) := Lib.hid (if_pos hvu)
      rw [HE.out]
      clear h hset hp hvu hlu hRm
      go_enter Try.func54, Try.ntmps54
      go_wp2_with (first
        | (go_at_call 53; refine HL.out.mono ?_; rintro e w1 ⟨rfl, q1, rfl⟩)
        | (go_at_call 55; refine (HJ.out _).mono ?_; rintro e w2 ⟨rfl, hl2⟩)
        | fail)
      go_end0
      exact ⟨rfl, hl2⟩
    · have d1 : decide ((v : Int) ≤ lu) = false := decide_eq_false (by omega)
      have HE : Hid (tnLow v t (u :: R) = ⟨v, t.seq⟩ :: u :: R) := Lib.hid (if_neg hvu)
      rw [HE.out]
      have HF := Lib.hid (hset v hv)
      simp only [List.length_cons, hp] at HF
      clear h hset hp hvu hlu hRm
      go_enter Try.func54, Try.ntmps54
      go_wp2_with (first
        | (go_at_call 53; refine HL.out.mono ?_; rintro e w1 ⟨rfl, q1, rfl⟩)
        | fail)
      go_region
      go_end0
      exact ⟨rfl, HF.out.drewN (q1 + 1)⟩
end Go.Proofs.Ytaiefneimjdmhaa
/- order.line's join, walked: two rows become one. -/
namespace Go.Proofs.Ytaiefneimjdmhaa
open Go.RowKit
set_option maxRecDepth 100000 in
set_option maxHeartbeats 2000000 in
theorem orJoin_any (X : Nat → Obj → Prop) (b g n : Nat) (R : List (TnR Nat)) (t u : TnR Nat) (w0 w : World) (h : LnAt 46 50 X b g n (t :: u :: R) w0 w) (hm : R.length ≤ 100000) (hn : n ≤ 100000) :
    Calls Try.prog 50 #[.pointer (some ⟨g, 0, none⟩)] w fun e w' => e = .returned (.tuple #[]) ∧ LnAt 46 50 X b g n (u.join t :: R) w0 w' := by
  obtain ⟨v, gN, N, h1, h2, h3, h4, h5, h6, h7, h8⟩ := h.ex
  have HLOW := Lib.hid h.low
  have hbg := h.le
  have hgs := hp_lt h1
  clear h
  obtain ⟨gR, c, rfl, hbR, hltR⟩ := h2.form (by simp)
  obtain ⟨_, c', e, hnc⟩ := own_form h2
  injection e with e1 e2 e3
  subst e1 e3
  clear e2
  obtain ⟨r, hr⟩ : ∃ r, R.length = r := ⟨_, rfl⟩
  obtain ⟨p, hp⟩ : ∃ p, r + 1 = p := ⟨_, rfl⟩
  obtain ⟨m, hmp⟩ : ∃ m, p + 1 = m := ⟨_, rfl⟩
  simp only [List.length_cons, hr, hp, hmp] at h1 h2 hnc hm
  have HRR := Lib.hid hr
  have ct := tnL_top t (u :: R)
  have cu := tnL_next t u R
  simp only [List.length_cons, hr, hp] at ct cu
  obtain ⟨lu, hlu⟩ : ∃ k : Int, (u.lev : Int) = k := ⟨_, rfl⟩
  obtain ⟨lt, hlt⟩ : ∃ k : Int, (t.lev : Int) = k := ⟨_, rfl⟩
  obtain ⟨uf, huf⟩ : ∃ k : Nat, u.seq.headD 0 = k := ⟨_, rfl⟩
  obtain ⟨ul, hul⟩ : ∃ k : Nat, u.seq.getLastD 0 = k := ⟨_, rfl⟩
  obtain ⟨tf, htf⟩ : ∃ k : Nat, t.seq.headD 0 = k := ⟨_, rfl⟩
  obtain ⟨tl, htl⟩ : ∃ k : Nat, t.seq.getLastD 0 = k := ⟨_, rfl⟩
  have hx : tnG u = (lu, (uf : Int), (ul : Int)) := by unfold tnG; rw [hlu, huf, hul]
  have hy : tnG t = (lt, (tf : Int), (tl : Int)) := by unfold tnG; rw [hlt, htf, htl]
  have htln := h4.last_lt (t := t) (by simp)
  have huln := h4.last_lt (t := u) (by simp)
  rw [htl] at htln
  rw [hul] at huln
  rw [hx] at cu
  rw [hy] at ct
  have HJ := Lib.hid h4.join
  have HG := Lib.hid (tnG_join h4)
  have HUT := Lib.hid (And.intro hlu (And.intro huf (And.intro hul (And.intro htf htl))))
  have hN := h4.len
  have HC63 := Lib.hid (show c ≤ maxLen by
    rcases h2.2 with ⟨e9, _⟩ | ⟨g9, cap9, cur9, e9, _, _, _, h9, _⟩
    · cases e9
    · injection e9 with _ _ e9; rw [e9]; exact h9)
  have HOR := Lib.hid h2
  have HON := Lib.hid h3
  have c0 := hp_cell (j := 0) h1 rfl
  have c1 := hp_cell (j := 1) h1 rfl
  have HB := Lib.hid h1
  obtain ⟨p0, p1, p2⟩ := cellsG_at cu
  obtain ⟨q0, q1, q2⟩ := cellsG_at ct
  have k0 := (h2.cellAt (r * 3) (by omega)).trans p0
  have k1 := (h2.cellAt (r * 3 + 1) (by omega)).trans p1
  have k2 := (h2.cellAt (r * 3 + 2) (by omega)).trans p2
  have m0 := (h2.cellAt (p * 3) (by omega)).trans q0
  have m1 := (h2.cellAt (p * 3 + 1) (by omega)).trans q1
  have m2 := (h2.cellAt (p * 3 + 2) (by omega)).trans q2
  simp only at k0 k1 k2 m0 m1 m2
  have i1 : (m : Int) - 1 = (p : Int) := by omega
  have i2 : (p : Int) - 1 = (r : Int) := by omega
  have i3 : (0 : Int) ≤ (p : Int) := by omega
  have i4 : (p : Int) < (m : Int) := by omega
  have i5 : (0 : Int) ≤ (r : Int) := by omega
  have i6 : (r : Int) < (m : Int) := by omega
  have i7 : (m : Int) ≤ 100002 := by omega
  have HPR := Lib.hid hp
  have HMP := Lib.hid hmp
  clear h1 h2 h3 h4 hr hx hy hlu hlt huf hul htf htl ct cu p0 p1 p2 q0 q1 q2 hp hmp
  go_enter Try.func50, Try.ntmps50
  go_upto_region 1 with fail
  go_cut [3, 4] (fun s3 s4 wx => ∃ gl gr, s3 = .pointer (some ⟨gl, 0, none⟩) ∧ s4 = .pointer (some ⟨gr, 0, none⟩) ∧ BxTwo 50 w wx gl gr (lu, (uf : Int), (ul : Int)) (lt, (tf : Int), (tl : Int)))
  case first =>
    go_wp2_with fail
    go_region
    all_goals (
      rename_i hJ hK
      refine hK _ _ (Met.intro (hJ _ _ ?_))
      (repeat apply Exists.intro)
      refine ⟨?_, rfl⟩)
    all_goals clear hJ hK
    all_goals first
      | exact ⟨_, _, rfl, rfl, bxTwo_ab 50 w (lu, (uf : Int), (ul : Int)) (lt, (tf : Int), (tl : Int))⟩
      | exact ⟨_, _, rfl, rfl, (bxTwo_ab 50 w (lt, (tf : Int), (tl : Int)) (lu, (uf : Int), (ul : Int))).turn⟩
      | fail
  case rest =>
    obtain ⟨gl, gr, rfl, rfl, hbx⟩ := hcut
    have hla := hbx.la
    have hlb := hbx.lb
    have hNl := (HON.out.lt gN rfl).2
    have hNb := (HON.out.lt gN rfl).1
    have HS := Lib.hid (JnSt.mk (T := 46) ((hbx.low.block g hgs).trans HB.out) (own_below HOR.out hbx.low) (own_below HON.out hbx.low) hbx.ha hbx.hb (HLOW.out.trans (hbx.low.mono (by omega))) ⟨by omega, by omega, by omega, by omega, by omega⟩ ⟨fun e => h5 (by rw [e]; rfl), h6, fun e => h7 (by rw [e]; rfl), hbx.ne, by omega, by omega, by omega, by omega, by omega, by omega⟩ (fun k o hx => by
      obtain ⟨x1, x2, x3, x4⟩ := h8 k o hx
      have x5 := hp_lt x1
      exact ⟨(hbx.low.block k x5).trans x1, x2, x3, fun e => x4 (by rw [e]; rfl), by omega, by omega⟩))
    clear hbx h5 h6 h7 h8 hbR hltR c0 c1 k0 k1 k2 m0 m1 m2 HB HOR HON HLOW hgs
    have a0 := hp_cell (j := 0) HS.out.ha rfl
    have a1 := hp_cell (j := 1) HS.out.ha rfl
    have a2 := hp_cell (j := 2) HS.out.ha rfl
    have b0 := hp_cell (j := 0) HS.out.hb rfl
    have b1 := hp_cell (j := 1) HS.out.hb rfl
    have b2 := hp_cell (j := 2) HS.out.hb rfl
    have fa := hp_froz HS.out.ha
    have fb := hp_froz HS.out.hb
    have hnlr := HS.out.ne.2.2.2.1
    by_cases ho : u.lev % 2 = 1
    · have hbit : bits .and .i64 lu 1 = 1 := by rw [and1_i64, ← HUT.out.1]; omega
      have HA : Hid (tnA u t = (t, u)) := Lib.hid (if_pos ho)
      clear ho
      go_upto_region 5 with fail
      have HS3 := Lib.hid HS.out.swap
      obtain ⟨W, hW⟩ : ∃ W, put3 (put3 wc gl (lt, (tf : Int), (tl : Int))) gr (lu, (uf : Int), (ul : Int)) = W := ⟨_, rfl⟩
      rw [hW] at HS3
      simp only [put3] at hW
      rw [hW]
      clear hW HS a0 a1 a2 b0 b1 b2 fa fb
      obtain ⟨n1, n2, n3, n4, n5, n6, n7, n8, n9, n10⟩ := HS3.out.ne
      have d0 := hp_cell (j := 0) HS3.out.box rfl
      have d1 := hp_cell (j := 1) HS3.out.box rfl
      have a2' := hp_cell (j := 2) HS3.out.ha rfl
      have b1' := hp_cell (j := 1) HS3.out.hb rfl
      obtain ⟨⟨y9, hy9⟩, fN⟩ := own_slot HS3.out.next (j := tl) (by omega)
      have j1 : (0 : Int) ≤ (tl : Int) := by omega
      have j2 : (tl : Int) < (n : Int) := by omega
      have j3 : (n : Int) ≤ 100000 := by omega
      go_cut [] (fun wx => JnSt 46 50 X b g n gN gR m c gl gr (tnL (t :: u :: R)) (N.set tl (uf : Int)) (lt, (tf : Int), (tl : Int)) (lu, (uf : Int), (ul : Int)) w0 wx)
      case first =>
        go_wp2_with fail
        go_region
        all_goals (
          rename_i hJ hK
          refine hK _ _ (Met.intro (hJ _ _ ?_))
          (repeat apply Exists.intro)
          refine ⟨?_, rfl⟩)
        all_goals first
          | exact (HS3.out.drew.setN _ _)
          | exact (HS3.out.setN _ _).drew
          | fail
      case rest =>
        have HS4 := Lib.hid hcut
        clear hcut HS3 d0 d1 a2' b1' hy9 fN
        have d0 := hp_cell (j := 0) HS4.out.box rfl
        have d1 := hp_cell (j := 1) HS4.out.box rfl
        have e1 := hp_cell (j := 1) HS4.out.ha rfl
        have e2 := hp_cell (j := 2) HS4.out.hb rfl
        have fz := hp_froz HS4.out.box
        obtain ⟨g0, g1, g2⟩ := cellsG_at (show (tnL (t :: u :: R))[r]? = some (tnG u) by rw [← HRR.out]; exact tnL_next t u R)
        obtain ⟨r0, f0⟩ := HS4.out.cellR g0
        obtain ⟨r1, f1⟩ := HS4.out.cellR g1
        obtain ⟨r2, f2⟩ := HS4.out.cellR g2
        have HLR := Lib.hid (show r < (tnL (t :: u :: R)).length by rw [tnL_len]; simp only [List.length_cons]; have := HRR.out; omega)
        have HP5 := Lib.hid (HS4.out.putR r (lu, (tf : Int), (ul : Int)) HLR.out).drew
        have HTK := Lib.hid (tnL_put (t := t) (u := u) (z := (lu, (tf : Int), (ul : Int))) HRR.out HPR.out)
        obtain ⟨W5, hW5⟩ : ∃ W5, (putG wc gR r (lu, (tf : Int), (ul : Int))).drew = W5 := ⟨_, rfl⟩
        rw [hW5] at HP5
        simp only [putG] at hW5
        clear g0 g1 g2
        go_wp2_with fail
        go_region
        have HZ := Lib.hid (show (lu, (tf : Int), (ul : Int)) = tnG (u.join t) by
          obtain ⟨z1, z2, z3, z4, z5⟩ := HUT.out
          rw [HG.out, HA.out]
          simp only
          rw [z1, z4, z3])
        have HJ2 := Lib.hid (show TnK n (N.set tl (uf : Int)) (u.join t :: R) by
          obtain ⟨z1, z2, z3, z4, z5⟩ := HUT.out
          have := HJ.out
          rw [HA.out] at this
          simp only at this
          rw [z5, z2] at this
          exact this)
        have HF := Lib.hid (HP5.out.fin (R := u.join t :: R) (q := p) (by have := HRR.out; have := HPR.out; simp only [List.length_cons]; omega) (by omega) (by rw [HTK.out, HZ.out, ← tnL_cons]) HJ2.out)
        have d5 := hp_cell (j := 0) HP5.out.box rfl
        have fz5 := hp_froz HP5.out.box 0
        have i8 : (p : Int) ≤ (c : Int) := by omega
        have i9 : (c : Int) ≤ 9223372036854775807 := by have := HC63.out; unfold maxLen at this; omega
        have hpm : p ≤ m := by omega
        have hpc : p ≤ c := by omega
        clear hW5 d0 d1 e1 e2 fz r0 f0 r1 f1 r2 f2 HP5
        go_wp2
        go_end0
        exact ⟨rfl, HF.out⟩
    · have hbit : bits .and .i64 lu 1 = 0 := by rw [and1_i64, ← HUT.out.1]; omega
      have HA : Hid (tnA u t = (u, t)) := Lib.hid (if_neg ho)
      clear ho
      go_upto_region 5 with fail
      have HS3 := HS
      clear HS a0 a1 a2 b0 b1 b2 fa fb
      obtain ⟨n1, n2, n3, n4, n5, n6, n7, n8, n9, n10⟩ := HS3.out.ne
      have d0 := hp_cell (j := 0) HS3.out.box rfl
      have d1 := hp_cell (j := 1) HS3.out.box rfl
      have a2' := hp_cell (j := 2) HS3.out.ha rfl
      have b1' := hp_cell (j := 1) HS3.out.hb rfl
      obtain ⟨⟨y9, hy9⟩, fN⟩ := own_slot HS3.out.next (j := ul) (by omega)
      have j1 : (0 : Int) ≤ (ul : Int) := by omega
      have j2 : (ul : Int) < (n : Int) := by omega
      have j3 : (n : Int) ≤ 100000 := by omega
      go_cut [] (fun wx => JnSt 46 50 X b g n gN gR m c gl gr (tnL (t :: u :: R)) (N.set ul (tf : Int)) (lu, (uf : Int), (ul : Int)) (lt, (tf : Int), (tl : Int)) w0 wx)
      case first =>
        go_wp2_with fail
        go_region
        all_goals (
          rename_i hJ hK
          refine hK _ _ (Met.intro (hJ _ _ ?_))
          (repeat apply Exists.intro)
          refine ⟨?_, rfl⟩)
        all_goals first
          | exact (HS3.out.drew.setN _ _)
          | exact (HS3.out.setN _ _).drew
          | fail
      case rest =>
        have HS4 := Lib.hid hcut
        clear hcut HS3 d0 d1 a2' b1' hy9 fN
        have d0 := hp_cell (j := 0) HS4.out.box rfl
        have d1 := hp_cell (j := 1) HS4.out.box rfl
        have e1 := hp_cell (j := 1) HS4.out.ha rfl
        have e2 := hp_cell (j := 2) HS4.out.hb rfl
        have fz := hp_froz HS4.out.box
        obtain ⟨g0, g1, g2⟩ := cellsG_at (show (tnL (t :: u :: R))[r]? = some (tnG u) by rw [← HRR.out]; exact tnL_next t u R)
        obtain ⟨r0, f0⟩ := HS4.out.cellR g0
        obtain ⟨r1, f1⟩ := HS4.out.cellR g1
        obtain ⟨r2, f2⟩ := HS4.out.cellR g2
        have HLR := Lib.hid (show r < (tnL (t :: u :: R)).length by rw [tnL_len]; simp only [List.length_cons]; have := HRR.out; omega)
        have HP5 := Lib.hid (HS4.out.putR r (lu, (uf : Int), (tl : Int)) HLR.out).drew
        have HTK := Lib.hid (tnL_put (t := t) (u := u) (z := (lu, (uf : Int), (tl : Int))) HRR.out HPR.out)
        obtain ⟨W5, hW5⟩ : ∃ W5, (putG wc gR r (lu, (uf : Int), (tl : Int))).drew = W5 := ⟨_, rfl⟩
        rw [hW5] at HP5
        simp only [putG] at hW5
        clear g0 g1 g2
        go_wp2_with fail
        go_region
        have HZ := Lib.hid (show (lu, (uf : Int), (tl : Int)) = tnG (u.join t) by
          obtain ⟨z1, z2, z3, z4, z5⟩ := HUT.out
          rw [HG.out, HA.out]
          simp only
          rw [z1, z2, z5])
        have HJ2 := Lib.hid (show TnK n (N.set ul (tf : Int)) (u.join t :: R) by
          obtain ⟨z1, z2, z3, z4, z5⟩ := HUT.out
          have := HJ.out
          rw [HA.out] at this
          simp only at this
          rw [z3, z4] at this
          exact this)
        have HF := Lib.hid (HP5.out.fin (R := u.join t :: R) (q := p) (by have := HRR.out; have := HPR.out; simp only [List.length_cons]; omega) (by omega) (by rw [HTK.out, HZ.out, ← tnL_cons]) HJ2.out)
        have d5 := hp_cell (j := 0) HP5.out.box rfl
        have fz5 := hp_froz HP5.out.box 0
        have i8 : (p : Int) ≤ (c : Int) := by omega
        have i9 : (c : Int) ≤ 9223372036854775807 := by have := HC63.out; unfold maxLen at this; omega
        have hpm : p ≤ m := by omega
        have hpc : p ≤ c := by omega
        clear hW5 d0 d1 e1 e2 fz r0 f0 r1 f1 r2 f2 HP5
        go_wp2
        go_end0
        exact ⟨rfl, HF.out⟩
end Go.Proofs.Ytaiefneimjdmhaa
/- order.line's lower, walked: the last row ends. -/
namespace Go.Proofs.Ytaiefneimjdmhaa
open Go.RowKit
set_option maxRecDepth 100000 in
set_option maxHeartbeats 2000000 in
theorem orLower_any (X : Nat → Obj → Prop) (b g n v : Nat) (R : List (TnR Nat)) (t : TnR Nat) (w0 w : World) (h : LnAt 46 50 X b g n (t :: R) w0 w) (hm : R.length ≤ 100000) (hn : n ≤ 100000) (hv : v ≤ 126) :
    Calls Try.prog 49 #[.pointer (some ⟨g, 0, none⟩), .int .i64 (v : Int)] w fun e w' => e = .returned (.tuple #[]) ∧ LnAt 46 50 X b g n (tnLow v t R) w0 w' := by
  obtain ⟨gR, m, c, hRm, hmc, hgs, c0, f0, c1, f1, hset⟩ := h.top
  have hv126 : (v : Int) ≤ 126 := by omega
  cases R with
  | nil =>
    have HF := Lib.hid (hset v hv)
    simp only [List.length_nil] at hRm c1 f1 HF
    subst hRm
    clear h hset
    simp only [Nat.zero_mul, Nat.zero_add] at c0 c1 f1 HF hmc
    go_enter Try.func49, Try.ntmps49
    go_wp2
    go_region
    go_end0
    exact ⟨rfl, by first | exact HF.out.drewN 1 | exact HF.out⟩
  | cons u R =>
    simp only [List.length_cons] at hRm c1 f1 hm
    obtain ⟨p, hp⟩ : ∃ p, R.length + 1 = p := ⟨_, rfl⟩
    rw [hp] at hRm c1 f1 hm
    have HL := Lib.hid (orLevel_any X b g n (t :: u :: R) w0 w h 1 u rfl (by simp only [List.length_cons]; omega))
    have HJ := Lib.hid (fun q => orJoin_any X b g n R t u w0 (w.drewN q) (h.drewN q) (by omega) hn)
    have i1 : (m : Int) - 1 = (p : Int) := by omega
    have i2 : (0 : Int) ≤ (p : Int) := by omega
    have i3 : (p : Int) < (m : Int) := by omega
    have i4 : (m : Int) ≤ 100002 := by omega
    have i5 : (1 : Int) < (m : Int) := by omega
    obtain ⟨lu, hlu⟩ : ∃ k : Int, (u.lev : Int) = k := ⟨_, rfl⟩
    rw [hlu] at HL
    by_cases hvu : v ≤ u.lev
    · have d1 : decide ((v : Int) ≤ lu) = true := decide_eq_true (by omega)
      have HE : Hid (tnLow v t (u :: R) = u.join t :: R) := Lib.hid (if_pos hvu)
      rw [HE.out]
      clear h hset hp hvu hlu hRm
      go_enter Try.func49, Try.ntmps49
      go_wp2_with (first
        | (go_at_call 48; refine HL.out.mono ?_; rintro e w1 ⟨rfl, q1, rfl⟩)
        | (go_at_call 50; refine (HJ.out _).mono ?_; rintro e w2 ⟨rfl, hl2⟩)
        | fail)
      go_end0
      exact ⟨rfl, hl2⟩
    · have d1 : decide ((v : Int) ≤ lu) = false := decide_eq_false (by omega)
      have HE : Hid (tnLow v t (u :: R) = ⟨v, t.seq⟩ :: u :: R) := Lib.hid (if_neg hvu)
      rw [HE.out]
      have HF := Lib.hid (hset v hv)
      simp only [List.length_cons, hp] at HF
      clear h hset hp hvu hlu hRm
      go_enter Try.func49, Try.ntmps49
      go_wp2_with (first
        | (go_at_call 48; refine HL.out.mono ?_; rintro e w1 ⟨rfl, q1, rfl⟩)
        | fail)
      go_region
      go_end0
      exact ⟨rfl, HF.out.drewN (q1 + 1)⟩
end Go.Proofs.Ytaiefneimjdmhaa
