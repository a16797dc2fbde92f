/- Texts of one claim, one behind the other. -/
import Derived.Deep.CutBlock
import Derived.BigQuiet
import Derived.Deep.RegionLaw
import Derived.Test.YtaiefneimjdmhaaMgRo1
import Derived.Test.YtaiefneimjdmhaaMgRo2
import Derived.Test.YtaiefneimjdmhaaMgRo3
import Derived.Test.YtaiefneimjdmhaaMgRo4
import Derived.Test.YtaiefneimjdmhaaMgRo5
import Derived.Test.YtaiefneimjdmhaaMgRo6
/- runs.line's put, walked: a row follows. -/
namespace Go.Proofs.Ytaiefneimjdmhaa
open Go.RowKit
theorem ruRowSlice : SliceOf Try.prog 60 65 3 24 := .mk_ (z := .agg #[.int .i64 0, .int .i64 0, .int .i64 0]) Try.underlying60 (by kernel_rfl) rfl
set_option maxRecDepth 100000 in
set_option maxHeartbeats 4000000 in
theorem ruPut_any (X : Nat → Obj → Prop) (b g n v x : Nat) (R : List (TnR Nat)) (w0 w : World) (h : LnAt 62 65 X b g n R w0 w) (hm : R.length ≤ 100000) (hn : n ≤ 100000) (hv : v ≤ 126) (hx : x ∉ R.flatMap (·.seq)) (hxn : x < n) :
    Calls Try.prog 39 #[.pointer (some ⟨g, 0, none⟩), .agg #[.int .i64 (v : Int), .int .i64 (x : Int), .int .i64 (x : Int)]] w fun e w' => e = .returned (.tuple #[]) ∧ LnAt 62 65 X b g n (tnPut ⟨v, [x]⟩ R) w0 w' := by
  have hgs := h.len
  obtain ⟨gb, hgb⟩ : ∃ gb, w.heap.size = gb := ⟨_, rfl⟩
  obtain ⟨Y, hY⟩ : ∃ Y : Nat → Obj → Prop, (fun k o => X k o ∨ (k = gb ∧ o = .cells #[.int .i64 (v : Int), .int .i64 (x : Int), .int .i64 (x : Int)] 65 (0, 0))) = Y := ⟨_, rfl⟩
  have HY := Lib.hid (show ∀ k o, X k o → Y k o by intro k o hk; rw [← hY]; exact .inl hk)
  have HYB := Lib.hid (show Y gb (.cells #[.int .i64 (v : Int), .int .i64 (x : Int), .int .i64 (x : Int)] 65 (0, 0)) by rw [← hY]; exact .inr ⟨rfl, rfl⟩)
  obtain ⟨W, hW⟩ : ∃ W, w.alloc (.cells #[.int .i64 (v : Int), .int .i64 (x : Int), .int .i64 (x : Int)] 65) = W := ⟨_, rfl⟩
  have HS := Lib.hid (show LnAt 62 65 Y b g n R w0 W by
    rw [← hW]
    refine h.more (below_new w _) fun k o hk => ?_
    rw [← hY] at hk
    rcases hk with hk | ⟨rfl, rfl⟩
    · exact .inl hk
    · exact .inr ⟨by omega, by rw [← hgb]; exact heap_alloc_new w _⟩)
  have HX := Lib.hid hx
  have HV := Lib.hid hv
  clear h hY hgs hx
  go_enter Try.func39, Try.ntmps39
  go_upto_block 0 with fail
  go_cut [] (fun wx => ∃ R2, LnAt 62 65 Y b g n R2 w0 wx ∧ tnTop ⟨v, [x]⟩ R2 = tnPut ⟨v, [x]⟩ R ∧ x ∉ R2.flatMap (·.seq) ∧ R2.length ≤ 100000)
  case first =>
    go_wp2_with fail
    go_loopg [] (tnCnt v R) (fun gh wr => ∃ R2, gh = tnCnt v R2 ∧ LnAt 62 65 Y b g n R2 w0 wr ∧ tnPut ⟨v, [x]⟩ R2 = tnPut ⟨v, [x]⟩ R ∧ x ∉ R2.flatMap (·.seq) ∧ R2.length ≤ 100000)
    case atStart => exact ⟨R, rfl, HS.out, rfl, HX.out, hm⟩
    case round =>
      obtain ⟨R2, hgk, hl, hp, hx2, hm2⟩ := hrel
      have HGK := Lib.hid hgk
      have HL2 := Lib.hid hl
      have HP2 := Lib.hid hp
      have HX2 := Lib.hid hx2
      have HM2 := Lib.hid hm2
      have hbx := hl.extra HYB.out
      have d0 := hp_cell (j := 0) hbx rfl
      obtain ⟨A, c, c0, hc, hgs, fz⟩ := hl.len
      cases R2 with
      | nil =>
        have hE : tnTop ⟨v, [x]⟩ ([] : List (TnR Nat)) = tnPut ⟨v, [x]⟩ R := hp
        clear hgk hl hp hx2 hm2 hbx
        simp only [List.length_nil] at c0 hc
        go_wp2
        go_quiet (fail)
        go_wp2
        go_meet
        exact ⟨[], HL2.out.drewN nq, hE, by simp, by simp⟩
      | cons t R2 =>
        obtain ⟨lt, hlt⟩ : ∃ k : Int, (t.lev : Int) = k := ⟨_, rfl⟩
        have HQL := Lib.hid (show ∀ q, Calls Try.prog 53 #[.pointer (some ⟨g, 0, none⟩), .int .i64 0] (wr.drewN q) fun e w' => e = .returned (.int .i64 lt) ∧ ∃ m, w' = wr.drewN m by
          intro q
          have h9 := ruLevel_any Y b g n (t :: R2) w0 (wr.drewN q) (hl.drewN q) 0 t rfl (by omega)
          rw [hlt] at h9
          exact h9.mono fun e w' ⟨h1, q2, h2⟩ => ⟨h1, q + q2, by rw [h2, World.drewN_drewN]⟩)
        have HLO := Lib.hid (fun q => ruLower_any Y b g n v R2 t w0 (wr.drewN q) (hl.drewN q) (by simp only [List.length_cons] at hm2; omega) hn HV.out)
        simp only [List.length_cons] at c0 hc
        obtain ⟨m, hmR⟩ : ∃ m, R2.length + 1 = m := ⟨_, rfl⟩
        rw [hmR] at c0 hc
        have dg : decide (0 < m) = true := decide_eq_true (by omega)
        have i2 : (m : Int) ≤ 100002 := by simp only [List.length_cons] at hm2; omega
        by_cases hvt : v < t.lev
        · have d1 : decide ((v : Int) < lt) = true := decide_eq_true (by omega)
          have HC := Lib.hid (tnCnt_low (R := R2) hvt)
          have HPL := Lib.hid ((tnPut_low (x := x) (R := R2) hvt).trans hp)
          have HXL := Lib.hid (show x ∉ (tnLow v t R2).flatMap (·.seq) from fun hc => hx2 ((tnLow_perm (v := v) (t := t) (R := R2)).mem_iff.1 hc))
          have HML := Lib.hid (Nat.le_trans (tnLow_len (v := v) (t := t) (R := R2)) hm2)
          clear hgk hl hp hx2 hm2 hbx hlt hmR hvt
          go_wp2
          go_quiet ((go_at_call 53; exact HQL.out _))
          go_wp2_with (first
            | (go_at_call 54; refine (HLO.out _).mono ?_; rintro e w3 ⟨rfl, hl3⟩)
            | fail)
          go_roundg (tnCnt v (tnLow v t R2))
          case measure => have := HC.out; have := HGK.out; omega
          case rel => exact ⟨_, rfl, hl3, HPL.out, HXL.out, HML.out⟩
        · have d1 : decide ((v : Int) < lt) = false := decide_eq_false (by omega)
          have hE : tnTop ⟨v, [x]⟩ (t :: R2) = tnPut ⟨v, [x]⟩ R := by rw [← tnPut_top hvt]; exact hp
          have HE := Lib.hid hE
          clear hgk hl hp hx2 hm2 hbx hlt hmR hvt hE
          go_wp2
          go_quiet ((go_at_call 53; exact HQL.out _))
          go_wp2
          go_meet
          exact ⟨t :: R2, HL2.out.drewN nq, HE.out, HX2.out, HM2.out⟩
  case rest =>
    obtain ⟨R2, hl, hp, hx2, hm2⟩ := hcut
    have HP := Lib.hid hp
    have HX2 := Lib.hid hx2
    have HM2 := Lib.hid hm2
    obtain ⟨A, c, hc, hgs, hbs, c0, hown, hgrow⟩ := hl.grow
    have hbx := hl.extra HYB.out
    have d0 := hp_cell (j := 0) hbx rfl
    have d1 := hp_cell (j := 1) hbx rfl
    have d2 := hp_cell (j := 2) hbx rfl
    have HO := Lib.hid hown
    have HGR := Lib.hid hgrow
    obtain ⟨m, hmR⟩ : ∃ m, R2.length = m := ⟨_, rfl⟩
    have HMR := Lib.hid hmR
    rw [hmR] at c0 hc hm2 HO HGR
    clear hl hp hx2 hbx hown hgrow hmR HS HX
    go_upto_region 3 with fail
    go_cut [] (fun wx => LnAt 62 65 Y b g n (⟨v, [x]⟩ :: R2) w0 wx)
    case first =>
      go_wp2_with fail
      first | (go_region_law (first
        | (refine step_appR (by rfl) _ _ _ (by rfl) ruRowSlice (by decide) (.slice A m c) m (cellsG (tnL R2)) (by rfl) (by first | exact HO.out.alloc _ | exact own_below HO.out (below_drew (below_new _ _) 1)) _ 1 _ [.int .i64 (v : Int), .int .i64 (x : Int), .int .i64 (x : Int)] (by rfl) (rdNewT _ _ _ _ _) (int3 _ _ _) (by omega) (by unfold maxLen; omega) (by first | exact hbs | (simp; omega)) _ rfl ?_; intro v7 w7 hown7 hg7 hat7; obtain ⟨A7, k7, rfl, hk7⟩ := own_form hown7; obtain ⟨z0, zf, z1⟩ := HGR.out _ w7 _ x v (below_drew (below_new wc _) 1) hg7 hown7 hat7 HX2.out hxn HV.out)
        | fail)) | fail
      all_goals (
        have Z1 := Lib.hid z1
        clear z1 z0 zf hown7 hg7 hat7
        go_wp2_with fail
        rename_i hJ
        refine Met.intro (hJ _ _ ?_)
        (repeat apply Exists.intro)
        refine ⟨?_, rfl⟩)
      all_goals exact Z1.out
    case rest =>
      have HL := Lib.hid hcut
      have hbx := hcut.extra HYB.out
      have d0 := hp_cell (j := 0) hbx rfl
      obtain ⟨A, c, c0, hc, hgs, fz⟩ := hcut.len
      clear d0 d1 d2
      have d0 := hp_cell (j := 0) hbx rfl
      cases R2 with
      | nil =>
        have HE := Lib.hid (show tnPut ⟨v, [x]⟩ R = [⟨v, [x]⟩] from HP.out.symm)
        simp only [List.length_cons, List.length_nil, Nat.zero_add] at c0 hc
        clear hcut hbx
        go_wp2_with fail
        go_quiet (fail)
        go_wp2
        go_end0
        exact ⟨rfl, by rw [HE.out]; exact (HL.out.drewN nq).less HY.out⟩
      | cons u R2 =>
        have hmL := HM2.out
        simp only [List.length_cons] at c0 hc hmL
        obtain ⟨lu, hlu⟩ : ∃ k : Int, (u.lev : Int) = k := ⟨_, rfl⟩
        have HQL := Lib.hid (show ∀ q, Calls Try.prog 53 #[.pointer (some ⟨g, 0, none⟩), .int .i64 1] (wc.drewN q) fun e w' => e = .returned (.int .i64 lu) ∧ ∃ m, w' = wc.drewN m by
          intro q
          have h9 := ruLevel_any Y b g n (⟨v, [x]⟩ :: u :: R2) w0 (wc.drewN q) (hcut.drewN q) 1 u rfl (by simp only [List.length_cons]; omega)
          rw [hlu] at h9
          exact h9.mono fun e w' ⟨h1, q2, h2⟩ => ⟨h1, q + q2, by rw [h2, World.drewN_drewN]⟩)
        have HJO := Lib.hid (fun q => ruJoin_any Y b g n R2 ⟨v, [x]⟩ u w0 (wc.drewN q) (hcut.drewN q) (by omega) hn)
        obtain ⟨p, hpR⟩ : ∃ p, R2.length + 1 + 1 = p := ⟨_, rfl⟩
        rw [hpR] at c0 hc
        have dg : decide ((1 : Int) < (p : Int)) = true := decide_eq_true (by omega)
        have i2 : (p : Int) ≤ 100002 := by omega
        by_cases hvu : u.lev = v
        · obtain rfl : lu = (v : Int) := by omega
          have HE := Lib.hid (show tnPut ⟨v, [x]⟩ R = u.join ⟨v, [x]⟩ :: R2 from HP.out.symm.trans (if_pos hvu))
          clear hcut hbx hlu hpR hvu hmL
          go_wp2_with fail
          go_quiet ((go_at_call 53; exact HQL.out _))
          go_wp2_with (first
            | (go_at_call 55; refine (HJO.out _).mono ?_; rintro e w3 ⟨rfl, hl3⟩)
            | fail)
          go_end0
          exact ⟨rfl, by rw [HE.out]; exact hl3.less HY.out⟩
        · have d1 : (lu == (v : Int)) = false := beq_eq_false_iff_ne.2 (by omega)
          have HE := Lib.hid (show tnPut ⟨v, [x]⟩ R = ⟨v, [x]⟩ :: u :: R2 from HP.out.symm.trans (if_neg hvu))
          clear hcut hbx hlu hpR hvu hmL
          go_wp2_with fail
          go_quiet ((go_at_call 53; exact HQL.out _))
          go_wp2
          go_end0
          exact ⟨rfl, by rw [HE.out]; exact (HL.out.drewN nq).less HY.out⟩
end Go.Proofs.Ytaiefneimjdmhaa
/- runs.line's pick, walked: the runs in the order in which they are seen. -/
namespace Go.Proofs.Ytaiefneimjdmhaa
open Go.RowKit
def rg0 : Rg := (0, 0, 0)
/-- The runs that numbers say. -/
def pickG (L : List Rg) (s : List Nat) : List Rg := s.map fun i => L.getD i rg0
theorem pickG_len (L : List Rg) (s : List Nat) : (pickG L s).length = s.length := by simp [pickG]
theorem pickG_next {L : List Rg} {s : List Nat} {k a : Nat} {r : Rg} (h : s[k]? = some a) (hr : L[a]? = some r) : pickG L (s.take (k + 1)) = pickG L (s.take k) ++ [r] := by
  unfold pickG
  rw [List.take_add_one, h, List.map_append]
  simp [List.getD_eq_getElem?_getD, hr]
set_option maxRecDepth 100000 in
set_option maxHeartbeats 4000000 in
theorem ruPick_any (X : Nat → Obj → Prop) (g n : Nat) (t : TnR Nat) (R : List (TnR Nat)) (A : Option Addr) (c : Nat) (L : List Rg) (w0 w : World) (hLg : Rd w0 3 A n (cellsG L)) (h : LnAt 62 65 X w0.heap.size g n (t :: R) w0 w) (hm : R.length ≤ 100000) (hn : n ≤ 100000) (hl : (tnEnd t R).seq.length = n) :
    Calls Try.prog 41 #[.pointer (some ⟨g, 0, none⟩), .slice A n c] w fun e w' => ∃ v, e = .returned v ∧ w'.ownsRow w0.heap.size 38 3 v n (cellsG (pickG L (tnEnd t R).seq)) ∧ Below w0.heap.size w0 w' := by
  have HS := Lib.hid h
  obtain ⟨E, hE⟩ : ∃ E, tnEnd t R = E := ⟨_, rfl⟩
  rw [hE] at hl ⊢
  have HE0 := Lib.hid hE
  have HL := Lib.hid hl
  have HLG := Lib.hid hLg
  have hlL := hLg.lenG
  have HLL := Lib.hid hlL
  obtain ⟨b, hb0⟩ : ∃ b, w0.heap.size = b := ⟨_, rfl⟩
  have HB0 := Lib.hid hb0
  have hb : b ≤ w.heap.size := by rw [← hb0]; exact h.low.size
  rw [hb0] at HS
  rw [hb0]
  clear h hl hE hLg hlL hb0
  go_enter Try.func41, Try.ntmps41
  go_wp2_with fail
  go_loopg [] R.length (fun gh wr => ∃ t2 R2, gh = R2.length ∧ LnAt 62 65 X b g n (t2 :: R2) w0 wr ∧ tnEnd t2 R2 = E ∧ R2.length ≤ 100000 ∧ b ≤ wr.heap.size)
  case atStart => exact ⟨t, R, rfl, HS.out, HE0.out, hm, hb⟩
  case round =>
    obtain ⟨t2, R2, hgk, hl, he, hm2, hb2⟩ := hrel
    have HGK := Lib.hid hgk
    have HL2 := Lib.hid hl
    have HE2 := Lib.hid he
    obtain ⟨A0, c0', c0, hc, hgs, fz⟩ := hl.len
    cases R2 with
    | cons u R2 =>
      simp only [List.length_cons] at c0 hc hm2 HGK
      have HJ := Lib.hid (ruJoin_any X b g n R2 t2 u w0 wr hl (by omega) hn)
      have HE3 := Lib.hid (show tnEnd (u.join t2) R2 = E from he)
      obtain ⟨m, hmR⟩ : ∃ m, R2.length + 1 + 1 = m := ⟨_, rfl⟩
      rw [hmR] at c0 hc
      have i1 : (1 : Int) < (m : Int) := by omega
      have i2 : (m : Int) ≤ 100002 := by omega
      have hm3 : R2.length ≤ 100000 := by omega
      clear hgk hl he hmR
      go_wp2_with (first
        | (go_at_call 55; refine HJ.out.mono ?_; rintro e w3 ⟨rfl, hl3⟩; have hb3 : b ≤ w3.heap.size := (by obtain ⟨_, _, _, _, hg3, _⟩ := hl3.len; exact Nat.le_trans hl3.le (Nat.le_of_lt hg3)))
        | fail)
      go_roundg R2.length
      case measure => have := HGK.out; omega
      case rel => exact ⟨_, R2, rfl, hl3, HE3.out, hm3, hb3⟩
    | nil =>
      rename World => W0
      obtain rfl : t2 = E := he
      obtain ⟨gN, N, c1, hK, hgN, hgs2, hcN⟩ := hl.links
      obtain ⟨gR, c', hc', c0', hgR, cR⟩ := hl.first
      have HK := Lib.hid hK
      have HCN := Lib.hid hcN
      have HLOW := Lib.hid hl.low
      obtain ⟨x, y, l, m, e1, e2, e3, e4, e5, e6, e7⟩ := tn_ends (hK.ne t2 (by simp))
      rw [e3] at cR
      obtain ⟨s, hs⟩ : ∃ s, t2.seq = s := ⟨_, rfl⟩
      rw [hs] at HL e1
      have HSQ := Lib.hid hs
      have HX0 := Lib.hid (show s[0]? = some x by rw [e1]; rfl)
      have hn1 : 0 < n := by rw [← HL.out, e1]; simp
      have hn1i : ((n : Int) == 0) = false := beq_eq_false_iff_ne.2 (by omega)
      have HRW := Lib.hid (show Rd W0 3 A n (cellsG L) from HLG.out.below (hl.low.mono (by rw [HB0.out]; exact Nat.le_refl _)))
      clear hgk hl hm2 c0 hc HE2 HE0 HGK hK hcN e1 e2 e3 e4 e5 e6 e7 hs HS HL2
      go_wp2_with (first
        | (refine wpList_mk rfl _ _ _ rfl (base := W0.heap.size) runSlice (n : Int) n rfl rfl rfl (by omega) (by unfold maxLen; omega) (Nat.le_refl _) ?_; intro v1 w1 hown1 hg1; have hbm := below_make hg1; have c0m := cell_below hbm c0'; have cRm := cell_below hbm cR; obtain ⟨A1, c1', rfl, hc1'⟩ := own_form hown1)
        | fail)
      have HO1 := Lib.hid (show w1.ownsRow W0.heap.size 38 3 (.slice A1 0 c1') 0 (cellsG (pickG L (s.take 0))) from hown1)
      have HB1 := Lib.hid hbm
      have HC1 := Lib.hid c1
      clear hown1 hg1 hbm c1 c0m cRm cR c0' hc1'
      go_loopw [5, 6, 31] (fun tv ta ti ws => ∃ (k a : Nat), k ≤ n ∧ ti = .int .i64 (k : Int) ∧ (∃ z : Int, ta = .int .i64 z ∧ (k < n → z = (a : Int))) ∧ (k < n → s[k]? = some a) ∧ ws.ownsRow W0.heap.size 38 3 tv k (cellsG (pickG L (s.take k))) ∧ Below W0.heap.size W0 ws) (fun _ _ ti _ => n - (intOf ti).toNat)
      case atStart => exact ⟨0, x, Nat.zero_le _, rfl, ⟨_, rfl, fun _ => rfl⟩, fun _ => HX0.out, HO1.out, HB1.out⟩
      case round =>
        obtain ⟨k, a, hk, rfl, ⟨z, rfl, hza⟩, hsa, hO, hBb⟩ := hrel
        have HO := Lib.hid hO
        have HB := Lib.hid hBb
        clear hO hBb HO1 HB1 HX0
        by_cases hlt : k < n
        · obtain rfl := hza hlt
          have HA := Lib.hid (hsa hlt)
          have hat : a < n := HK.out.lt a (by rw [List.flatMap_cons, HSQ.out]; exact List.mem_append_left _ (List.mem_of_getElem? HA.out))
          obtain ⟨zn, hzn⟩ : ∃ zn, N[a]? = some zn := ⟨_, List.getElem?_eq_getElem (by rw [HK.out.len]; exact hat)⟩
          have HZN := Lib.hid hzn
          obtain ⟨r, hr⟩ : ∃ r, L[a]? = some r := ⟨_, List.getElem?_eq_getElem (by rw [HLL.out]; exact hat)⟩
          have HNX := Lib.hid (pickG_next HA.out hr)
          obtain ⟨ad, rfl, hab, q0, q1, q2⟩ := (HRW.out.below HB.out).rg hr
          obtain ⟨r0, r1, r2⟩ := r
          simp only at q0 q1 q2 HNX
          have i1 : (k : Int) < (n : Int) := by omega
          have i2 : (0 : Int) ≤ (k : Int) := by omega
          have i3 : (n : Int) ≤ 100000 := by omega
          have i4 : (a : Int) < (n : Int) := by omega
          have i5 : (0 : Int) ≤ (a : Int) := by omega
          have HCL := Lib.hid (fun (W : World) (hB : Below W0.heap.size W0 W) => (hB.cell (p := ⟨g, 1, none⟩) hgs2).trans HC1.out)
          have HCA := Lib.hid (fun (W : World) (hB : Below W0.heap.size W0 W) => (hB.cell (p := ⟨gN, a, none⟩) hgN).trans (HCN.out a zn hzn))
          have hsz := HB.out.size
          clear hzn hza hsa hr
          go_wp2_with (first
            | (at_builtin; refine wpList_app rfl _ _ _ rfl runSlice (by decide) _ k _ rfl (HO.out.alloc _) ⟨wr.heap.size, 0, none⟩ 1 1 [.int .i64 r0, .int .i64 r1, .int .i64 r2] rfl rfl (cells_new wr [.int .i64 r0, .int .i64 r1, .int .i64 r2] 38) (int3 _ _ _) (by omega) (by unfold maxLen; omega) (Nat.le_trans hsz (by simp)) ?_; intro v3 w3 hown3 hg3 hat3; have hb3 := below_app (HB.out.alloc hsz _) hg3 (HO.out.alloc _) (Nat.le_trans hsz (by simp)); have cl := HCL.out w3 hb3; have cn := HCA.out w3 hb3)
            | fail)
          have HO3 : Hid (w3.ownsRow W0.heap.size 38 3 v3 (k + 1) (cellsG (pickG L (s.take (k + 1))))) := Lib.hid (by rw [HNX.out, cellsG_snoc]; exact hown3)
          have HB3 := Lib.hid hb3
          clear hown3 hg3 hat3 hb3
          go_roundw
          case rel => exact ⟨k + 1, s.getD (k + 1) 0, by omega, by go_num, ⟨zn, rfl, fun h => by
            have h2 : s[k + 1]? = some (s.getD (k + 1) 0) := by rw [List.getD_eq_getElem?_getD, List.getElem?_eq_getElem (by rw [HL.out]; exact h)]; rfl
            have hc := HK.out.chn t2 (by simp)
            rw [HSQ.out] at hc
            have h3 := hc.at_ HA.out h2
            rw [HZN.out] at h3
            exact Option.some.inj h3⟩, fun h => by rw [List.getD_eq_getElem?_getD, List.getElem?_eq_getElem (by rw [HL.out]; exact h)]; rfl, HO3.out, HB3.out⟩
          case measure => simp [intOf]; omega
        · obtain rfl : k = n := by omega
          have HF := Lib.hid (show s.take k = s from List.take_of_length_le (by rw [HL.out]; exact Nat.le_refl _))
          rw [HF.out] at HO
          have i1 : ¬ (k : Int) < (k : Int) := by omega
          go_wp2
          go_ret
          exact ⟨_, rfl, by rw [HSQ.out]; exact own_base HO.out hb2, HLOW.out.trans (HB.out.mono hb2)⟩
set_option maxRecDepth 100000 in
set_option maxHeartbeats 2000000 in
/-- A line without runs. -/
theorem ruPick0_any (X : Nat → Obj → Prop) (b g : Nat) (A : Option Addr) (c : Nat) (w0 w : World) (h : LnAt 62 65 X b g 0 [] w0 w) :
    Calls Try.prog 41 #[.pointer (some ⟨g, 0, none⟩), .slice A 0 c] w fun e w' => ∃ v, e = .returned v ∧ w'.ownsRow b 38 3 v 0 [] ∧ Below b w0 w' := by
  obtain ⟨v, c0', c0⟩ := h.none_
  obtain ⟨gN, N, c1, _, _, hgs, _⟩ := h.links
  have HLOW := Lib.hid h.low
  have hbw : b ≤ w.heap.size := Nat.le_trans h.le (Nat.le_of_lt hgs)
  clear h
  go_enter Try.func41, Try.ntmps41
  go_wp2_with fail
  go_loopg [] 0 (fun gh wr => wr = w)
  case atStart => rfl
  case round =>
    subst hrel
    go_wp2_with (first
      | (refine wpList_mk rfl _ _ _ rfl (base := wr.heap.size) runSlice 0 0 rfl rfl rfl (by omega) (by unfold maxLen; omega) (Nat.le_refl _) ?_; intro v1 w1 hown1 hg1; obtain ⟨A1, c1', rfl, hc1'⟩ := own_form hown1)
      | fail)
    go_ret
    exact ⟨_, rfl, own_base hown1 hbw, HLOW.out.trans ((below_make hg1).mono hbw)⟩
end Go.Proofs.Ytaiefneimjdmhaa
/- runs.counted and runs.Visual, walked. -/
namespace Go.Proofs.Ytaiefneimjdmhaa
open Go.RowKit
set_option maxRecDepth 100000 in
theorem ruCounted_any (x y : Int) (hy : heldF x = y) (w : World) : Calls Try.prog 40 #[.int .i64 x] w fun e w' => e = .returned (.int .i64 y) ∧ w = w' := by
  unfold heldF at hy
  by_cases h0 : x < 0
  · obtain rfl : 0 = y := by omega
    clear hy
    go_enter Try.func40, Try.ntmps40
    go_wp2
    go_ret
    exact ⟨rfl, rfl⟩
  · by_cases h1 : 126 < x
    · obtain rfl : 126 = y := by omega
      clear hy
      go_enter Try.func40, Try.ntmps40
      go_wp2
      go_ret
      exact ⟨rfl, rfl⟩
    · obtain rfl : x = y := by omega
      clear hy
      go_enter Try.func40, Try.ntmps40
      go_wp2
      go_ret
      exact ⟨rfl, rfl⟩
/-- As which level a run counts, by its number. -/
def lvU (L : List Rg) (i : Nat) : Nat := lvG (L.getD i rg0)
theorem lvU_le (L : List Rg) (i : Nat) : lvU L i ≤ 126 := by unfold lvU lvG heldF; omega
theorem visG_pick (L : List Rg) : visG L = pickG L (wnF (lvU L) 126 0 (List.range L.length)) := visG_at L rg0
set_option maxRecDepth 100000 in
set_option maxHeartbeats 4000000 in
theorem ruVisual_any (A : Option Addr) (n c : Nat) (ls : List Int) (w : World) (hr : Rd w 1 A n (ls.map (Value.int .i64))) (hn : n ≤ 100000) :
    Calls Try.prog 25 #[.slice A n c] w fun e w' => ∃ v, e = .returned v ∧ w'.ownsRow w.heap.size 38 3 v (logR ls n).length (cellsG (visG (logR ls n))) ∧ Below w.heap.size w w' := by
  have HLG := Lib.hid (ruLogical_any A n c ls w hr hn)
  have hql := logR_len ls n
  obtain ⟨L, hL⟩ : ∃ L, logR ls n = L := ⟨_, rfl⟩
  rw [hL] at HLG hql ⊢
  obtain ⟨q, hq⟩ : ∃ q, L.length = q := ⟨_, rfl⟩
  rw [hq] at HLG hql ⊢
  have HV := Lib.hid (visG_pick L)
  have HQ := Lib.hid hq
  have hq5 : q ≤ 100000 := by omega
  have HCO := Lib.hid ruCounted_any
  clear hr hL hq
  go_enter Try.func25, Try.ntmps25
  go_wp2_with (first
    | (go_at_call 23; refine HLG.out.mono ?_; rintro e w0 ⟨v0, rfl, hO0, hb0⟩; obtain ⟨A0, c0, rfl, hc0⟩ := own_form hO0; have HO0 := Lib.hid (Rd.of_own hO0); have HB0 := Lib.hid hb0; clear hO0 hb0)
    | (refine wpList_mkFull rfl _ _ _ rfl (base := w0.heap.size) (e := 3) (bytes := 8) (z := .int .i64 0) Try.underlying22 (by kernel_rfl) rfl (q : Int) (q : Int) q rfl rfl rfl rfl (by omega) (by unfold maxLen; omega) (Nat.le_refl _) ?_; intro w1 hown1 hg1)
    | fail)
  have hbm := below_make hg1
  have HS := Lib.hid (lnAt_new (T := 62) (E := 65) (b := w0.heap.size) (by rw [List.map_replicate]; exact hown1) hbm hbm.size)
  clear hown1 hg1 hbm
  go_loopw [15] (fun i ws => ∃ k : Nat, k ≤ q ∧ i = .int .i64 (k : Int) ∧ LnAt 62 65 NoX w0.heap.size w1.heap.size q (tnTo (lvU L) k) w0 ws) (fun i _ => q - (intOf i).toNat)
  case atStart => exact ⟨0, Nat.zero_le _, rfl, HS.out⟩
  case round =>
    obtain ⟨k, hk, rfl, hln⟩ := hrel
    have HN := Lib.hid hln
    have hbw := Nat.le_trans hln.le (Nat.le_of_lt (by obtain ⟨_, _, _, _, h, _⟩ := hln.len; exact h))
    clear hln HS
    by_cases hlt : k < q
    · obtain ⟨r, hx⟩ : ∃ r, L[k]? = some r := ⟨_, List.getElem?_eq_getElem (by rw [HQ.out]; exact hlt)⟩
      obtain ⟨ad, rfl, hab, d0, d1, d2⟩ := (HO0.out.below (HN.out.low.mono (Nat.le_refl _))).rg hx
      have hlv : heldF r.2.2 = (lvU L k : Int) := by
        unfold lvU lvG
        rw [List.getD_eq_getElem?_getD, hx]
        have := heldF_in r.2.2
        simp only [Option.getD_some]
        omega
      obtain ⟨r0, r1, r2⟩ := r
      simp only at d0 d1 d2 hlv
      have HC := Lib.hid (fun W => HCO.out r2 _ hlv W)
      have HP := Lib.hid (fun W (hl : LnAt 62 65 NoX w0.heap.size w1.heap.size q (tnTo (lvU L) k) w0 W) => ruPut_any NoX w0.heap.size w1.heap.size q (lvU L k) k (tnTo (lvU L) k) w0 W hl (by have := tnTo_len (lvU L) k; omega) hq5 (lvU_le L k) (fun h => by have := tnTo_lt (lvU L) k k h; omega) hlt)
      rw [← tnTo_next] at HP
      have HNA := Lib.hid (HN.out.below (below_new wr (.cells #[.int .i64 r0, .int .i64 r1, .int .i64 r2] 38)))
      have hcn := cells_new wr [.int .i64 r0, .int .i64 r1, .int .i64 r2] 38 2 _ rfl
      rw [addNew] at hcn
      have i1 : (k : Int) < (q : Int) := by omega
      have i2 : (0 : Int) ≤ (k : Int) := by omega
      have i3 : (q : Int) ≤ 100000 := by omega
      clear hx hlv
      go_wp2_with (first
        | (go_at_call 40; refine (HC.out _).mono ?_; rintro e w3 ⟨rfl, rfl⟩)
        | (go_at_call 39; refine (HP.out _ HNA.out).mono ?_; rintro e w4 ⟨rfl, hl3⟩)
        | fail)
      go_roundw
      case rel => exact ⟨k + 1, by omega, by go_num, hl3⟩
      case measure => simp [intOf]; omega
    · obtain rfl : k = q := by omega
      have i1 : ¬ (k : Int) < (k : Int) := by omega
      by_cases h0 : k = 0
      · subst h0
        have HP := Lib.hid (ruPick0_any NoX w0.heap.size w1.heap.size A0 c0 w0 wr HN.out)
        have HZ := Lib.hid (show visG L = [] by rw [HV.out, HQ.out]; exact congrArg (pickG L) (wn_nil _ _ _))
        go_wp2_with (first
          | (go_at_call 41; refine HP.out.mono ?_; rintro e w3 ⟨v3, rfl, ho3, hb3⟩)
          | fail)
        go_ret
        exact ⟨_, rfl, by rw [HZ.out]; exact own_base ho3 HB0.out.size, HB0.out.trans (hb3.mono HB0.out.size)⟩
      · obtain ⟨t, R, hT, hsq⟩ := tnTo_end (lv := lvU L) (n := k) (lvU_le L) (by omega)
        have HSQ := Lib.hid (show pickG L (tnEnd t R).seq = visG L by rw [hsq, HV.out, HQ.out])
        have hsl : (tnEnd t R).seq.length = k := by rw [hsq, wn_len, List.length_range]
        rw [hT] at HN
        have hRl : R.length ≤ 100000 := by have := tnTo_len (lvU L) k; rw [hT] at this; simp only [List.length_cons] at this; omega
        have HP := Lib.hid (ruPick_any NoX w1.heap.size k t R A0 c0 L w0 wr HO0.out HN.out hRl hq5 hsl)
        rw [HSQ.out] at HP
        clear hT hsq hRl h0 hsl
        go_wp2_with (first
          | (go_at_call 41; refine HP.out.mono ?_; rintro e w3 ⟨v3, rfl, ho3, hb3⟩)
          | fail)
        go_ret
        exact ⟨_, rfl, own_base ho3 HB0.out.size, HB0.out.trans (hb3.mono HB0.out.size)⟩
end Go.Proofs.Ytaiefneimjdmhaa
/- order.line's put, walked: a row follows. -/
namespace Go.Proofs.Ytaiefneimjdmhaa
open Go.RowKit
theorem orRowSlice : SliceOf Try.prog 44 50 3 24 := .mk_ (z := .agg #[.int .i64 0, .int .i64 0, .int .i64 0]) Try.underlying44 (by kernel_rfl) rfl
set_option maxRecDepth 100000 in
set_option maxHeartbeats 4000000 in
theorem orPut_any (X : Nat → Obj → Prop) (b g n v x : Nat) (R : List (TnR Nat)) (w0 w : World) (h : LnAt 46 50 X b g n R w0 w) (hm : R.length ≤ 100000) (hn : n ≤ 100000) (hv : v ≤ 126) (hx : x ∉ R.flatMap (·.seq)) (hxn : x < n) :
    Calls Try.prog 30 #[.pointer (some ⟨g, 0, none⟩), .agg #[.int .i64 (v : Int), .int .i64 (x : Int), .int .i64 (x : Int)]] w fun e w' => e = .returned (.tuple #[]) ∧ LnAt 46 50 X b g n (tnPut ⟨v, [x]⟩ R) w0 w' := by
  have hgs := h.len
  obtain ⟨gb, hgb⟩ : ∃ gb, w.heap.size = gb := ⟨_, rfl⟩
  obtain ⟨Y, hY⟩ : ∃ Y : Nat → Obj → Prop, (fun k o => X k o ∨ (k = gb ∧ o = .cells #[.int .i64 (v : Int), .int .i64 (x : Int), .int .i64 (x : Int)] 50 (0, 0))) = Y := ⟨_, rfl⟩
  have HY := Lib.hid (show ∀ k o, X k o → Y k o by intro k o hk; rw [← hY]; exact .inl hk)
  have HYB := Lib.hid (show Y gb (.cells #[.int .i64 (v : Int), .int .i64 (x : Int), .int .i64 (x : Int)] 50 (0, 0)) by rw [← hY]; exact .inr ⟨rfl, rfl⟩)
  obtain ⟨W, hW⟩ : ∃ W, w.alloc (.cells #[.int .i64 (v : Int), .int .i64 (x : Int), .int .i64 (x : Int)] 50) = W := ⟨_, rfl⟩
  have HS := Lib.hid (show LnAt 46 50 Y b g n R w0 W by
    rw [← hW]
    refine h.more (below_new w _) fun k o hk => ?_
    rw [← hY] at hk
    rcases hk with hk | ⟨rfl, rfl⟩
    · exact .inl hk
    · exact .inr ⟨by omega, by rw [← hgb]; exact heap_alloc_new w _⟩)
  have HX := Lib.hid hx
  have HV := Lib.hid hv
  clear h hY hgs hx
  go_enter Try.func30, Try.ntmps30
  go_upto_block 0 with fail
  go_cut [] (fun wx => ∃ R2, LnAt 46 50 Y b g n R2 w0 wx ∧ tnTop ⟨v, [x]⟩ R2 = tnPut ⟨v, [x]⟩ R ∧ x ∉ R2.flatMap (·.seq) ∧ R2.length ≤ 100000)
  case first =>
    go_wp2_with fail
    go_loopg [] (tnCnt v R) (fun gh wr => ∃ R2, gh = tnCnt v R2 ∧ LnAt 46 50 Y b g n R2 w0 wr ∧ tnPut ⟨v, [x]⟩ R2 = tnPut ⟨v, [x]⟩ R ∧ x ∉ R2.flatMap (·.seq) ∧ R2.length ≤ 100000)
    case atStart => exact ⟨R, rfl, HS.out, rfl, HX.out, hm⟩
    case round =>
      obtain ⟨R2, hgk, hl, hp, hx2, hm2⟩ := hrel
      have HGK := Lib.hid hgk
      have HL2 := Lib.hid hl
      have HP2 := Lib.hid hp
      have HX2 := Lib.hid hx2
      have HM2 := Lib.hid hm2
      have hbx := hl.extra HYB.out
      have d0 := hp_cell (j := 0) hbx rfl
      obtain ⟨A, c, c0, hc, hgs, fz⟩ := hl.len
      cases R2 with
      | nil =>
        have hE : tnTop ⟨v, [x]⟩ ([] : List (TnR Nat)) = tnPut ⟨v, [x]⟩ R := hp
        clear hgk hl hp hx2 hm2 hbx
        simp only [List.length_nil] at c0 hc
        go_wp2
        go_quiet (fail)
        go_wp2
        go_meet
        exact ⟨[], HL2.out.drewN nq, hE, by simp, by simp⟩
      | cons t R2 =>
        obtain ⟨lt, hlt⟩ : ∃ k : Int, (t.lev : Int) = k := ⟨_, rfl⟩
        have HQL := Lib.hid (show ∀ q, Calls Try.prog 48 #[.pointer (some ⟨g, 0, none⟩), .int .i64 0] (wr.drewN q) fun e w' => e = .returned (.int .i64 lt) ∧ ∃ m, w' = wr.drewN m by
          intro q
          have h9 := orLevel_any Y b g n (t :: R2) w0 (wr.drewN q) (hl.drewN q) 0 t rfl (by omega)
          rw [hlt] at h9
          exact h9.mono fun e w' ⟨h1, q2, h2⟩ => ⟨h1, q + q2, by rw [h2, World.drewN_drewN]⟩)
        have HLO := Lib.hid (fun q => orLower_any Y b g n v R2 t w0 (wr.drewN q) (hl.drewN q) (by simp only [List.length_cons] at hm2; omega) hn HV.out)
        simp only [List.length_cons] at c0 hc
        obtain ⟨m, hmR⟩ : ∃ m, R2.length + 1 = m := ⟨_, rfl⟩
        rw [hmR] at c0 hc
        have dg : decide (0 < m) = true := decide_eq_true (by omega)
        have i2 : (m : Int) ≤ 100002 := by simp only [List.length_cons] at hm2; omega
        by_cases hvt : v < t.lev
        · have d1 : decide ((v : Int) < lt) = true := decide_eq_true (by omega)
          have HC := Lib.hid (tnCnt_low (R := R2) hvt)
          have HPL := Lib.hid ((tnPut_low (x := x) (R := R2) hvt).trans hp)
          have HXL := Lib.hid (show x ∉ (tnLow v t R2).flatMap (·.seq) from fun hc => hx2 ((tnLow_perm (v := v) (t := t) (R := R2)).mem_iff.1 hc))
          have HML := Lib.hid (Nat.le_trans (tnLow_len (v := v) (t := t) (R := R2)) hm2)
          clear hgk hl hp hx2 hm2 hbx hlt hmR hvt
          go_wp2
          go_quiet ((go_at_call 48; exact HQL.out _))
          go_wp2_with (first
            | (go_at_call 49; refine (HLO.out _).mono ?_; rintro e w3 ⟨rfl, hl3⟩)
            | fail)
          go_roundg (tnCnt v (tnLow v t R2))
          case measure => have := HC.out; have := HGK.out; omega
          case rel => exact ⟨_, rfl, hl3, HPL.out, HXL.out, HML.out⟩
        · have d1 : decide ((v : Int) < lt) = false := decide_eq_false (by omega)
          have hE : tnTop ⟨v, [x]⟩ (t :: R2) = tnPut ⟨v, [x]⟩ R := by rw [← tnPut_top hvt]; exact hp
          have HE := Lib.hid hE
          clear hgk hl hp hx2 hm2 hbx hlt hmR hvt hE
          go_wp2
          go_quiet ((go_at_call 48; exact HQL.out _))
          go_wp2
          go_meet
          exact ⟨t :: R2, HL2.out.drewN nq, HE.out, HX2.out, HM2.out⟩
  case rest =>
    obtain ⟨R2, hl, hp, hx2, hm2⟩ := hcut
    have HP := Lib.hid hp
    have HX2 := Lib.hid hx2
    have HM2 := Lib.hid hm2
    obtain ⟨A, c, hc, hgs, hbs, c0, hown, hgrow⟩ := hl.grow
    have hbx := hl.extra HYB.out
    have d0 := hp_cell (j := 0) hbx rfl
    have d1 := hp_cell (j := 1) hbx rfl
    have d2 := hp_cell (j := 2) hbx rfl
    have HO := Lib.hid hown
    have HGR := Lib.hid hgrow
    obtain ⟨m, hmR⟩ : ∃ m, R2.length = m := ⟨_, rfl⟩
    have HMR := Lib.hid hmR
    rw [hmR] at c0 hc hm2 HO HGR
    clear hl hp hx2 hbx hown hgrow hmR HS HX
    go_upto_region 3 with fail
    go_cut [] (fun wx => LnAt 46 50 Y b g n (⟨v, [x]⟩ :: R2) w0 wx)
    case first =>
      go_wp2_with fail
      first | (go_region_law (first
        | (refine step_appR (by rfl) _ _ _ (by rfl) orRowSlice (by decide) (.slice A m c) m (cellsG (tnL R2)) (by rfl) (by first | exact HO.out.alloc _ | exact own_below HO.out (below_drew (below_new _ _) 1)) _ 1 _ [.int .i64 (v : Int), .int .i64 (x : Int), .int .i64 (x : Int)] (by rfl) (rdNewT _ _ _ _ _) (int3 _ _ _) (by omega) (by unfold maxLen; omega) (by first | exact hbs | (simp; omega)) _ rfl ?_; intro v7 w7 hown7 hg7 hat7; obtain ⟨A7, k7, rfl, hk7⟩ := own_form hown7; obtain ⟨z0, zf, z1⟩ := HGR.out _ w7 _ x v (below_drew (below_new wc _) 1) hg7 hown7 hat7 HX2.out hxn HV.out)
        | fail)) | fail
      all_goals (
        have Z1 := Lib.hid z1
        clear z1 z0 zf hown7 hg7 hat7
        go_wp2_with fail
        rename_i hJ
        refine Met.intro (hJ _ _ ?_)
        (repeat apply Exists.intro)
        refine ⟨?_, rfl⟩)
      all_goals exact Z1.out
    case rest =>
      have HL := Lib.hid hcut
      have hbx := hcut.extra HYB.out
      have d0 := hp_cell (j := 0) hbx rfl
      obtain ⟨A, c, c0, hc, hgs, fz⟩ := hcut.len
      clear d0 d1 d2
      have d0 := hp_cell (j := 0) hbx rfl
      cases R2 with
      | nil =>
        have HE := Lib.hid (show tnPut ⟨v, [x]⟩ R = [⟨v, [x]⟩] from HP.out.symm)
        simp only [List.length_cons, List.length_nil, Nat.zero_add] at c0 hc
        clear hcut hbx
        go_wp2_with fail
        go_quiet (fail)
        go_wp2
        go_end0
        exact ⟨rfl, by rw [HE.out]; exact (HL.out.drewN nq).less HY.out⟩
      | cons u R2 =>
        have hmL := HM2.out
        simp only [List.length_cons] at c0 hc hmL
        obtain ⟨lu, hlu⟩ : ∃ k : Int, (u.lev : Int) = k := ⟨_, rfl⟩
        have HQL := Lib.hid (show ∀ q, Calls Try.prog 48 #[.pointer (some ⟨g, 0, none⟩), .int .i64 1] (wc.drewN q) fun e w' => e = .returned (.int .i64 lu) ∧ ∃ m, w' = wc.drewN m by
          intro q
          have h9 := orLevel_any Y b g n (⟨v, [x]⟩ :: u :: R2) w0 (wc.drewN q) (hcut.drewN q) 1 u rfl (by simp only [List.length_cons]; omega)
          rw [hlu] at h9
          exact h9.mono fun e w' ⟨h1, q2, h2⟩ => ⟨h1, q + q2, by rw [h2, World.drewN_drewN]⟩)
        have HJO := Lib.hid (fun q => orJoin_any Y b g n R2 ⟨v, [x]⟩ u w0 (wc.drewN q) (hcut.drewN q) (by omega) hn)
        obtain ⟨p, hpR⟩ : ∃ p, R2.length + 1 + 1 = p := ⟨_, rfl⟩
        rw [hpR] at c0 hc
        have dg : decide ((1 : Int) < (p : Int)) = true := decide_eq_true (by omega)
        have i2 : (p : Int) ≤ 100002 := by omega
        by_cases hvu : u.lev = v
        · obtain rfl : lu = (v : Int) := by omega
          have HE := Lib.hid (show tnPut ⟨v, [x]⟩ R = u.join ⟨v, [x]⟩ :: R2 from HP.out.symm.trans (if_pos hvu))
          clear hcut hbx hlu hpR hvu hmL
          go_wp2_with fail
          go_quiet ((go_at_call 48; exact HQL.out _))
          go_wp2_with (first
            | (go_at_call 50; refine (HJO.out _).mono ?_; rintro e w3 ⟨rfl, hl3⟩)
            | fail)
          go_end0
          exact ⟨rfl, by rw [HE.out]; exact hl3.less HY.out⟩
        · have d1 : (lu == (v : Int)) = false := beq_eq_false_iff_ne.2 (by omega)
          have HE := Lib.hid (show tnPut ⟨v, [x]⟩ R = ⟨v, [x]⟩ :: u :: R2 from HP.out.symm.trans (if_neg hvu))
          clear hcut hbx hlu hpR hvu hmL
          go_wp2_with fail
          go_quiet ((go_at_call 48; exact HQL.out _))
          go_wp2
          go_end0
          exact ⟨rfl, by rw [HE.out]; exact (HL.out.drewN nq).less HY.out⟩
end Go.Proofs.Ytaiefneimjdmhaa
/- order.line's places, walked: all places in the order in which they are seen. -/
namespace Go.Proofs.Ytaiefneimjdmhaa
open Go.RowKit
set_option maxRecDepth 100000 in
set_option maxHeartbeats 4000000 in
theorem orPlaces_any (X : Nat → Obj → Prop) (b g n : Nat) (t : TnR Nat) (R : List (TnR Nat)) (w0 w : World) (h : LnAt 46 50 X b g n (t :: R) w0 w) (hm : R.length ≤ 100000) (hn : n ≤ 100000) (hl : (tnEnd t R).seq.length = n) (hb : b ≤ w.heap.size) :
    Calls Try.prog 32 #[.pointer (some ⟨g, 0, none⟩)] w fun e w' => ∃ v, e = .returned v ∧ w'.ownsRow b 3 1 v n (natV (tnEnd t R).seq) ∧ Below b w0 w' := by
  have HS := Lib.hid h
  obtain ⟨E, hE⟩ : ∃ E, tnEnd t R = E := ⟨_, rfl⟩
  rw [hE] at hl ⊢
  have HE0 := Lib.hid hE
  have HL := Lib.hid hl
  clear h hl hE
  go_enter Try.func32, Try.ntmps32
  go_wp2_with fail
  go_loopg [] R.length (fun gh wr => ∃ t2 R2, gh = R2.length ∧ LnAt 46 50 X b g n (t2 :: R2) w0 wr ∧ tnEnd t2 R2 = E ∧ R2.length ≤ 100000 ∧ b ≤ wr.heap.size)
  case atStart => exact ⟨t, R, rfl, HS.out, HE0.out, hm, hb⟩
  case round =>
    obtain ⟨t2, R2, hgk, hl, he, hm2, hb2⟩ := hrel
    have HGK := Lib.hid hgk
    have HL2 := Lib.hid hl
    have HE2 := Lib.hid he
    obtain ⟨A, c, c0, hc, hgs, fz⟩ := hl.len
    cases R2 with
    | cons u R2 =>
      simp only [List.length_cons] at c0 hc hm2 HGK
      have HJ := Lib.hid (orJoin_any X b g n R2 t2 u w0 wr hl (by omega) hn)
      have HE3 := Lib.hid (show tnEnd (u.join t2) R2 = E from he)
      obtain ⟨m, hmR⟩ : ∃ m, R2.length + 1 + 1 = m := ⟨_, rfl⟩
      rw [hmR] at c0 hc
      have i1 : (1 : Int) < (m : Int) := by omega
      have i2 : (m : Int) ≤ 100002 := by omega
      have hm3 : R2.length ≤ 100000 := by omega
      clear hgk hl he hmR
      go_wp2_with (first
        | (go_at_call 50; refine HJ.out.mono ?_; rintro e w3 ⟨rfl, hl3⟩; have hb3 : b ≤ w3.heap.size := (by obtain ⟨_, _, _, _, hg3, _⟩ := hl3.len; exact Nat.le_trans hl3.le (Nat.le_of_lt hg3)))
        | fail)
      go_roundg R2.length
      case measure => have := HGK.out; omega
      case rel => exact ⟨_, R2, rfl, hl3, HE3.out, hm3, hb3⟩
    | nil =>
      rename World => W0
      obtain rfl : t2 = E := he
      obtain ⟨gN, N, c1, hK, hgN, hgs2, hcN⟩ := hl.links
      obtain ⟨gR, c', hc', c0', hgR, cR⟩ := hl.first
      have HK := Lib.hid hK
      have HCN := Lib.hid hcN
      have HLOW := Lib.hid hl.low
      obtain ⟨x, y, l, m, e1, e2, e3, e4, e5, e6, e7⟩ := tn_ends (hK.ne t2 (by simp))
      rw [e3] at cR
      obtain ⟨s, hs⟩ : ∃ s, t2.seq = s := ⟨_, rfl⟩
      rw [hs] at HL e1
      have HSQ := Lib.hid hs
      have HX0 := Lib.hid (show s[0]? = some x by rw [e1]; rfl)
      have hn1 : 0 < n := by rw [← HL.out, e1]; simp
      clear hgk hl hm2 c0 hc HE2 HE0 HGK hK hcN e1 e2 e3 e4 e5 e6 e7 hs HS HL2
      go_wp2_with (first
        | (refine wpList_mkFull rfl _ _ _ rfl (base := W0.heap.size) (e := 3) (bytes := 8) (z := .int .i64 0) Try.underlying22 (by kernel_rfl) rfl (n : Int) (n : Int) n rfl rfl rfl rfl (by omega) (by unfold maxLen; omega) (Nat.le_refl _) ?_; intro w1 hown1 hg1; have hbm := below_make hg1; have c0m := cell_below hbm c0'; have cRm := cell_below hbm cR)
        | fail)
      have HO1 : Hid (w1.ownsRow W0.heap.size 3 1 (.slice (some ⟨W0.heap.size, 0, none⟩) n n) n (seenV s 0 n)) := Lib.hid (by rw [seenV_zero]; exact hown1)
      have HB1 := Lib.hid hbm
      have HC1 := Lib.hid c1
      clear hown1 hg1 hbm c1 c0m cRm cR c0'
      go_loopw [4, 33] (fun ta ti ws => ∃ (k a : Nat), k ≤ n ∧ ti = .int .i64 (k : Int) ∧ (∃ z : Int, ta = .int .i64 z ∧ (k < n → z = (a : Int))) ∧ (k < n → s[k]? = some a) ∧ ws.ownsRow W0.heap.size 3 1 (.slice (some ⟨W0.heap.size, 0, none⟩) n n) n (seenV s k n) ∧ Below W0.heap.size W0 ws) (fun _ ti _ => n - (intOf ti).toNat)
      case atStart => exact ⟨0, x, Nat.zero_le _, rfl, ⟨_, rfl, fun _ => rfl⟩, fun _ => HX0.out, HO1.out, HB1.out⟩
      case round =>
        obtain ⟨k, a, hk, rfl, ⟨z, rfl, hza⟩, hsa, hO, hBb⟩ := hrel
        have HO := Lib.hid hO
        have HB := Lib.hid hBb
        clear hO hBb HO1 HB1 HX0
        by_cases hlt : k < n
        · obtain rfl := hza hlt
          have HA := Lib.hid (hsa hlt)
          have hat : a < n := HK.out.lt a (by rw [List.flatMap_cons, HSQ.out]; exact List.mem_append_left _ (List.mem_of_getElem? HA.out))
          obtain ⟨zn, hzn⟩ : ∃ zn, N[a]? = some zn := ⟨_, List.getElem?_eq_getElem (by rw [HK.out.len]; exact hat)⟩
          have HZN := Lib.hid hzn
          have i1 : (k : Int) < (n : Int) := by omega
          have i2 : (0 : Int) ≤ (k : Int) := by omega
          have i3 : (n : Int) ≤ 100000 := by omega
          have i4 : (a : Int) < (n : Int) := by omega
          have i5 : (0 : Int) ≤ (a : Int) := by omega
          obtain ⟨⟨u, cu⟩, fu⟩ := own_slot HO.out (j := k) (by omega)
          have cl := (HB.out.cell (p := ⟨g, 1, none⟩) hgs2).trans HC1.out
          have cn := (HB.out.cell (p := ⟨gN, a, none⟩) hgN).trans (HCN.out a zn hzn)
          have hne1 : g ≠ W0.heap.size := by omega
          have hne2 : gN ≠ W0.heap.size := by omega
          have HO2 := Lib.hid ((HO.out.stored k (.int .i64 (a : Int))).1)
          rw [seenV_set HA.out hlt] at HO2
          have HB2 := Lib.hid (HB.out.setCell (p := ⟨W0.heap.size, k, none⟩) (Nat.le_refl _) (.int .i64 (a : Int)))
          clear hzn hza hsa
          go_wp2
          go_roundw
          case rel => exact ⟨k + 1, s.getD (k + 1) 0, by omega, by go_num, ⟨zn, rfl, fun h => by
            have h2 : s[k + 1]? = some (s.getD (k + 1) 0) := by rw [List.getD_eq_getElem?_getD, List.getElem?_eq_getElem (by rw [HL.out]; exact h)]; rfl
            have hc := HK.out.chn t2 (by simp)
            rw [HSQ.out] at hc
            have h3 := hc.at_ HA.out h2
            rw [HZN.out] at h3
            exact Option.some.inj h3⟩, fun h => by rw [List.getD_eq_getElem?_getD, List.getElem?_eq_getElem (by rw [HL.out]; exact h)]; rfl, HO2.out, HB2.out⟩
          case measure => simp [intOf]; omega
        · obtain rfl : k = n := by omega
          have HF := Lib.hid (seenV_all HL.out)
          rw [HF.out] at HO
          have i1 : ¬ (k : Int) < (k : Int) := by omega
          go_wp2
          go_ret
          exact ⟨_, rfl, by rw [HSQ.out]; exact own_base HO.out hb2, HLOW.out.trans (HB.out.mono hb2)⟩
set_option maxRecDepth 100000 in
set_option maxHeartbeats 2000000 in
/-- A line without places. -/
theorem orPlaces0_any (X : Nat → Obj → Prop) (b g : Nat) (w0 w : World) (h : LnAt 46 50 X b g 0 [] w0 w) :
    Calls Try.prog 32 #[.pointer (some ⟨g, 0, none⟩)] w fun e w' => ∃ v, e = .returned v ∧ w'.ownsRow b 3 1 v 0 [] ∧ Below b w0 w' := by
  obtain ⟨v, c, c0⟩ := h.none_
  obtain ⟨gN, N, c1, _, _, hgs, _⟩ := h.links
  have HLOW := Lib.hid h.low
  have hbw : b ≤ w.heap.size := Nat.le_trans h.le (Nat.le_of_lt hgs)
  clear h
  go_enter Try.func32, Try.ntmps32
  go_wp2_with fail
  go_loopg [] 0 (fun gh wr => wr = w)
  case atStart => rfl
  case round =>
    subst hrel
    go_wp2_with (first
      | (refine wpList_mkFull rfl _ _ _ rfl (base := wr.heap.size) (e := 3) (bytes := 8) (z := .int .i64 0) Try.underlying22 (by kernel_rfl) rfl 0 0 0 rfl rfl rfl rfl (by omega) (by unfold maxLen; omega) (Nat.le_refl _) ?_; intro w1 hown1 hg1)
      | fail)
    go_ret
    exact ⟨_, rfl, own_base hown1 hbw, HLOW.out.trans ((below_make hg1).mono hbw)⟩
end Go.Proofs.Ytaiefneimjdmhaa
/- order's counted and Visual, walked. -/
namespace Go.Proofs.Ytaiefneimjdmhaa
open Go.RowKit
set_option maxRecDepth 100000 in
theorem orCounted_any (x y : Int) (hy : heldF x = y) (w : World) : Calls Try.prog 31 #[.int .i64 x] w fun e w' => e = .returned (.int .i64 y) ∧ w = w' := by
  unfold heldF at hy
  by_cases h0 : x < 0
  · obtain rfl : 0 = y := by omega
    clear hy
    go_enter Try.func31, Try.ntmps31
    go_wp2
    go_ret
    exact ⟨rfl, rfl⟩
  · by_cases h1 : 126 < x
    · obtain rfl : 126 = y := by omega
      clear hy
      go_enter Try.func31, Try.ntmps31
      go_wp2
      go_ret
      exact ⟨rfl, rfl⟩
    · obtain rfl : x = y := by omega
      clear hy
      go_enter Try.func31, Try.ntmps31
      go_wp2
      go_ret
      exact ⟨rfl, rfl⟩
set_option maxRecDepth 100000 in
set_option maxHeartbeats 4000000 in
theorem orVisual_any (A : Option Addr) (n c : Nat) (ls : List Int) (w : World) (hr : Rd w 1 A n (ls.map (Value.int .i64))) (hn : n ≤ 100000) :
    Calls Try.prog 11 #[.slice A n c] w fun e w' => ∃ v, e = .returned v ∧ w'.ownsRow w.heap.size 3 1 v n (natV (visF ls)) ∧ Below w.heap.size w w' := by
  have hl : ls.length = n := by simpa using hr.len1
  have HL := Lib.hid hl
  have HR := Lib.hid hr
  have HV := Lib.hid (vis_tn ls)
  have HVL := Lib.hid ((vis_len ls).trans hl)
  have HCO := Lib.hid orCounted_any
  clear hl hr
  go_enter Try.func11, Try.ntmps11
  go_wp2_with (first
    | (refine wpList_mkFull rfl _ _ _ rfl (base := w.heap.size) (e := 3) (bytes := 8) (z := .int .i64 0) Try.underlying22 (by kernel_rfl) rfl (n : Int) (n : Int) n rfl rfl rfl rfl (by omega) (by unfold maxLen; omega) (Nat.le_refl _) ?_; intro w1 hown1 hg1)
    | fail)
  have hbm := below_make hg1
  have HS := Lib.hid (lnAt_new (T := 46) (E := 50) (b := w.heap.size) (by rw [List.map_replicate]; exact hown1) hbm hbm.size)
  clear hown1 hg1 hbm
  go_loopw [12] (fun i ws => ∃ k : Nat, k ≤ n ∧ i = .int .i64 (k : Int) ∧ LnAt 46 50 NoX w.heap.size w1.heap.size n (tnTo (lvO ls) k) w ws) (fun i _ => n - (intOf i).toNat)
  case atStart => exact ⟨0, Nat.zero_le _, rfl, HS.out⟩
  case round =>
    obtain ⟨k, hk, rfl, hln⟩ := hrel
    have HN := Lib.hid hln
    have hbw := Nat.le_trans hln.le (Nat.le_of_lt (by obtain ⟨_, _, _, _, h, _⟩ := hln.len; exact h))
    clear hln HS
    by_cases hlt : k < n
    · obtain ⟨x, hx⟩ : ∃ x, ls[k]? = some x := ⟨_, List.getElem?_eq_getElem (by rw [HL.out]; exact hlt)⟩
      obtain ⟨ad, rfl, hab, hcell⟩ := (HR.out.below (HN.out.low.mono (Nat.le_refl _))).at_ hlt
      have cx : wr.cell? (ad.add k) = some (.int .i64 x) := hcell _ (by rw [List.getElem?_map, hx]; rfl)
      have hlv : heldF x = (lvO ls k : Int) := by
        unfold lvO
        rw [List.getD_eq_getElem?_getD, hx]
        have := heldF_in x
        simp only [Option.getD_some]
        omega
      have HC := Lib.hid (fun W => HCO.out x _ hlv W)
      have HP := Lib.hid (orPut_any NoX w.heap.size w1.heap.size n (lvO ls k) k (tnTo (lvO ls) k) w wr HN.out (by have := tnTo_len (lvO ls) k; omega) hn (lvO_le ls k) (fun h => by have := tnTo_lt (lvO ls) k k h; omega) hlt)
      rw [← tnTo_next] at HP
      have i1 : (k : Int) < (n : Int) := by omega
      have i2 : (0 : Int) ≤ (k : Int) := by omega
      have i3 : (n : Int) ≤ 100000 := by omega
      clear hx hcell hlv
      go_wp2_with (first
        | (go_at_call 31; refine (HC.out _).mono ?_; rintro e w3 ⟨rfl, rfl⟩)
        | (go_at_call 30; refine HP.out.mono ?_; rintro e w3 ⟨rfl, hl3⟩)
        | fail)
      go_roundw
      case rel => exact ⟨k + 1, by omega, by go_num, hl3⟩
      case measure => simp [intOf]; omega
    · obtain rfl : k = n := by omega
      have i1 : ¬ (k : Int) < (k : Int) := by omega
      by_cases h0 : k = 0
      · subst h0
        have HP := Lib.hid (orPlaces0_any NoX w.heap.size w1.heap.size w wr HN.out)
        have HZ := Lib.hid (show natV (visF ls) = [] from List.eq_nil_of_length_eq_zero (by rw [natV_len]; exact HVL.out))
        go_wp2_with (first
          | (go_at_call 32; refine HP.out.mono ?_; rintro e w3 ⟨v3, rfl, ho3, hb3⟩)
          | fail)
        go_ret
        exact ⟨_, rfl, by rw [HZ.out]; exact ho3, hb3⟩
      · obtain ⟨t, R, hT, hq⟩ := tnTo_end (lv := lvO ls) (n := k) (lvO_le ls) (by omega)
        have HQ := Lib.hid (hq.trans (by rw [HV.out, HL.out] : wnF (lvO ls) 126 0 (List.range k) = visF ls))
        rw [hT] at HN
        have hRl : R.length ≤ 100000 := by have := tnTo_len (lvO ls) k; rw [hT] at this; simp only [List.length_cons] at this; omega
        have HP := Lib.hid (orPlaces_any NoX w.heap.size w1.heap.size k t R w wr HN.out hRl hn (by rw [HQ.out]; exact HVL.out) hbw)
        rw [HQ.out] at HP
        clear hT hq hRl h0
        go_wp2_with (first
          | (go_at_call 32; refine HP.out.mono ?_; rintro e w3 ⟨v3, rfl, ho3, hb3⟩)
          | fail)
        go_ret
        exact ⟨_, rfl, ho3, hb3⟩
end Go.Proofs.Ytaiefneimjdmhaa
/- naskhlaw29.awake; what order.Visual and the reference answer, as numbers. -/
namespace Go.Proofs.Ytaiefneimjdmhaa
open Go.RowKit

/-- In which order places are seen, as numbers. -/
def visI (ls : List Int) : List Int := (visF ls).map fun i => ((i : Nat) : Int)
theorem visI_len (ls : List Int) : (visI ls).length = ls.length := by unfold visI; rw [List.length_map, vis_len]
theorem visI_perm (ls : List Int) : permB (visI ls) = true := by
  have hp := vis_perm ls
  apply decide_eq_true
  refine ⟨fun x hx => ?_, ?_⟩
  · obtain ⟨i, hi, rfl⟩ := List.mem_map.1 hx
    have := List.mem_range.1 (hp.mem_iff.1 hi)
    rw [visI_len]
    omega
  · unfold visI
    rw [List.Nodup, List.pairwise_map]
    exact ((hp.nodup_iff.2 List.nodup_range) : (visF ls).Nodup).imp (fun {a b} h e => h (by omega))
theorem visI_nat (ls : List Int) : natL (visI ls) = visF ls := by
  unfold natL visI
  rw [List.map_map]
  exact List.map_id'' (fun x => by simp) _
theorem orVis_any (A : Option Addr) (n c : Nat) (ls : List Int) (w : World) (hr : Rd w 1 A n (ls.map (Value.int .i64))) (hn : n ≤ 100000) :
    Calls Try.prog 11 #[.slice A n c] w fun e w' => ∃ v, e = .returned v ∧ w'.ownsRow w.heap.size 3 1 v n ((visI ls).map (Value.int .i64)) ∧ Below w.heap.size w w' := by
  have := orVisual_any A n c ls w hr hn
  rw [natV_ints] at this
  exact this
theorem roVis_any (A : Option Addr) (n c : Nat) (ls : List Int) (w : World) (hr : Rd w 1 A n (ls.map (Value.int .i64))) (hn : n ≤ 100000) :
    Calls Try.prog 13 #[.slice A n c] w fun e w' => ∃ v, e = .returned v ∧ w'.ownsRow w.heap.size 3 1 v n ((visI ls).map (Value.int .i64)) ∧ Below w.heap.size w w' := by
  have h := roVisual_any A n c ls w hr hn
  have e : nV (visF ls) = (visI ls).map (Value.int .i64) := by unfold nV visI; rw [List.map_map]; rfl
  rw [e] at h
  exact h
theorem or_awake : visI [0, 1, 1, 0] = [0, 2, 1, 3] := by decide +kernel
theorem or_awake2 : permB [1, 0] = true := by decide +kernel
set_option maxRecDepth 100000 in
set_option maxHeartbeats 2000000 in
theorem awakeOr_any (w : World) : Calls Try.prog 10 #[] w fun e w' => e = .returned (.bool true) ∧ Below w.heap.size w w' := by
  have HV := Lib.hid (orVis_any (some ⟨w.heap.size, 0, none⟩) 4 4 [0, 1, 1, 0] _ (Rd.new_ w [.int .i64 0, .int .i64 1, .int .i64 1, .int .i64 0] 3) (by omega))
  rw [or_awake] at HV
  have HP := Lib.hid (fun W => orPermutes_any (some ⟨W.heap.size, 0, none⟩) 2 2 [1, 0] _ (Rd.new_ W [.int .i64 1, .int .i64 0] 3) (by omega))
  rw [or_awake2] at HP
  have HB1 := Lib.hid (below_new w (.cells #[.int .i64 0, .int .i64 1, .int .i64 1, .int .i64 0] 3))
  go_enter Try.func10, Try.ntmps10
  go_wp2_with (first
    | (go_at_call 11; refine HV.out.mono ?_; rintro e w3 ⟨v3, rfl, hv3, hb3⟩; obtain ⟨A3, c3, he3, _⟩ := own_form hv3; subst he3; have HV3 := Lib.hid hv3; have HB3 := Lib.hid (below_self HB1.out hb3); clear hv3 hb3)
    | (go_at_call 12; refine (equalInt_b A3 (some ⟨w3.heap.size, 0, none⟩) 4 4 c3 4 [0, 2, 1, 3] [0, 2, 1, 3] (w3.alloc (.cells #[.int .i64 0, .int .i64 2, .int .i64 1, .int .i64 3] 3)) ((Rd.of_own HV3.out).alloc _) (Rd.new_ w3 [.int .i64 0, .int .i64 2, .int .i64 1, .int .i64 3] _) (by unfold maxLen; omega) (by unfold maxLen; omega)).mono ?_; rintro e w5 ⟨rfl, hb5⟩; have HB5 := Lib.hid (below_self HB3.out (below_self (below_new w3 _) hb5)); clear hb5)
    | (go_at_call 14; refine (HP.out _).mono ?_; rintro e w6 ⟨rfl, hb6⟩; have HB6 := Lib.hid (below_self HB5.out (below_self (below_new w5 _) hb6)); clear hb6)
    | fail)
  go_ret
  exact ⟨rfl, HB6.out⟩
end Go.Proofs.Ytaiefneimjdmhaa
/- naskhlaw30.RunsOrder. -/
namespace Go.Proofs.Ytaiefneimjdmhaa
open Go.RowKit
theorem ordI_len : ∀ l : List Rg, (∀ r ∈ l, rightB (r.1, r.2.1) = true → r.2.1 ≤ 1000) → (ordI l).length ≤ 1000 * l.length
  | [], _ => by simp [ordI]
  | r :: l, h => by
    have h1 := plI_len r (h r (by simp))
    have h2 := ordI_len l fun x hx => h x (by simp [hx])
    have e : ordI (r :: l) = plI r ++ ordI l := by simp [ordI]
    rw [e, List.length_append, List.length_cons]
    omega
theorem visG_small {ls : List Int} (h : ls.length ≤ 200) : ∀ r ∈ visG (logR ls ls.length), rightB (r.1, r.2.1) = true → r.2.1 ≤ 1000 := by
  intro r hr _
  have hr := (visG_perm _).mem_iff.1 hr
  have := (parts_mem (log_ok ls ls.length).parts).2 (r.1, r.2.1) (List.mem_map.2 ⟨r, hr, rfl⟩)
  have := this.2.2
  simp only at this
  omega
set_option maxRecDepth 100000 in
set_option maxHeartbeats 2000000 in
theorem runsOrder_any (A B : Option Addr) (n c m d : Nat) (ls : List Int) (l : List Rg) (w : World) (hr : Rd w 1 A n (ls.map (Value.int .i64))) (hs : Rd w 3 B m (cellsG l)) (hn : n ≤ maxLen) (hm : m ≤ maxLen) :
    Calls Try.prog 8 #[.slice A n c, .slice B m d] w fun e w' => e = .returned (.bool true) ∧ Below w.heap.size w w' := by
  unfold maxLen at hn hm
  have HAW := Lib.hid awakeRu_any
  by_cases hn3 : 200 < n
  · have g1 : (200 : Int) < (n : Int) := by omega
    clear hr hs
    go_enter Try.func8, Try.ntmps8
    go_wp2_with (first
      | (go_at_call 21; refine (HAW.out _).mono ?_; rintro e w1 ⟨rfl, hb1⟩)
      | fail)
    go_ret
    exact ⟨rfl, hb1⟩
  · have g1 : ¬ (200 : Int) < (n : Int) := by omega
    have hl := hs.lenG
    have hl2 : ls.length = n := by simpa using hr.len1
    have HL := Lib.hid hl
    have HL2 := Lib.hid hl2
    have HR := Lib.hid hr
    have HS := Lib.hid hs
    clear hr hs hl hl2
    go_enter Try.func8, Try.ntmps8
    go_wp2_with fail
    go_loopw [15] (fun t wr => ∃ i : Nat, i ≤ m ∧ i ≤ 100 ∧ t = .int .i64 (i : Int) ∧ (∀ r ∈ l.take i, rightB (r.1, r.2.1) = true → r.2.1 ≤ 1000) ∧ Below w.heap.size w wr) (fun t _ => m - (intOf t).toNat)
    case atStart => exact ⟨0, Nat.zero_le _, by omega, rfl, by simp, Below.refl _ _⟩
    case round =>
      obtain ⟨i, hi, hi100, rfl, hall, hB⟩ := hrel
      have HA := Lib.hid hall
      have HB := Lib.hid hB
      clear hall hB
      have hsz := HB.out.size
      by_cases hlt : i < m
      · obtain ⟨r, hrr⟩ : ∃ r, l[i]? = some r := ⟨_, List.getElem?_eq_getElem (by rw [HL.out]; exact hlt)⟩
        have HT := Lib.hid (show l.take (i + 1) = l.take i ++ [r] by rw [List.take_add_one, hrr]; rfl)
        obtain ⟨ad, rfl, hab, d0, d1, d2⟩ := HS.out.rg hrr
        have c0 := cell_below HB.out d0
        have c1 := cell_below HB.out d1
        have c2 := cell_below HB.out d2
        obtain ⟨lo, hh, lev⟩ := r
        simp only at c0 c1 c2
        have HBA := Lib.hid (HB.out.alloc hsz (.cells #[.int .i64 lo, .int .i64 hh, .int .i64 lev] 38))
        have hcn := cells_new wr [.int .i64 lo, .int .i64 hh, .int .i64 lev] 38
        have n0 := hcn 0 _ rfl
        have n1 := hcn 1 _ rfl
        rw [addNew] at n0 n1
        have hin : (i : Int) < (m : Int) := by omega
        have hi0 : (0 : Int) ≤ (i : Int) := by omega
        have hi5 : (i : Int) ≤ 100 := by omega
        have HAW2 := Lib.hid (fun W (hB : Below w.heap.size w W) => (HAW.out W).mono (fun e w' ⟨h1, h2⟩ => ⟨h1, hB.trans (h2.mono hB.size)⟩ : ∀ e w', _ → e = .returned (.bool true) ∧ Below w.heap.size w w'))
        clear hrr d0 d1 d2 hcn
        by_cases h100 : i = 100
        · have d5 : decide ((100 : Int) ≤ (i : Int)) = true := decide_eq_true (by omega)
          clear HAW h100
          go_wp2_with (first
            | (go_at_call 21; refine (HAW2.out _ HBA.out).mono ?_; rintro e w3 ⟨rfl, hb3⟩)
            | fail)
          go_ret
          exact ⟨rfl, hb3⟩
        · have d5 : decide ((100 : Int) ≤ (i : Int)) = false := decide_eq_false (by omega)
          by_cases h1 : 300 < hh
          · have e1 : decide ((300 : Int) < hh) = true := decide_eq_true h1
            by_cases h2 : 0 ≤ lo
            · have e2 : decide ((0 : Int) ≤ lo) = true := decide_eq_true h2
              by_cases h3 : lo < hh
              · have e3 : decide (lo < hh) = true := decide_eq_true h3
                clear HAW
                go_wp2_with (first
                  | (go_at_call 21; refine (HAW2.out _ HBA.out).mono ?_; rintro e w3 ⟨rfl, hb3⟩)
                  | fail)
                go_ret
                exact ⟨rfl, hb3⟩
              · have e3 : decide (lo < hh) = false := decide_eq_false h3
                have HN := Lib.hid (show ∀ r ∈ l.take (i + 1), rightB (r.1, r.2.1) = true → r.2.1 ≤ 1000 by
                  intro r hr hrt
                  rw [HT.out] at hr
                  rcases List.mem_append.1 hr with hr | hr
                  · exact HA.out r hr hrt
                  · simp at hr; subst hr
                    have hr' : 0 ≤ lo ∧ lo < hh := by simpa [rightB] using hrt
                    exact absurd hr'.2 h3)
                clear h1 h2 h3
                go_wp2
                go_roundw
                case rel => exact ⟨i + 1, by omega, by omega, by go_num, HN.out, HBA.out⟩
                case measure => simp [intOf]; omega
            · have e2 : decide ((0 : Int) ≤ lo) = false := decide_eq_false h2
              have HN := Lib.hid (show ∀ r ∈ l.take (i + 1), rightB (r.1, r.2.1) = true → r.2.1 ≤ 1000 by
                intro r hr hrt
                rw [HT.out] at hr
                rcases List.mem_append.1 hr with hr | hr
                · exact HA.out r hr hrt
                · simp at hr; subst hr
                  have hr' : 0 ≤ lo ∧ lo < hh := by simpa [rightB] using hrt
                  exact absurd hr'.1 h2)
              clear h1 h2
              go_wp2
              go_roundw
              case rel => exact ⟨i + 1, by omega, by omega, by go_num, HN.out, HBA.out⟩
              case measure => simp [intOf]; omega
          · have e1 : decide ((300 : Int) < hh) = false := decide_eq_false h1
            have HN := Lib.hid (show ∀ r ∈ l.take (i + 1), rightB (r.1, r.2.1) = true → r.2.1 ≤ 1000 by
              intro r hr hrt
              rw [HT.out] at hr
              rcases List.mem_append.1 hr with hr | hr
              · exact HA.out r hr hrt
              · simp at hr; subst hr
                simp only
                omega)
            clear h1
            go_wp2
            go_roundw
            case rel => exact ⟨i + 1, by omega, by omega, by go_num, HN.out, HBA.out⟩
            case measure => simp [intOf]; omega
      · obtain rfl : i = m := by omega
        have HZ := Lib.hid (show l.take i = l from List.take_of_length_le (by rw [HL.out]; exact Nat.le_refl _))
        rw [HZ.out] at HA
        have hql := ordI_len l HA.out
        rw [HL.out] at hql
        have H1 := Lib.hid (ruOrder_any B i d l wr (HS.out.below HB.out) (by omega) HA.out)
        have H2 := Lib.hid (fun W (hB : Below wr.heap.size wr W) => roOrder_any B i d l W ((HS.out.below HB.out).below hB) (by omega) HA.out)
        obtain ⟨O, hO⟩ : ∃ O, ordI l = O := ⟨_, rfl⟩
        rw [hO] at hql H1 H2
        obtain ⟨q, hq⟩ : ∃ q, O.length = q := ⟨_, rfl⟩
        rw [hq] at hql H1 H2
        have HAW2 := Lib.hid (fun W (hB : Below w.heap.size w W) => (HAW.out W).mono (fun e w' ⟨h1, h2⟩ => ⟨h1, hB.trans (h2.mono hB.size)⟩ : ∀ e w', _ → e = .returned (.bool true) ∧ Below w.heap.size w w'))
        clear hO hq HZ HAW
        go_wp2_with (first
          | (go_at_call 27; refine H1.out.mono ?_; rintro e w1 ⟨v1, rfl, hv1, hb1⟩; obtain ⟨A1, c1, he1, _⟩ := own_form hv1; subst he1; have HR1 := Lib.hid (Rd.of_own hv1); have HB1 := Lib.hid hb1; clear hv1 hb1)
          | (go_at_call 28; refine (H2.out _ HB1.out).mono ?_; rintro e w2 ⟨v2, rfl, hv2, hb2⟩; obtain ⟨A2, c2, he2, _⟩ := own_form hv2; subst he2; have HR2 := Lib.hid (Rd.of_own hv2); have HR12 := Lib.hid (HR1.out.below hb2); have HB2 := Lib.hid (below_self HB1.out hb2); clear hv2 hb2)
          | (go_at_call 12; with_reducible refine (equalInt_b A1 A2 q q c1 c2 O O w2 HR12.out HR2.out (by unfold maxLen; omega) (by unfold maxLen; omega)).mono ?_; rintro e w3 ⟨rfl, hb3⟩; rw [decide_eq_true rfl]; have HB3 := Lib.hid (HB.out.trans ((below_self HB2.out hb3).mono hsz)); clear hb3)
          | fail)
        rename World => W3
        go_loopw [53] (fun t ws => ∃ k : Nat, k ≤ n ∧ t = .int .i64 (k : Int) ∧ (∀ x ∈ ls.take k, 0 ≤ x ∧ x ≤ 126) ∧ ws = W3) (fun t _ => n - (intOf t).toNat)
        case atStart => exact ⟨0, Nat.zero_le _, rfl, by simp, rfl⟩
        case round =>
          obtain ⟨k, hk, rfl, hall, rfl⟩ := hrel
          have HK := Lib.hid hall
          clear hall
          by_cases hkn : k < n
          · obtain ⟨x, hx⟩ : ∃ x, ls[k]? = some x := ⟨_, List.getElem?_eq_getElem (by rw [HL2.out]; exact hkn)⟩
            obtain ⟨ad, rfl, hab, hcell⟩ := (HR.out.below HB3.out).at_ hkn
            have cx := hcell (.int .i64 x) (by rw [List.getElem?_map, hx]; rfl)
            have HT := Lib.hid (show ls.take (k + 1) = ls.take k ++ [x] by rw [List.take_add_one, hx]; rfl)
            have j1 : (k : Int) < (n : Int) := by omega
            have j2 : (0 : Int) ≤ (k : Int) := by omega
            have j3 : (k : Int) ≤ 200 := by omega
            clear hx hcell
            by_cases h1 : x < 0
            · have e1 : decide (x < 0) = true := decide_eq_true h1
              clear h1
              go_wp2_with (first
                | (go_at_call 21; refine (HAW2.out _ HB3.out).mono ?_; rintro e w5 ⟨rfl, hb5⟩)
                | fail)
              go_ret
              exact ⟨rfl, hb5⟩
            · have e1 : decide (x < 0) = false := decide_eq_false h1
              by_cases h2 : 126 < x
              · have e2 : decide (126 < x) = true := decide_eq_true h2
                clear h1 h2
                go_wp2_with (first
                  | (go_at_call 21; refine (HAW2.out _ HB3.out).mono ?_; rintro e w5 ⟨rfl, hb5⟩)
                  | fail)
                go_ret
                exact ⟨rfl, hb5⟩
              · have e2 : decide (126 < x) = false := decide_eq_false h2
                have HN := Lib.hid (show ∀ y ∈ ls.take (k + 1), 0 ≤ y ∧ y ≤ 126 by
                  intro y hy
                  rw [HT.out] at hy
                  rcases List.mem_append.1 hy with hy | hy
                  · exact HK.out y hy
                  · simp at hy; subst hy; omega)
                clear h1 h2
                go_wp2
                go_roundw
                case rel => exact ⟨k + 1, by omega, by go_num, HN.out, by first | rfl | trivial⟩
                case measure => simp [intOf]; omega
          · obtain rfl : k = n := by omega
            have hin : ∀ x ∈ ls, 0 ≤ x ∧ x ≤ 126 := by
              have h9 := HK.out
              rw [List.take_of_length_le (by rw [HL2.out]; exact Nat.le_refl _)] at h9
              exact h9
            have hro := runs_order hin
            have hsm := visG_small (ls := ls) (by rw [HL2.out]; omega)
            rw [HL2.out] at hro hsm
            have hvl := (visG_perm (logR ls k)).length_eq
            have hql2 := logR_len ls k
            have H3 := Lib.hid (ruVisual_any A k c ls wr (HR.out.below HB3.out) (by omega))
            have H5 := Lib.hid (fun W (hB : Below w.heap.size w W) => orVis_any A k c ls W (HR.out.below hB) (by omega))
            rw [← hvl] at H3
            obtain ⟨V, hV⟩ : ∃ V, visG (logR ls k) = V := ⟨_, rfl⟩
            rw [hV] at hro hsm hvl H3
            obtain ⟨p, hp⟩ : ∃ p, V.length = p := ⟨_, rfl⟩
            rw [hp] at hvl H3
            have H4 := Lib.hid (fun (A1 : Option Addr) (c1 : Nat) (W : World) (h : Rd W 3 A1 p (cellsG V)) => ruOrder_any A1 p c1 V W h (by omega) hsm)
            have hvi : (visF ls).map (fun i => ((i : Nat) : Int)) = visI ls := rfl
            rw [hro, hvi] at H4
            have hil := visI_len ls
            rw [HL2.out] at hil
            simp only [hil] at H4
            obtain ⟨Z, hZ⟩ : ∃ Z, visI ls = Z := ⟨_, rfl⟩
            rw [hZ] at H4 H5
            have j1 : ¬ (k : Int) < (k : Int) := by omega
            clear hin hro hsm hvl hV hp hvi hil hZ hkn H1 H2
            go_wp2_with (first
              | (go_at_call 25; refine H3.out.mono ?_; rintro e w5 ⟨v5, rfl, hv5, hb5⟩; obtain ⟨A5, c5, he5, _⟩ := own_form hv5; subst he5; have HR5 := Lib.hid (Rd.of_own hv5); have HB5 := Lib.hid (HB3.out.trans (hb5.mono HB3.out.size)); clear hv5 hb5)
              | (go_at_call 27; with_reducible refine (H4.out A5 c5 w5 HR5.out).mono ?_; rintro e w6 ⟨v6, rfl, hv6, hb6⟩; obtain ⟨A6, c6, he6, _⟩ := own_form hv6; subst he6; have HR6 := Lib.hid (Rd.of_own hv6); have HB6 := Lib.hid (HB5.out.trans (hb6.mono HB5.out.size)); clear hv6 hb6)
              | (go_at_call 11; refine (H5.out _ HB6.out).mono ?_; rintro e w7 ⟨v7, rfl, hv7, hb7⟩; obtain ⟨A7, c7, he7, _⟩ := own_form hv7; subst he7; have HR7 := Lib.hid (Rd.of_own hv7); have HR67 := Lib.hid (HR6.out.below hb7); have HB7 := Lib.hid (HB6.out.trans (hb7.mono HB6.out.size)); clear hv7 hb7)
              | (go_at_call 12; with_reducible refine (equalInt_b A6 A7 k k c6 c7 Z Z w7 HR67.out HR7.out (by unfold maxLen; omega) (by unfold maxLen; omega)).mono ?_; rintro e w8 ⟨rfl, hb8⟩; rw [decide_eq_true rfl]; have HB8 := Lib.hid (HB7.out.trans (hb8.mono HB7.out.size)); clear hb8)
              | (go_at_call 21; refine (HAW2.out _ HB8.out).mono ?_; rintro e w9 ⟨rfl, hb9⟩)
              | fail)
            go_ret
            exact ⟨rfl, hb9⟩
end Go.Proofs.Ytaiefneimjdmhaa
