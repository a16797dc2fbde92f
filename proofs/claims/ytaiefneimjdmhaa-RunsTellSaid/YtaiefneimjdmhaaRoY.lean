/- naskhref30's Visual: runs as they are seen, walked. -/
import Derived.Test.YtaiefneimjdmhaaRoS
import Derived.Test.YtaiefneimjdmhaaRoL
import Derived.Test.YtaiefneimjdmhaaRoH
import Derived.Test.YtaiefneimjdmhaaTgD
import Derived.BigRegion
import Derived.BigQuiet
import Derived.Test.YtaiefneimjdmhaaVgD
namespace Go.Proofs.Ytaiefneimjdmhaa
open Go.RowKit
theorem lowS_low (m x : Int) (hm : 0 ≤ m ∧ m ≤ 126) (hx : 0 ≤ x ∧ x ≤ 126) : 0 ≤ lowS m x ∧ lowS m x ≤ 126 := lowS_in hm hx
set_option maxRecDepth 100000 in
set_option maxHeartbeats 4000000 in
theorem roVisG_any (A : Option Addr) (n c : Nat) (ls : List Int) (w : World) (hr : Rd w 1 A n (ls.map (Value.int .i64))) (hn : n ≤ 100000) :
    Calls Try.prog 26 #[.slice A n c] w fun e w' => ∃ v, e = .returned v ∧ w'.ownsRow w.heap.size 38 3 v (logR ls n).length (cellsG (visG (logR ls n))) ∧ Below w.heap.size w w' := by
  have HLG := Lib.hid (roLogical_any A n c ls w hr hn)
  have hql := logR_len ls n
  obtain ⟨R0, hR0⟩ : ∃ R0, logR ls n = R0 := ⟨_, rfl⟩
  rw [hR0] at HLG hql ⊢
  obtain ⟨q, hq⟩ : ∃ q, R0.length = q := ⟨_, rfl⟩
  have HQ := Lib.hid hq
  rw [hq] at HLG hql ⊢
  have hq5 : q ≤ 100000 := by omega
  obtain ⟨low, hlow⟩ : ∃ low, lowF R0 = low := ⟨_, rfl⟩
  have hli : 0 ≤ low ∧ low ≤ 126 := by rw [← hlow]; exact lowF_in R0
  obtain ⟨T, hT⟩ : ∃ T, visG R0 = T := ⟨_, rfl⟩
  have HT := Lib.hid (show (if 0 < low then visGA low 126 R0 else R0) = T by rw [← hT, ← hlow]; rfl)
  have HLO := Lib.hid hlow
  rw [hT]
  clear hr hR0 hq hlow hT hql
  go_enter Try.func26, Try.ntmps26
  go_wp2_with (first
    | (go_at_call 24; refine HLG.out.mono ?_; rintro e w1 ⟨v1, rfl, hO1, hb1⟩; obtain ⟨A1, c1, rfl, hc1⟩ := own_form hO1; have HO1 := Lib.hid hO1; have HB1 := Lib.hid hb1; have HLE := Lib.hid (roLeast_any A1 q c1 R0 w1 (Rd.of_own hO1) hq5); rw [HLO.out] at HLE; clear hO1 hb1)
    | (go_at_call 42; refine HLE.out.mono ?_; rintro e w2 ⟨rfl, q1, hw2⟩; have HO2 := Lib.hid (own_below HO1.out (drewBelow q1)); have HB2 := Lib.hid (below_drew HB1.out q1); rw [← hw2] at HO2 HB2; clear hw2)
    | fail)
  clear HLE HO1 HB1 HLG
  go_loopw [5] (fun t wi => ∃ (v : Nat) (R : List Rg), v ≤ 126 ∧ t = .int .i64 (v : Int) ∧ (if 0 < low then visGA low v R else R) = T ∧ wi.ownsRow w.heap.size 38 3 (.slice A1 q c1) q (cellsG R) ∧ Below w.heap.size w wi) (fun t _ => (intOf t).toNat)
  case atStart => exact ⟨126, R0, Nat.le_refl _, rfl, HT.out, HO2.out, HB2.out⟩
  case round =>
    clear HO2 HB2 HT
    obtain ⟨v, R, hv, rfl, hvis, hO, hB⟩ := hrel
    have HVI := Lib.hid hvis
    have HO := Lib.hid hO
    have HB := Lib.hid hB
    clear hvis hO hB
    by_cases h0 : 0 < low
    · rw [if_pos h0] at HVI
      by_cases hvl : low ≤ (v : Int)
      · obtain ⟨v, rfl⟩ : ∃ v', v = v' + 1 := ⟨v - 1, by omega⟩
        rw [visGA_go hvl] at HVI
        obtain ⟨V, hV⟩ : ∃ V : Int, ((v + 1 : Nat) : Int) = V := ⟨_, rfl⟩
        have HVV := Lib.hid hV
        rw [hV]
        obtain ⟨p, hp⟩ : ∃ p : Rg → Bool, (fun r : Rg => decide (V ≤ heldF r.2.2)) = p := ⟨_, rfl⟩
        rw [hV, hp] at HVI
        rw [hV] at hvl
        have HP := Lib.hid hp
        have hv2 : V ≤ 126 := by omega
        have hv0 : 0 < V := by omega
        have hRl : R.length = q := by have := HO.out.1; rw [cellsG_len] at this; omega
        have HRL := Lib.hid hRl
        clear hp hV hRl
        go_wp2
        go_loopw [6] (fun t wj => ∃ a r : List Rg, t = .int .i64 (a.length : Nat) ∧ a.length + r.length = q ∧ visGA low v (tgF true p a r) = T ∧ wj.ownsRow w.heap.size 38 3 (.slice A1 q c1) q (cellsG (a ++ r)) ∧ Below w.heap.size w wj) (fun t _ => q - (intOf t).toNat)
        case atStart => exact ⟨[], R, rfl, by simpa using HRL.out, HVI.out, HO.out, HB.out⟩
        case round =>
          obtain ⟨a, r, rfl, hlr, hvis, hO, hB⟩ := hrel
          have HVI2 := Lib.hid hvis
          have HO3 := Lib.hid hO
          have HB3 := Lib.hid hB
          clear hvis hO hB HVI HO HB HRL
          obtain ⟨la, hla⟩ : ∃ la, a.length = la := ⟨_, rfl⟩
          have HLA := Lib.hid hla
          rw [hla] at hlr
          rw [hla]
          by_cases hlt : la < q
          · have hln : (la : Int) < (q : Int) := by omega
            obtain ⟨g, cg, hve, hbg, hlg⟩ := HO3.out.form (by omega)
            injection hve with e1 _ e2
            subst e1 e2
            have HW := Lib.hid (show RuW wr w.heap.size g q c1 (a ++ r) from HO3.out)
            clear hla HO3
            go_wp2
            go_loopw [7] (fun t wk => ∃ pre suf : List Rg, t = .int .i64 ((la + pre.length : Nat) : Int) ∧ r = pre ++ suf ∧ (∀ x ∈ pre, p x = true) ∧ wk = wr) (fun t _ => q - (intOf t).toNat)
            case atStart => exact ⟨[], r, rfl, rfl, by simp, rfl⟩
            case round =>
              obtain ⟨pre, suf, rfl, hr, hpre, rfl⟩ := hrel
              have HPRE := Lib.hid hpre
              have HRR := Lib.hid hr
              have hrl : r.length = pre.length + suf.length := by rw [hr, List.length_append]
              obtain ⟨hi, hhi⟩ : ∃ hi, la + pre.length = hi := ⟨_, rfl⟩
              have HHI := Lib.hid hhi
              rw [hhi]
              clear hpre hr
              rcases suf with _ | ⟨y, s⟩
              · have hin : q = hi := by simp at hrl; omega
                clear hhi
                subst hin
                have hni : ¬ (q : Int) < (q : Int) := by omega
                clear hrl
                go_wp2
                have HSUF := Lib.hid (show ([] : List Rg) = [] ∨ ∃ y s, ([] : List Rg) = y :: s ∧ p y = false from .inl rfl)
                have HW2 := Lib.hid (show RuW wr w.heap.size g q c1 (a ++ pre ++ []) by rw [List.append_assoc, ← HRR.out]; exact HW.out)
                have HPL := Lib.hid (show (pre.reverse).length = pre.length from List.length_reverse)
                obtain ⟨a2, r2, ml, h1, h2, h3, hmax⟩ := tg_move (b := true) (p := p) (a := a) (B := pre.reverse) (suf := []) (la := la) (hi := q) HLA.out (by rw [HPL.out, HHI.out]) HSUF.out (by
                  intro e
                  have h0 : pre.length = 0 := by rw [← HPL.out, e]; rfl
                  have := HHI.out
                  omega)
                have HV3 := Lib.hid (show visGA low v (tgF true p a2 r2) = T by
                  rw [← h3]
                  have := tg_run (b := true) (a := a) HPRE.out HSUF.out
                  rw [if_pos rfl] at this
                  rw [← this, ← HRR.out]
                  exact HVI2.out)
                have hll : la + pre.length + ([] : List Rg).length = q := by
                  have e2 := congrArg List.length HRR.out
                  rw [List.length_append] at e2
                  omega
                have HL3 := Lib.hid (show a2.length + r2.length = q by
                  have e1 := congrArg List.length h1
                  simp only [List.length_append] at e1
                  have := HPL.out
                  have := HLA.out
                  omega)
                have hml : (ml : Int) + 1 ≤ 100001 := by
                  have := HL3.out
                  omega
                have H1 := Lib.hid h1
                have H2 := Lib.hid h2
                clear h1 h2 h3
                go_loopw [8, 9] (fun ta tb ws => ∃ a' m' r' : List Rg, ta = .int .i64 (a'.length : Nat) ∧ tb = .int .i64 ((a'.length : Int) + (m'.length : Int) - 1) ∧ a'.length + m'.length + r'.length = q ∧ a2 ++ r2 = a' ++ m'.reverse ++ r' ∧ RuW ws w.heap.size g q c1 (a' ++ m' ++ r') ∧ Below w.heap.size w ws) (fun ta tb _ => (intOf tb - intOf ta).toNat)
                case atStart => exact ⟨a, pre, [], by rw [HLA.out], by rw [HLA.out, ← HHI.out]; simp, by rw [HLA.out]; exact hll, H1.out, HW2.out, HB3.out⟩
                case round =>
                obtain ⟨a', m', r', rfl, rfl, hl, he, hW, hb⟩ := hrel
                have HE := Lib.hid he
                have HWs := Lib.hid hW
                have HBs := Lib.hid hb
                clear he hW hb
                by_cases hm : 1 < m'.length
                · obtain ⟨x, mm, y2, rfl⟩ := two_endsG hm
                  obtain ⟨la2, hla2⟩ : ∃ la2, a'.length = la2 := ⟨_, rfl⟩
                  obtain ⟨lm, hlm⟩ : ∃ lm, mm.length = lm := ⟨_, rfl⟩
                  have hml2 : (x :: mm ++ [y2]).length = lm + 2 := by simp; omega
                  have HLA2 := Lib.hid hla2
                  have HLM := Lib.hid hlm
                  rw [hml2] at hl
                  rw [hml2, hla2]
                  obtain ⟨lb, hlb⟩ : ∃ lb, la2 + (lm + 1) = lb := ⟨_, rfl⟩
                  have HLB := Lib.hid hlb
                  obtain ⟨x0, x1, x2, fx0, fx1, fx2⟩ := HWs.out.at_ (k := la2) (s := x) (by rw [List.append_assoc, List.getElem?_append_right (by omega), show la2 - a'.length = 0 by omega]; rfl)
                  obtain ⟨y0, y1, y2', fy0, fy1, fy2⟩ := HWs.out.at_ (k := lb) (s := y2) (by rw [List.append_assoc, List.getElem?_append_right (by omega), List.getElem?_append_left (by rw [hml2]; omega), show lb - a'.length = lm + 1 by omega, List.cons_append, List.getElem?_cons_succ, List.getElem?_append_right (by omega), show lm - mm.length = 0 by omega]; rfl)
                  have HSW := Lib.hid (show RuW (putG (putG wr g la2 y2) g lb x) w.heap.size g q c1 ((a' ++ [y2]) ++ mm ++ (x :: r')) by
                    have h9 := (HWs.out.put (k := la2) (by omega) y2).put (k := lb) (by omega) x
                    rw [← swap_list a' mm r' x y2, HLA2.out, HLM.out, HLB.out]
                    exact h9)
                  have HSB := Lib.hid (below_putG (k := lb) (below_putG (k := la2) HBs.out HWs.out.base y2) HWs.out.base x)
                  have HE2 := Lib.hid (HE.out.trans (show a' ++ (x :: mm ++ [y2]).reverse ++ r' = (a' ++ [y2]) ++ mm.reverse ++ (x :: r') by simp))
                  have ib : (la2 : Int) + ((lm + 2 : Nat) : Int) - 1 = (lb : Int) := by omega
                  rw [ib]
                  have i2 : (la2 : Int) < (lb : Int) := by omega
                  have i3 : (0 : Int) ≤ (la2 : Int) := by omega
                  have i4 : (la2 : Int) < (q : Int) := by omega
                  have i5 : (0 : Int) ≤ (lb : Int) := by omega
                  have i6 : (lb : Int) < (q : Int) := by omega
                  have i7 : la2 < lb := by omega
                  obtain ⟨xa, xb, xc⟩ := x
                  obtain ⟨ya, yb, yc⟩ := y2
                  simp only at x0 x1 x2 y0 y1 y2'
                  have HSW2 := HSW.out
                  have HSB2 := HSB.out
                  simp only [putG] at HSW2 HSB2
                  have HSW3 := Lib.hid HSW2
                  have HSB3 := Lib.hid HSB2
                  clear hlm hml2 hla2 hlb HSW HSW2 HSB HSB2 ib hm
                  go_wp2
                  go_region
                  have HSW4 := Lib.hid (HSW3.out.low (Below.refl _ _).drew)
                  have HSB4 := Lib.hid HSB3.out.drew
                  clear x0 x1 x2 fx0 fx1 fx2 y0 y1 y2' fy0 fy1 fy2
                  go_wp2
                  go_roundw
                  case rel =>
                    have q1 := HLA2.out
                    have q2 := HLM.out
                    have q3 := HLB.out
                    have p1 : (la2 : Int) + 1 = (((a' ++ [(ya, yb, yc)]).length : Nat) : Int) := by simp; omega
                    have p2 : (lb : Int) - 1 = (((a' ++ [(ya, yb, yc)]).length : Nat) : Int) + (mm.length : Int) - 1 := by simp; omega
                    have p3 : (a' ++ [(ya, yb, yc)]).length + mm.length + ((xa, xb, xc) :: r').length = q := by simp; omega
                    exact ⟨a' ++ [(ya, yb, yc)], mm, (xa, xb, xc) :: r', by rw [← p1], by rw [← p2], p3, HE2.out, HSW4.out, HSB4.out⟩
                  case measure => have := HLB.out; simp [intOf]; omega
                · have HF := Lib.hid (show RuW wr w.heap.size g q c1 (a2 ++ r2) by
                    have : m'.reverse = m' := by
                      match m', hm with
                      | [], _ => rfl
                      | [z], _ => rfl
                      | _ :: _ :: _, h => simp at h
                    rw [HE.out, this]
                    exact HWs.out)
                  have hab : ¬ (a'.length : Int) < (a'.length : Int) + (m'.length : Int) - 1 := by omega
                  go_wp2
                  go_roundw
                  case rel => exact ⟨a2, r2, by rw [H2.out]; go_num, HL3.out, HV3.out, HF.out, HBs.out⟩
                  case measure => have := H2.out; simp [intOf]; omega
              · simp only [List.length_cons] at hrl
                have hin : (hi : Int) < (q : Int) := by omega
                have hi0 : (0 : Int) ≤ (hi : Int) := by omega
                have hi5 : (hi : Int) ≤ 100000 := by omega
                obtain ⟨-, -, cz, -⟩ := HW.out.at_ (k := hi) (s := y) (by rw [HRR.out, List.getElem?_append_right (by rw [HLA.out]; omega), HLA.out, List.getElem?_append_right (by omega), show hi - la - pre.length = 0 by omega]; rfl)
                obtain ⟨z, hz⟩ : ∃ z, heldF y.2.2 = z := ⟨_, rfl⟩
                have HH := Lib.hid (fun W => roHeldOne_any y.2.2 z hz W)
                have hpy : p y = decide (V ≤ z) := by rw [← HP.out, ← hz]
                obtain ⟨yl, hyl⟩ : ∃ yl, y.2.2 = yl := ⟨_, rfl⟩
                rw [hyl] at cz HH
                clear hrl hhi hz hyl
                by_cases hvz : V ≤ z
                · have d1 : decide (V ≤ z) = true := decide_eq_true hvz
                  have HNP := Lib.hid (show ∀ x ∈ pre ++ [y], p x = true by
                    intro x hx
                    rcases List.mem_append.1 hx with hx | hx
                    · exact HPRE.out x hx
                    · rw [List.mem_singleton] at hx
                      rw [hx, hpy, d1])
                  clear hvz hpy
                  go_wp2_with (first
                    | (go_at_call 43; refine (HH.out _).mono ?_; rintro e w3 ⟨rfl, rfl⟩)
                    | fail)
                  go_roundw
                  case rel => exact ⟨pre ++ [y], s, by rw [← HHI.out]; simp; omega, by rw [HRR.out]; simp, HNP.out, by first | rfl | trivial⟩
                  case measure => simp [intOf]; omega
                · have d1 : decide (V ≤ z) = false := decide_eq_false hvz
                  have HSUF := Lib.hid (show y :: s = [] ∨ ∃ y' s', y :: s = y' :: s' ∧ p y' = false from .inr ⟨y, s, rfl, by rw [hpy, d1]⟩)
                  clear hvz hpy
                  go_wp2_with (first
                    | (go_at_call 43; refine (HH.out _).mono ?_; rintro e w3 ⟨rfl, rfl⟩)
                    | fail)
                  have HW2 := Lib.hid (show RuW wr w.heap.size g q c1 (a ++ pre ++ (y :: s)) by rw [List.append_assoc, ← HRR.out]; exact HW.out)
                  have HPL := Lib.hid (show (pre.reverse).length = pre.length from List.length_reverse)
                  obtain ⟨a2, r2, ml, h1, h2, h3, hmax⟩ := tg_move (b := true) (p := p) (a := a) (B := pre.reverse) (suf := (y :: s)) (la := la) (hi := hi) HLA.out (by rw [HPL.out, HHI.out]) HSUF.out (by
                    intro e
                    simp)
                  have HV3 := Lib.hid (show visGA low v (tgF true p a2 r2) = T by
                    rw [← h3]
                    have := tg_run (b := true) (a := a) HPRE.out HSUF.out
                    rw [if_pos rfl] at this
                    rw [← this, ← HRR.out]
                    exact HVI2.out)
                  have hll : la + pre.length + ((y :: s) : List Rg).length = q := by
                    have e2 := congrArg List.length HRR.out
                    rw [List.length_append] at e2
                    omega
                  have HL3 := Lib.hid (show a2.length + r2.length = q by
                    have e1 := congrArg List.length h1
                    simp only [List.length_append] at e1
                    have := HPL.out
                    have := HLA.out
                    omega)
                  have hml : (ml : Int) + 1 ≤ 100001 := by
                    have := HL3.out
                    omega
                  have H1 := Lib.hid h1
                  have H2 := Lib.hid h2
                  clear h1 h2 h3
                  go_loopw [8, 9] (fun ta tb ws => ∃ a' m' r' : List Rg, ta = .int .i64 (a'.length : Nat) ∧ tb = .int .i64 ((a'.length : Int) + (m'.length : Int) - 1) ∧ a'.length + m'.length + r'.length = q ∧ a2 ++ r2 = a' ++ m'.reverse ++ r' ∧ RuW ws w.heap.size g q c1 (a' ++ m' ++ r') ∧ Below w.heap.size w ws) (fun ta tb _ => (intOf tb - intOf ta).toNat)
                  case atStart => exact ⟨a, pre, (y :: s), by rw [HLA.out], by rw [HLA.out, ← HHI.out]; simp, by rw [HLA.out]; exact hll, H1.out, HW2.out, HB3.out⟩
                  case round =>
                  obtain ⟨a', m', r', rfl, rfl, hl, he, hW, hb⟩ := hrel
                  have HE := Lib.hid he
                  have HWs := Lib.hid hW
                  have HBs := Lib.hid hb
                  clear he hW hb
                  by_cases hm : 1 < m'.length
                  · obtain ⟨x, mm, y2, rfl⟩ := two_endsG hm
                    obtain ⟨la2, hla2⟩ : ∃ la2, a'.length = la2 := ⟨_, rfl⟩
                    obtain ⟨lm, hlm⟩ : ∃ lm, mm.length = lm := ⟨_, rfl⟩
                    have hml2 : (x :: mm ++ [y2]).length = lm + 2 := by simp; omega
                    have HLA2 := Lib.hid hla2
                    have HLM := Lib.hid hlm
                    rw [hml2] at hl
                    rw [hml2, hla2]
                    obtain ⟨lb, hlb⟩ : ∃ lb, la2 + (lm + 1) = lb := ⟨_, rfl⟩
                    have HLB := Lib.hid hlb
                    obtain ⟨x0, x1, x2, fx0, fx1, fx2⟩ := HWs.out.at_ (k := la2) (s := x) (by rw [List.append_assoc, List.getElem?_append_right (by omega), show la2 - a'.length = 0 by omega]; rfl)
                    obtain ⟨y0, y1, y2', fy0, fy1, fy2⟩ := HWs.out.at_ (k := lb) (s := y2) (by rw [List.append_assoc, List.getElem?_append_right (by omega), List.getElem?_append_left (by rw [hml2]; omega), show lb - a'.length = lm + 1 by omega, List.cons_append, List.getElem?_cons_succ, List.getElem?_append_right (by omega), show lm - mm.length = 0 by omega]; rfl)
                    have HSW := Lib.hid (show RuW (putG (putG wr g la2 y2) g lb x) w.heap.size g q c1 ((a' ++ [y2]) ++ mm ++ (x :: r')) by
                      have h9 := (HWs.out.put (k := la2) (by omega) y2).put (k := lb) (by omega) x
                      rw [← swap_list a' mm r' x y2, HLA2.out, HLM.out, HLB.out]
                      exact h9)
                    have HSB := Lib.hid (below_putG (k := lb) (below_putG (k := la2) HBs.out HWs.out.base y2) HWs.out.base x)
                    have HE2 := Lib.hid (HE.out.trans (show a' ++ (x :: mm ++ [y2]).reverse ++ r' = (a' ++ [y2]) ++ mm.reverse ++ (x :: r') by simp))
                    have ib : (la2 : Int) + ((lm + 2 : Nat) : Int) - 1 = (lb : Int) := by omega
                    rw [ib]
                    have i2 : (la2 : Int) < (lb : Int) := by omega
                    have i3 : (0 : Int) ≤ (la2 : Int) := by omega
                    have i4 : (la2 : Int) < (q : Int) := by omega
                    have i5 : (0 : Int) ≤ (lb : Int) := by omega
                    have i6 : (lb : Int) < (q : Int) := by omega
                    have i7 : la2 < lb := by omega
                    obtain ⟨xa, xb, xc⟩ := x
                    obtain ⟨ya, yb, yc⟩ := y2
                    simp only at x0 x1 x2 y0 y1 y2'
                    have HSW2 := HSW.out
                    have HSB2 := HSB.out
                    simp only [putG] at HSW2 HSB2
                    have HSW3 := Lib.hid HSW2
                    have HSB3 := Lib.hid HSB2
                    clear hlm hml2 hla2 hlb HSW HSW2 HSB HSB2 ib hm
                    go_wp2
                    go_region
                    have HSW4 := Lib.hid (HSW3.out.low (Below.refl _ _).drew)
                    have HSB4 := Lib.hid HSB3.out.drew
                    clear x0 x1 x2 fx0 fx1 fx2 y0 y1 y2' fy0 fy1 fy2
                    go_wp2
                    go_roundw
                    case rel =>
                      have q1 := HLA2.out
                      have q2 := HLM.out
                      have q3 := HLB.out
                      have p1 : (la2 : Int) + 1 = (((a' ++ [(ya, yb, yc)]).length : Nat) : Int) := by simp; omega
                      have p2 : (lb : Int) - 1 = (((a' ++ [(ya, yb, yc)]).length : Nat) : Int) + (mm.length : Int) - 1 := by simp; omega
                      have p3 : (a' ++ [(ya, yb, yc)]).length + mm.length + ((xa, xb, xc) :: r').length = q := by simp; omega
                      exact ⟨a' ++ [(ya, yb, yc)], mm, (xa, xb, xc) :: r', by rw [← p1], by rw [← p2], p3, HE2.out, HSW4.out, HSB4.out⟩
                    case measure => have := HLB.out; simp [intOf]; omega
                  · have HF := Lib.hid (show RuW wr w.heap.size g q c1 (a2 ++ r2) by
                      have : m'.reverse = m' := by
                        match m', hm with
                        | [], _ => rfl
                        | [z], _ => rfl
                        | _ :: _ :: _, h => simp at h
                      rw [HE.out, this]
                      exact HWs.out)
                    have hab : ¬ (a'.length : Int) < (a'.length : Int) + (m'.length : Int) - 1 := by omega
                    go_wp2
                    go_roundw
                    case rel => exact ⟨a2, r2, by rw [H2.out]; go_num, HL3.out, HV3.out, HF.out, HBs.out⟩
                    case measure => have := H2.out; simp [intOf]; omega
          · have hr0 : r = [] := List.eq_nil_of_length_eq_zero (by omega)
            subst hr0
            rw [tg_end] at HVI2
            rw [List.append_nil] at HO3
            have hln : ¬ (la : Int) < (q : Int) := by omega
            go_wp2
            go_roundw
            case rel => exact ⟨v, a, by omega, by rw [show V - 1 = (v : Int) by have := HVV.out; omega], by rw [if_pos h0]; exact HVI2.out, HO3.out, HB3.out⟩
            case measure => have := HVV.out; simp [intOf]; omega
      · rw [visGA_stop (by omega)] at HVI
        go_wp2
        go_ret
        exact ⟨_, rfl, by rw [← HVI.out]; exact HO.out, HB.out⟩
    · rw [if_neg h0] at HVI
      go_wp2
      go_ret
      exact ⟨_, rfl, by rw [← HVI.out]; exact HO.out, HB.out⟩
end Go.Proofs.Ytaiefneimjdmhaa
