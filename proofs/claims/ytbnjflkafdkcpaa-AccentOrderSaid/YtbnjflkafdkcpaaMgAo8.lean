/- Texts of one claim, one behind the other. -/
import Derived.BigQuiet
import Derived.Deep.Cut
import Derived.Test.YtbnjflkafdkcpaaMgAo1
import Derived.Test.YtbnjflkafdkcpaaMgAo3
/- The reference's Visual, walked. -/
namespace Go.Proofs.Ytbnjflkafdkcpaa
open Go.RowKit
theorem most_step {hs : List Int} {k : Nat} {x acc : Int} (h : hs[k]? = some x) (he : max acc (mostF (hs.drop k)) = mostF hs) : max (max acc x) (mostF (hs.drop (k + 1))) = mostF hs := by
  rw [List.drop_eq_getElem_cons (List.getElem?_eq_some_iff.1 h).1, (List.getElem?_eq_some_iff.1 h).2, mostF] at he
  omega
theorem held_in (ls : List Int) : ∀ x ∈ ls.map heldF, 0 ≤ x ∧ x ≤ 126 := by
  intro x hx
  obtain ⟨y, _, rfl⟩ := List.mem_map.1 hx
  unfold heldF
  omega
theorem visA_next (hs : List Int) (v : Nat) (xs : List Nat) : visA hs (v + 1) xs = visA hs v (tgF (oddB hs ((v + 1 : Nat) : Int)) (fun i => decide (((v + 1 : Nat) : Int) ≤ hs.getD i 0)) [] xs) := by
  rw [visA, tgF]
  split <;> rfl
set_option maxRecDepth 100000 in
set_option maxHeartbeats 4000000 in
theorem roVisual_any (A : Option Addr) (n c : Nat) (ls : List Int) (w : World) (hr : Rd w 1 A n (ls.map (Value.int .i64))) (hn : n ≤ 100000) :
    Calls Try.prog 15 #[.slice A n c] w fun e w' => ∃ v, e = .returned v ∧ w'.ownsRow w.heap.size 3 1 v n (nV (visF ls)) ∧ Below w.heap.size w w' := by
  have hl : ls.length = n := by simpa using hr.len1
  have HL := Lib.hid hl
  have HH := Lib.hid (roHeld_any A n c ls w hr hn)
  obtain ⟨hs, hhs⟩ : ∃ hs, ls.map heldF = hs := ⟨_, rfl⟩
  have HIN := Lib.hid (show ∀ x ∈ hs, 0 ≤ x ∧ x ≤ 126 by rw [← hhs]; exact held_in ls)
  have HHL := Lib.hid (show hs.length = n by rw [← hhs, List.length_map, hl])
  have HV := Lib.hid (show visF ls = visA hs (mostF hs).toNat (List.range n) by unfold visF; rw [hhs, hl])
  rw [hhs] at HH
  clear hl hr hhs
  go_enter Try.func15, Try.ntmps15
  go_upto_region 2 with (first
    | (go_at_call 32; refine HH.out.mono ?_; rintro e w1 ⟨v1, rfl, hO1, hb1⟩)
    | fail)
  obtain ⟨A1, c1, rfl, hc1⟩ := own_form hO1
  have hR1 := Rd.of_own hO1
  have HPL := Lib.hid (roPlaces_any n w1 hn)
  go_wp2_with (first
    | (go_at_call 33; refine HPL.out.mono ?_; rintro e w2 ⟨v2, rfl, hO2, hb2⟩)
    | fail)
  obtain ⟨A2, c2, rfl, hc2⟩ := own_form hO2
  have HR1 := Lib.hid hR1
  have HB2 := Lib.hid (show Below w1.heap.size w1 w2 from hb2)
  have HO2 : Hid (w2.ownsRow w1.heap.size 3 1 (.slice A2 n c2) n (nV (List.range n))) := Lib.hid hO2
  have HW1 := Lib.hid hb1
  clear hO2 hO1 hR1 hb1 hb2 HPL HH
  go_loopw [4, 5] (fun t i wr => ∃ (k : Nat) (m : Int), k ≤ n ∧ i = .int .i64 (k : Int) ∧ t = .int .i64 m ∧ 0 ≤ m ∧ m ≤ 126 ∧ max m (mostF (hs.drop k)) = mostF hs ∧ wr = w2) (fun _ i _ => n - (intOf i).toNat)
  case atStart => exact ⟨0, 0, Nat.zero_le _, rfl, rfl, by decide, by decide, by have := most_nonneg hs; rw [List.drop_zero]; omega, rfl⟩
  case round =>
    obtain ⟨k, m, hk, rfl, rfl, hm0, hm1, hm, rfl⟩ := hrel
    have HM := Lib.hid hm
    clear hm
    by_cases hlt : k < n
    · obtain ⟨x, hx⟩ : ∃ x, hs[k]? = some x := ⟨_, List.getElem?_eq_getElem (by rw [HHL.out]; exact hlt)⟩
      obtain ⟨ad, rfl, hab, hcell⟩ := (HR1.out.below HB2.out).at_ hlt
      have cx : wr.cell? (ad.add k) = some (.int .i64 x) := hcell _ (by rw [List.getElem?_map, hx]; rfl)
      obtain ⟨hx0, hx1⟩ := HIN.out x (List.mem_of_getElem? hx)
      have HN := Lib.hid (most_step hx HM.out)
      have hkn : (k : Int) < (n : Int) := by omega
      have hk0 : (0 : Int) ≤ (k : Int) := by omega
      have hk5 : (k : Int) ≤ 100000 := by omega
      clear hx hcell
      by_cases hmx : m < x
      · rw [show max m x = x by omega] at HN
        go_wp2
        go_roundw
        case rel => exact ⟨k + 1, x, by omega, by go_num, rfl, hx0, hx1, HN.out, by first | rfl | trivial⟩
        case measure => simp [intOf]; omega
      · rw [show max m x = m by omega] at HN
        go_wp2
        go_roundw
        case rel => exact ⟨k + 1, m, by omega, by go_num, rfl, hm0, hm1, HN.out, by first | rfl | trivial⟩
        case measure => simp [intOf]; omega
    · have hmm : m = mostF hs := by
        have := HM.out
        rw [List.drop_eq_nil_of_le (by rw [HHL.out]; omega), mostF] at this
        omega
      obtain ⟨mv, rfl⟩ : ∃ mv : Nat, m = (mv : Int) := ⟨m.toNat, by omega⟩
      have HV2 := Lib.hid (show visF ls = visA hs mv (List.range n) by rw [HV.out, ← hmm, Int.toNat_natCast])
      clear hmm HM
      go_wp2
      go_loopw [6] (fun t wi => ∃ (v : Nat) (xs : List Nat), v ≤ 126 ∧ t = .int .i64 (v : Int) ∧ (∀ x ∈ xs, x < n) ∧ visF ls = visA hs v xs ∧ wi.ownsRow w1.heap.size 3 1 (.slice A2 n c2) n (nV xs) ∧ Below w1.heap.size w1 wi) (fun t _ => (intOf t).toNat)
      case atStart => exact ⟨mv, List.range n, by omega, rfl, fun x hx => List.mem_range.1 hx, HV2.out, HO2.out, HB2.out⟩
      case round =>
        obtain ⟨v, xs, hv, rfl, hxs, hvis, hO, hB⟩ := hrel
        have HXS := Lib.hid hxs
        have HVI := Lib.hid hvis
        have HO := Lib.hid hO
        have HB := Lib.hid hB
        clear hxs hvis hO hB HB2 HO2 HV2
        cases v with
        | zero =>
          have HE := Lib.hid (show visF ls = xs from HVI.out)
          have HF := Lib.hid (own_base HO.out (show w.heap.size ≤ w1.heap.size from HW1.out.size))
          have HG := Lib.hid (HW1.out.trans (HB.out.mono HW1.out.size))
          go_wp2
          go_ret
          exact ⟨_, rfl, by rw [HE.out]; exact HF.out, HG.out⟩
        | succ v =>
          obtain ⟨V, hV⟩ : ∃ V : Int, ((v + 1 : Nat) : Int) = V := ⟨_, rfl⟩
          have HVV := Lib.hid hV
          rw [hV]
          obtain ⟨b, hb⟩ : ∃ b, oddB hs V = b := ⟨_, rfl⟩
          obtain ⟨p, hp⟩ : ∃ p : Nat → Bool, (fun i => decide (V ≤ hs.getD i 0)) = p := ⟨_, rfl⟩
          rw [visA_next, hV, hb, hp] at HVI
          have HP := Lib.hid hp
          have HOD := Lib.hid (fun W h => roOdd_any A1 n c1 hs V b hb W h hn (fun x hx => (HIN.out x hx).1))
          have hlx : xs.length = n := by have := HO.out.1; rw [nV_len] at this; omega
          have HLX := Lib.hid hlx
          have hv1 : (1 : Int) ≤ V := by omega
          have hv2 : V ≤ 126 := by omega
          clear hb hp hlx hV
          go_wp2
          go_loopw [7] (fun t wj => ∃ a r : List Nat, t = .int .i64 (a.length : Nat) ∧ a.length + r.length = n ∧ (∀ x ∈ a ++ r, x < n) ∧ visF ls = visA hs v (tgF b p a r) ∧ wj.ownsRow w1.heap.size 3 1 (.slice A2 n c2) n (nV (a ++ r)) ∧ Below w1.heap.size w1 wj) (fun t _ => n - (intOf t).toNat)
          case atStart => exact ⟨[], xs, rfl, by simpa using HLX.out, HXS.out, HVI.out, HO.out, HB.out⟩
          case round =>
            obtain ⟨a, r, rfl, hlr, hxs, hvis, hO, hB⟩ := hrel
            have HXS2 := Lib.hid hxs
            have HVI2 := Lib.hid hvis
            have HO3 := Lib.hid hO
            have HB3 := Lib.hid hB
            clear hxs hvis hO hB HXS HVI HO HB HLX
            obtain ⟨la, hla⟩ : ∃ la, a.length = la := ⟨_, rfl⟩
            have HLA := Lib.hid hla
            rw [hla] at hlr
            rw [hla]
            by_cases hlt : la < n
            · have hln : (la : Int) < (n : Int) := by omega
              obtain ⟨g, cc, hve, -, hgs, hbs, -⟩ := own_at HO3.out (by omega)
              simp only [Value.slice.injEq] at hve
              obtain ⟨rfl, -, rfl⟩ := hve
              clear hla
              go_wp2
              go_loopw [8] (fun t wk => ∃ pre suf : List Nat, t = .int .i64 ((la + pre.length : Nat) : Int) ∧ r = pre ++ suf ∧ (∀ x ∈ pre, p x = true) ∧ wk = wr) (fun t _ => n - (intOf t).toNat)
              case atStart => exact ⟨[], r, rfl, rfl, by simp, rfl⟩
              case round =>
                obtain ⟨pre, suf, rfl, hr, hpre, rfl⟩ := hrel
                have HPRE := Lib.hid hpre
                have HRR := Lib.hid hr
                have hrl : r.length = pre.length + suf.length := by rw [hr, List.length_append]
                obtain ⟨hi, hhi⟩ : ∃ hi, la + pre.length = hi := ⟨_, rfl⟩
                have HHI := Lib.hid hhi
                rw [hhi]
                clear hpre hr
                rcases suf with _ | ⟨y, s⟩
                · have hin : n = hi := by simp at hrl; omega
                  clear hhi
                  subst hin
                  have hni : ¬ (n : Int) < (n : Int) := by omega
                  have HSUF := Lib.hid (show ([] : List Nat) = [] ∨ ∃ y s, ([] : List Nat) = y :: s ∧ p y = false from .inl rfl)
                  clear hrl
                  have HOW := Lib.hid (show wr.ownsRow w1.heap.size 3 1 (.slice (some ⟨g, 0, none⟩) n c2) n (nV (a ++ pre ++ [])) by rw [List.append_assoc, ← HRR.out]; exact HO3.out)
                  obtain ⟨BB, hBB⟩ : ∃ BB, (if b = true then pre.reverse else pre) = BB := ⟨_, rfl⟩
                  have HBM := Lib.hid (show ∀ x, x ∈ BB ↔ x ∈ pre by intro x; rw [← hBB]; split <;> simp)
                  have HBL := Lib.hid (show BB.length = pre.length by rw [← hBB]; split <;> simp)
                  obtain ⟨a2, r2, ml, h1, h2, h3, hmax⟩ := tg_move (b := b) (p := p) (a := a) (B := BB) (suf := []) (la := la) (hi := n) HLA.out (by rw [HBL.out, HHI.out]) HSUF.out (by
                    intro e
                    have h0 : pre.length = 0 := by rw [← HBL.out, e]; rfl
                    have := HHI.out
                    omega)
                  have HV3 := Lib.hid (show visF ls = visA hs v (tgF b p a2 r2) by rw [← h3, ← hBB, ← tg_run HPRE.out HSUF.out, ← HRR.out]; exact HVI2.out)
                  have H1 := Lib.hid h1
                  have H2 := Lib.hid h2
                  have hml : (ml : Int) + 1 ≤ 100001 := by
                    have e1 := congrArg List.length h1
                    have e2 := congrArg List.length HRR.out
                    simp at e1 e2
                    have := HBL.out
                    have := HLA.out
                    omega
                  have HX3 := Lib.hid (show ∀ x ∈ a2 ++ r2, x < n by
                    intro x hx
                    rw [h1] at hx
                    refine HXS2.out x ?_
                    rw [HRR.out]
                    simp only [List.mem_append] at hx ⊢
                    rcases hx with (hx | hx) | hx
                    · exact .inl hx
                    · exact .inr (.inl ((HBM.out x).1 hx))
                    · exact .inr (.inr hx))
                  have HBB := Lib.hid hBB
                  have HL3 := Lib.hid (show a2.length + r2.length = n by
                    have e1 := congrArg List.length h1
                    have e2 := congrArg List.length HRR.out
                    simp at e1 e2
                    have := HBL.out
                    have := HLA.out
                    omega)
                  clear h1 h2 h3 hBB
                  cases b with
                  | true =>
                    have HT := Lib.hid (show ∀ W : World, W.ownsRow w1.heap.size 3 1 (.slice (some ⟨g, 0, none⟩) n c2) n (nV (a ++ pre ++ [])) → Calls Try.prog 35 #[.slice (some ⟨g, 0, none⟩) n c2, .int .i64 (la : Int), .int .i64 (n : Int)] W fun e w' => (∃ v, e = .returned v) ∧ w'.ownsRow w1.heap.size 3 1 (.slice (some ⟨g, 0, none⟩) n c2) n (nV (a2 ++ r2)) ∧ Below w1.heap.size W w' by
                      intro W h
                      have h9 := roTurn_any g n c2 a pre [] w1.heap.size W h hc2 hn
                      rw [HLA.out, HHI.out] at h9
                      rw [H1.out, ← HBB.out]
                      exact h9)
                    go_wp2_with (first
                      | (go_at_call 34; refine (HOD.out _ (HR1.out.below HB3.out)).mono ?_; rintro e w3 ⟨rfl, q, hw3⟩; have HO4 := Lib.hid (own_below HOW.out (drewBelow q)); have HB4 := Lib.hid (below_drew HB3.out q); rw [← hw3] at HO4 HB4; clear hw3)
                      | (go_at_call 35; refine (HT.out _ HO4.out).mono ?_; rintro e w4 ⟨⟨vr, rfl⟩, ho5, hb5⟩; have HO5 := Lib.hid ho5; have HB5 := Lib.hid (HB4.out.trans hb5); clear ho5 hb5)
                      | fail)
                    go_roundw
                    case rel => exact ⟨a2, r2, by rw [H2.out]; go_num, HL3.out, HX3.out, HV3.out, HO5.out, HB5.out⟩
                    case measure => have := H2.out; simp [intOf]; omega
                  | false =>
                    have HO4' := Lib.hid (show wr.ownsRow w1.heap.size 3 1 (.slice (some ⟨g, 0, none⟩) n c2) n (nV (a2 ++ r2)) by rw [H1.out, ← HBB.out]; exact HOW.out)
                    go_wp2_with (first
                      | (go_at_call 34; refine (HOD.out _ (HR1.out.below HB3.out)).mono ?_; rintro e w3 ⟨rfl, q, hw3⟩; have HO5 := Lib.hid (own_below HO4'.out (drewBelow q)); have HB5 := Lib.hid (below_drew HB3.out q); rw [← hw3] at HO5 HB5; clear hw3)
                      | fail)
                    go_roundw
                    case rel => exact ⟨a2, r2, by rw [H2.out]; go_num, HL3.out, HX3.out, HV3.out, HO5.out, HB5.out⟩
                    case measure => have := H2.out; simp [intOf]; omega
                · simp only [List.length_cons] at hrl
                  have hin : (hi : Int) < (n : Int) := by omega
                  have hin2 : hi < n := by omega
                  have hi0 : (0 : Int) ≤ (hi : Int) := by omega
                  have hi5 : (hi : Int) ≤ 100000 := by omega
                  have hyn : y < n := HXS2.out y (by rw [HRR.out]; simp)
                  have hyni : (y : Int) < (n : Int) := by omega
                  have hy0 : (0 : Int) ≤ (y : Int) := by omega
                  have cy : wr.cell? ⟨g, hi, none⟩ = some (.int .i64 (y : Int)) := by
                    rw [HO3.out.cellAt hi (by omega), nV_at]
                    rw [HRR.out, List.getElem?_append_right (by rw [HLA.out]; omega), HLA.out, List.getElem?_append_right (by omega), show hi - la - pre.length = 0 by omega]
                    rfl
                  obtain ⟨z, hz⟩ : ∃ z, hs[y]? = some z := ⟨_, List.getElem?_eq_getElem (by rw [HHL.out]; exact hyn)⟩
                  obtain ⟨ad, rfl, hab, hcell⟩ := (HR1.out.below HB3.out).at_ hyn
                  have cz : wr.cell? (ad.add y) = some (.int .i64 z) := hcell _ (by rw [List.getElem?_map, hz]; rfl)
                  have hpy : p y = decide (V ≤ z) := by rw [← HP.out]; simp only; rw [List.getD_eq_getElem?_getD, hz]; rfl
                  clear hrl hhi hcell hz
                  by_cases hvz : V ≤ z
                  · have d1 : decide (V ≤ z) = true := decide_eq_true hvz
                    have HNP := Lib.hid (show ∀ x ∈ pre ++ [y], p x = true by
                      intro x hx
                      rcases List.mem_append.1 hx with hx | hx
                      · exact HPRE.out x hx
                      · rw [List.mem_singleton] at hx
                        rw [hx, hpy, d1])
                    clear hvz hpy
                    go_wp2
                    go_roundw
                    case rel => exact ⟨pre ++ [y], s, by rw [← HHI.out]; simp; omega, by rw [HRR.out]; simp, HNP.out, by first | rfl | trivial⟩
                    case measure => simp [intOf]; omega
                  · have d1 : decide (V ≤ z) = false := decide_eq_false hvz
                    have HSUF := Lib.hid (show y :: s = [] ∨ ∃ y' s', y :: s = y' :: s' ∧ p y' = false from .inr ⟨y, s, rfl, by rw [hpy, d1]⟩)
                    clear hvz hpy
                    have HOW := Lib.hid (show wr.ownsRow w1.heap.size 3 1 (.slice (some ⟨g, 0, none⟩) n c2) n (nV (a ++ pre ++ (y :: s))) by rw [List.append_assoc, ← HRR.out]; exact HO3.out)
                    obtain ⟨BB, hBB⟩ : ∃ BB, (if b = true then pre.reverse else pre) = BB := ⟨_, rfl⟩
                    have HBM := Lib.hid (show ∀ x, x ∈ BB ↔ x ∈ pre by intro x; rw [← hBB]; split <;> simp)
                    have HBL := Lib.hid (show BB.length = pre.length by rw [← hBB]; split <;> simp)
                    obtain ⟨a2, r2, ml, h1, h2, h3, hmax⟩ := tg_move (b := b) (p := p) (a := a) (B := BB) (suf := (y :: s)) (la := la) (hi := hi) HLA.out (by rw [HBL.out, HHI.out]) HSUF.out (by
                      intro e
                      simp)
                    have HV3 := Lib.hid (show visF ls = visA hs v (tgF b p a2 r2) by rw [← h3, ← hBB, ← tg_run HPRE.out HSUF.out, ← HRR.out]; exact HVI2.out)
                    have H1 := Lib.hid h1
                    have H2 := Lib.hid h2
                    have hml : (ml : Int) + 1 ≤ 100001 := by
                      have e1 := congrArg List.length h1
                      have e2 := congrArg List.length HRR.out
                      simp at e1 e2
                      have := HBL.out
                      have := HLA.out
                      omega
                    have HX3 := Lib.hid (show ∀ x ∈ a2 ++ r2, x < n by
                      intro x hx
                      rw [h1] at hx
                      refine HXS2.out x ?_
                      rw [HRR.out]
                      simp only [List.mem_append] at hx ⊢
                      rcases hx with (hx | hx) | hx
                      · exact .inl hx
                      · exact .inr (.inl ((HBM.out x).1 hx))
                      · exact .inr (.inr hx))
                    have HBB := Lib.hid hBB
                    have HL3 := Lib.hid (show a2.length + r2.length = n by
                      have e1 := congrArg List.length h1
                      have e2 := congrArg List.length HRR.out
                      simp at e1 e2
                      have := HBL.out
                      have := HLA.out
                      omega)
                    clear h1 h2 h3 hBB
                    cases b with
                    | true =>
                      have HT := Lib.hid (show ∀ W : World, W.ownsRow w1.heap.size 3 1 (.slice (some ⟨g, 0, none⟩) n c2) n (nV (a ++ pre ++ (y :: s))) → Calls Try.prog 35 #[.slice (some ⟨g, 0, none⟩) n c2, .int .i64 (la : Int), .int .i64 (hi : Int)] W fun e w' => (∃ v, e = .returned v) ∧ w'.ownsRow w1.heap.size 3 1 (.slice (some ⟨g, 0, none⟩) n c2) n (nV (a2 ++ r2)) ∧ Below w1.heap.size W w' by
                        intro W h
                        have h9 := roTurn_any g n c2 a pre (y :: s) w1.heap.size W h hc2 hn
                        rw [HLA.out, HHI.out] at h9
                        rw [H1.out, ← HBB.out]
                        exact h9)
                      go_wp2_with (first
                        | (go_at_call 34; refine (HOD.out _ (HR1.out.below HB3.out)).mono ?_; rintro e w3 ⟨rfl, q, hw3⟩; have HO4 := Lib.hid (own_below HOW.out (drewBelow q)); have HB4 := Lib.hid (below_drew HB3.out q); rw [← hw3] at HO4 HB4; clear hw3)
                        | (go_at_call 35; refine (HT.out _ HO4.out).mono ?_; rintro e w4 ⟨⟨vr, rfl⟩, ho5, hb5⟩; have HO5 := Lib.hid ho5; have HB5 := Lib.hid (HB4.out.trans hb5); clear ho5 hb5)
                        | fail)
                      go_roundw
                      case rel => exact ⟨a2, r2, by rw [H2.out]; go_num, HL3.out, HX3.out, HV3.out, HO5.out, HB5.out⟩
                      case measure => have := H2.out; simp [intOf]; omega
                    | false =>
                      have HO4' := Lib.hid (show wr.ownsRow w1.heap.size 3 1 (.slice (some ⟨g, 0, none⟩) n c2) n (nV (a2 ++ r2)) by rw [H1.out, ← HBB.out]; exact HOW.out)
                      go_wp2_with (first
                        | (go_at_call 34; refine (HOD.out _ (HR1.out.below HB3.out)).mono ?_; rintro e w3 ⟨rfl, q, hw3⟩; have HO5 := Lib.hid (own_below HO4'.out (drewBelow q)); have HB5 := Lib.hid (below_drew HB3.out q); rw [← hw3] at HO5 HB5; clear hw3)
                        | fail)
                      go_roundw
                      case rel => exact ⟨a2, r2, by rw [H2.out]; go_num, HL3.out, HX3.out, HV3.out, HO5.out, HB5.out⟩
                      case measure => have := H2.out; simp [intOf]; omega
            · have hr0 : r = [] := List.eq_nil_of_length_eq_zero (by omega)
              subst hr0
              rw [tg_end] at HVI2
              rw [List.append_nil] at HO3 HXS2
              have hln : ¬ (la : Int) < (n : Int) := by omega
              go_wp2
              go_roundw
              case rel => exact ⟨v, a, by omega, by rw [show V - 1 = (v : Int) by have := HVV.out; omega], HXS2.out, HVI2.out, HO3.out, HB3.out⟩
              case measure => have := HVV.out; simp [intOf]; omega
end Go.Proofs.Ytbnjflkafdkcpaa
/- In which order places are seen, as numbers: what the reference answers. -/
namespace Go.Proofs.Ytbnjflkafdkcpaa
open Go.RowKit

/-- In which order places are seen, as numbers. -/
def visI (ls : List Int) : List Int := (visF ls).map fun i => ((i : Nat) : Int)
theorem visI_len (ls : List Int) : (visI ls).length = ls.length := by unfold visI; rw [List.length_map, vis_len]
theorem visI_perm (ls : List Int) : permB (visI ls) = true := by
  have hp := vis_perm ls
  apply decide_eq_true
  refine ⟨fun x hx => ?_, ?_⟩
  · obtain ⟨i, hi, rfl⟩ := List.mem_map.1 hx
    have := List.mem_range.1 (hp.mem_iff.1 hi)
    rw [visI_len]
    omega
  · unfold visI
    rw [List.Nodup, List.pairwise_map]
    exact ((hp.nodup_iff.2 List.nodup_range) : (visF ls).Nodup).imp (fun {a b} h e => h (by omega))
theorem visI_nat (ls : List Int) : natL (visI ls) = visF ls := by
  unfold natL visI
  rw [List.map_map]
  exact List.map_id'' (fun x => by simp) _
theorem roVis_any (A : Option Addr) (n c : Nat) (ls : List Int) (w : World) (hr : Rd w 1 A n (ls.map (Value.int .i64))) (hn : n ≤ 100000) :
    Calls Try.prog 15 #[.slice A n c] w fun e w' => ∃ v, e = .returned v ∧ w'.ownsRow w.heap.size 3 1 v n ((visI ls).map (Value.int .i64)) ∧ Below w.heap.size w w' := by
  have h := roVisual_any A n c ls w hr hn
  have e : nV (visF ls) = (visI ls).map (Value.int .i64) := by unfold nV visI; rw [List.map_map]; rfl
  rw [e] at h
  exact h
end Go.Proofs.Ytbnjflkafdkcpaa
