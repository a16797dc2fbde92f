/- naskhlaw25.BrackApart. -/
import Derived.Test.YtpddjojgcenlkaaBkAw
import Derived.BigQuiet
import Derived.Deep.Cut
import Derived.Deep.DeepCutAuto
namespace Go.Proofs.Ytpddjojgcenlkaa
open Go.RowKit

set_option maxRecDepth 100000 in
set_option maxHeartbeats 4000000 in
theorem brackApart_any (A B : Option Addr) (n m c d : Nat) (cs ls : List Int) (w : World) (hr : Rd w 1 A n (cs.map (Value.int .i64))) (hs : Rd w 1 B m (ls.map (Value.int .i64))) (hn : n ≤ maxLen) (hm : m ≤ maxLen) :
    Calls Try.prog 4 #[.slice A n c, .slice B m d] w fun e w' => e = .returned (.bool true) ∧ Below w.heap.size w w' := by
  unfold maxLen at hn hm
  have HAW := Lib.hid awakeBk_any
  by_cases hn3 : 300 < n
  · have g1 : decide ((300 : Int) < (n : Int)) = true := decide_eq_true (by omega)
    go_enter Try.func4, Try.ntmps4
    go_wp2_with (first
      | (go_at_call 6; refine (HAW.out _).mono ?_; rintro e w1 ⟨rfl, hb1⟩)
      | fail)
    go_ret
    exact ⟨rfl, hb1⟩
  · have g1 : decide ((300 : Int) < (n : Int)) = false := decide_eq_false (by omega)
    by_cases hm3 : 300 < m
    · have g2 : decide ((300 : Int) < (m : Int)) = true := decide_eq_true (by omega)
      go_enter Try.func4, Try.ntmps4
      go_wp2_with (first
        | (go_at_call 6; refine (HAW.out _).mono ?_; rintro e w1 ⟨rfl, hb1⟩)
        | fail)
      go_ret
      exact ⟨rfl, hb1⟩
    · have g2 : decide ((300 : Int) < (m : Int)) = false := decide_eq_false (by omega)
      have HF := Lib.hid (bkFind_any A B n c m d cs ls w hr hs (by omega) (by omega))
      have hok := bkF_ok cs ls
      rw [show cs.length = n by simpa using hr.len1] at hok
      have hK3 : (bkF cs ls).length ≤ 300 := by
        unfold bkF
        split
        · have h1 := bk_outs (fun i => decide (ls.getD i 0 = 13)) (fun i => (braF (cs.getD i 0)).1) (fun o i => bmF (cs.getD o 0) (cs.getD i 0)) cs.length
          have h2 : cs.length = n := by simpa using hr.len1
          omega
        · simp
      obtain ⟨ps, hps⟩ : ∃ ps, bkF cs ls = ps := ⟨_, rfl⟩
      rw [hps] at HF hok hK3
      have HOK := Lib.hid hok
      obtain ⟨K, hK⟩ : ∃ K, ps.length = K := ⟨_, rfl⟩
      rw [hK] at HF hK3
      have HK := Lib.hid hK
      clear hr hs hok hps hK
      go_enter Try.func4, Try.ntmps4
      go_wp2_with (first
        | (go_at_call 8; refine HF.out.mono ?_; rintro e w1 ⟨v1, rfl, hv1, hb1⟩; obtain ⟨P, cp, he1, hcp⟩ := own_form hv1; subst he1; have HR1 := Lib.hid (Rd.of_own hv1); have HB1 := Lib.hid hb1; clear hv1 hb1)
        | fail)
      go_loopw [24] (fun i wr => ∃ k : Nat, k ≤ K ∧ i = .int .i64 (k : Int) ∧ Below w1.heap.size w1 wr) (fun i _ => K - (intOf i).toNat)
      case atStart => exact ⟨0, Nat.zero_le _, rfl, Below.refl _ _⟩
      case round =>
        obtain ⟨k, hk, rfl, hb⟩ := hrel
        have HB := Lib.hid hb
        by_cases hlt : k < K
        · obtain ⟨⟨p1, p2⟩, hpk⟩ : ∃ p, ps[k]? = some p := ⟨_, List.getElem?_eq_getElem (by rw [HK.out]; exact hlt)⟩
          have hmem := List.mem_of_getElem? hpk
          obtain ⟨hp12, hp2n⟩ := HOK.out.pair (p1, p2) hmem
          have hsp : (prL ps)[k]? = some ((p1 : Int), (p2 : Int)) := by unfold prL; rw [List.getElem?_map, hpk]; rfl
          obtain ⟨ad, rfl, hab, d1, d2⟩ := (HR1.out.below HB.out).span hsp
          simp only at hp12 hp2n d1 d2
          have HPS := Lib.hid (show ∀ j q1 q2 : Nat, j < k → ps[j]? = some (q1, q2) → q1 < p1 ∧ q2 ≠ p2 ∧ ¬ (p1 < q2 ∧ q2 < p2) by
            intro j q1 q2 hj hq
            have h1 := List.pairwise_iff_getElem.1 HOK.out.sort j k (by rw [HK.out]; omega) (by rw [HK.out]; exact hlt) hj
            rw [(List.getElem?_eq_some_iff.1 hq).2, (List.getElem?_eq_some_iff.1 hpk).2] at h1
            simp only at h1
            have h2 := HOK.out.apart (q1, q2) (List.mem_of_getElem? hq) (p1, p2) hmem (fun e => by simp at e; omega)
            simp only at h2
            exact ⟨h1, h2.1, fun h => h2.2 ⟨h1, h.1, h.2⟩⟩)
          obtain ⟨x1, hx1⟩ : ∃ x1 : Int, (p1 : Int) = x1 := ⟨_, rfl⟩
          obtain ⟨x2, hx2⟩ : ∃ x2 : Int, (p2 : Int) = x2 := ⟨_, rfl⟩
          rw [hx1] at d1
          rw [hx2] at d2
          have g31 : decide (x1 < 0) = false := decide_eq_false (by omega)
          have g37 : decide (x2 ≤ x1) = false := decide_eq_false (by omega)
          have g44 : decide ((n : Int) ≤ x2) = false := decide_eq_false (by omega)
          have hki : (k : Int) < (K : Int) := by omega
          have hbx := heap_alloc_new wr (.cells #[.int .i64 x1, .int .i64 x2] 27)
          have HBN := Lib.hid (below_new wr (.cells #[.int .i64 x1, .int .i64 x2] 27))
          obtain ⟨wb, hwb⟩ : ∃ wb, wr.alloc (.cells #[.int .i64 x1, .int .i64 x2] 27) = wb := ⟨_, rfl⟩
          obtain ⟨xb, hxb⟩ : ∃ xb, wr.heap.size = xb := ⟨_, rfl⟩
          rw [hwb] at hbx HBN
          rw [hxb] at hbx
          have HXB := Lib.hid hxb
          have HWB := Lib.hid hwb
          have e0 : wb.cell? ⟨xb, 0, none⟩ = some (.int .i64 x1) := hp_cell (j := 0) hbx rfl
          have e1 : wb.cell? ⟨xb, 1, none⟩ = some (.int .i64 x2) := hp_cell (j := 1) hbx rfl
          have HX1 := Lib.hid hx1
          have HX2 := Lib.hid hx2
          have HBB := Lib.hid (HB.out.trans (HBN.out.mono HB.out.size))
          clear hpk hmem hsp hp12 hp2n hb hx1 hx2 hbx hwb hxb
          go_wp2
          rw [HXB.out, HWB.out]
          clear d1 d2
          go_cut [60] from 29 to 60 (fun s60 wx => s60 = .bool false ∧ Below wb.heap.size wb wx)
          case first =>
            by_cases hk0 : k = 0
            · subst hk0
              go_quiet (fail)
              go_wp2
              go_meet
              case rel => exact ⟨rfl, ⟨rfl, rfl, rfl, Nat.le_refl _, fun _ _ => rfl⟩⟩
            · obtain ⟨q, rfl⟩ : ∃ q, k = q + 1 := ⟨k - 1, by omega⟩
              obtain ⟨⟨q1, q2⟩, hqk⟩ : ∃ p, ps[q]? = some p := ⟨_, List.getElem?_eq_getElem (by rw [HK.out]; omega)⟩
              have hsq : (prL ps)[q]? = some ((q1 : Int), (q2 : Int)) := by unfold prL; rw [List.getElem?_map, hqk]; rfl
              obtain ⟨ad', he', _, d1, _⟩ := (HR1.out.below HBB.out).span hsq
              obtain rfl := Option.some.inj he'
              have hlt1 := (HPS.out q q1 q2 (by omega) hqk).1
              simp only at d1
              obtain ⟨y1, hy1⟩ : ∃ y1 : Int, (q1 : Int) = y1 := ⟨_, rfl⟩
              rw [hy1] at d1
              have g58 : decide (x1 ≤ y1) = false := decide_eq_false (by have := HX1.out; omega)
              have g48 : decide ((0 : Int) < ((q + 1 : Nat) : Int)) = true := decide_eq_true (by omega)
              have hq1 : ((q + 1 : Nat) : Int) - 1 = (q : Int) := by omega
              have hqK : (q : Int) < (K : Int) := by omega
              obtain ⟨kk, hkk⟩ : ∃ kk : Int, ((q + 1 : Nat) : Int) = kk := ⟨_, rfl⟩
              rw [hkk] at g48 hq1 hki ⊢
              have HKK := Lib.hid hkk
              clear hkk hqk hsq he' hlt1 hy1
              go_quiet (fail)
              go_wp2
              have hkk := HKK.out
              subst hkk
              go_meet
              case rel => exact ⟨rfl, ⟨rfl, rfl, rfl, Nat.le_refl _, fun _ _ => rfl⟩⟩
          case rest =>
            obtain ⟨rfl, hwx⟩ := hcut
            have HX0 := Lib.hid (show Below w1.heap.size w1 wc from below_self HBB.out hwx)
            have f0 := cell_below hwx e0
            have f1 := cell_below hwx e1
            have F0 := Lib.hid f0
            have F1 := Lib.hid f1
            have hkc : (k : Int) ≤ (cp : Int) := by omega
            clear e0 e1 f0 f1 hwx hab
            go_wp2
            go_loopw [65] (fun i wi => ∃ j : Nat, j ≤ k ∧ i = .int .i64 (j : Int) ∧ Below wc.heap.size wc wi) (fun i _ => k - (intOf i).toNat)
            case atStart => exact ⟨0, Nat.zero_le _, rfl, Below.refl _ _⟩
            case round =>
              obtain ⟨j, hj, rfl, hbi⟩ := hrel
              have HBI := Lib.hid hbi
              clear hbi
              by_cases hjk : j < k
              · obtain ⟨⟨q1, q2⟩, hqk⟩ : ∃ p, ps[j]? = some p := ⟨_, List.getElem?_eq_getElem (by rw [HK.out]; omega)⟩
                have hsq : (prL ps)[j]? = some ((q1 : Int), (q2 : Int)) := by unfold prL; rw [List.getElem?_map, hqk]; rfl
                obtain ⟨ad', he', _, d1, d2⟩ := (HR1.out.below (below_self HX0.out HBI.out)).span hsq
                obtain rfl := Option.some.inj he'
                obtain ⟨ha1, ha2, ha3⟩ := HPS.out j q1 q2 hjk hqk
                simp only at d1 d2
                obtain ⟨y1, hy1⟩ : ∃ y1 : Int, (q1 : Int) = y1 := ⟨_, rfl⟩
                obtain ⟨y2, hy2⟩ : ∃ y2 : Int, (q2 : Int) = y2 := ⟨_, rfl⟩
                rw [hy1] at d1
                rw [hy2] at d2
                have gq : (y2 == x2) = false := by have := HX2.out; simp; omega
                have gl : y1 < x1 := by have := HX1.out; omega
                have gc : ¬ (x1 < y2 ∧ y2 < x2) := by have h1 := HX1.out; have h2 := HX2.out; omega
                have hjki : (j : Int) < (k : Int) := by omega
                have f0 := cell_below (HBI.out.trans ((below_new _ (.cells #[.int .i64 y1, .int .i64 y2] 27)).mono HBI.out.size)) F0.out
                have f1 := cell_below (HBI.out.trans ((below_new _ (.cells #[.int .i64 y1, .int .i64 y2] 27)).mono HBI.out.size)) F1.out
                have HBJ := Lib.hid (HBI.out.trans ((below_new _ (.cells #[.int .i64 y1, .int .i64 y2] 27)).mono HBI.out.size))
                clear hqk hsq he' ha1 ha2 ha3 hy1 hy2
                by_cases hc1 : x1 < y2
                · have hc2 : ¬ y2 < x2 := fun h => gc ⟨hc1, h⟩
                  clear gc
                  go_wp2
                  go_roundw
                  case rel => exact ⟨j + 1, by omega, by go_num, HBJ.out⟩
                  case measure => simp [intOf]; omega
                · clear gc
                  go_wp2
                  go_roundw
                  case rel => exact ⟨j + 1, by omega, by go_num, HBJ.out⟩
                  case measure => simp [intOf]; omega
              · obtain rfl : j = k := by omega
                go_wp2
                go_roundw
                case rel => exact ⟨j + 1, by omega, by go_num, below_self HX0.out HBI.out⟩
                case measure => simp [intOf]; omega
        · obtain rfl : k = K := by omega
          go_wp2_with (first
            | (go_at_call 6; refine (HAW.out _).mono ?_; rintro e w4 ⟨rfl, hb4⟩; have HB4 := Lib.hid (below_self HB1.out (below_self HB.out hb4)); clear hb4)
            | fail)
          go_ret
          exact ⟨rfl, HB4.out⟩
end Go.Proofs.Ytpddjojgcenlkaa
