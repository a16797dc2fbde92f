/- Texts of one claim, one behind the other. -/
import Derived.Deep.RegionHeld3
import Derived.Test.YtmgoakfnmgngoaaMgSm1
import Derived.Test.YtmgoakfnmgngoaaMgSm2
import Derived.Test.YtmgoakfnmgngoaaMgSm3
/- cluster's sizes, walked. -/
namespace Go.Proofs.Ytmgoakfnmgngoaa
open Go.RowKit

set_option maxRecDepth 100000 in
set_option maxHeartbeats 1000000 in
theorem prSizes_any (A : Option Addr) (n c : Nat) (l : List Cl) (w : World) (hr : Rd w 4 A n (cellsC l)) (hn : n ≤ 1000000) :
    Calls Try.prog 56 #[.slice A n c] w fun e w' => e = .returned (.tuple #[.int .i64 (insS l), .int .i64 (outsS l)]) ∧ Below w.heap.size w w' := by
  have hlen : l.length = n := by have := hr.1; rw [cellsC_len] at this; omega
  have HL := Lib.hid hlen
  have HR := Lib.hid hr
  clear hlen hr
  go_enter Try.func56, Try.ntmps56
  go_wp2_with fail
  go_loopw [2, 3, 8] (fun x z i wr => ∃ (k : Nat) (y t : Int), k ≤ n ∧ i = .int .i64 (k : Int) ∧ x = .int .i64 y ∧ z = .int .i64 t ∧ insS l = (l.drop k).foldl insStep y ∧ outsS l = (l.drop k).foldl outsStep t ∧ Below w.heap.size w wr) (fun _ _ i _ => n - (intOf i).toNat)
  case atStart => exact ⟨0, 0, 0, Nat.zero_le _, rfl, rfl, rfl, rfl, rfl, Below.refl _ _⟩
  case round =>
    obtain ⟨k, y, t, hk, rfl, rfl, rfl, hh, hg, hb⟩ := hrel
    have HH := Lib.hid hh
    have HG := Lib.hid hg
    clear hh hg
    by_cases hlt : k < n
    · obtain ⟨s, hsk⟩ : ∃ s, l[k]? = some s := ⟨_, List.getElem?_eq_getElem (by rw [HL.out]; exact hlt)⟩
      have HD := Lib.hid (dropCons hsk)
      obtain ⟨ad, rfl, hab, c0, c1, c2, c3⟩ := (HR.out.below hb).clus hsk
      clear hsk
      obtain ⟨⟨s1, s2⟩, s3, s4⟩ := s
      simp only at c0 c1 c2 c3
      have hnw := cells_new wr [.int .i64 s1, .int .i64 s2, .int .i64 s3, .int .i64 s4] 33
      have d0 := hnw 0 _ rfl
      have d1 := hnw 1 _ rfl
      have d2 := hnw 2 _ rfl
      have d3 := hnw 3 _ rfl
      rw [addNew] at d0 d1 d2 d3
      have hb2 := hb.alloc hb.size (.cells #[.int .i64 s1, .int .i64 s2, .int .i64 s3, .int .i64 s4] 33)
      clear hnw
      have HI := Lib.hid (show insS l = (l.drop (k + 1)).foldl insStep (insStep y ((s1, s2), (s3, s4))) by rw [HH.out, HD.out]; rfl)
      have HO := Lib.hid (show outsS l = (l.drop (k + 1)).foldl outsStep (outsStep t ((s1, s2), (s3, s4))) by rw [HG.out, HD.out]; rfl)
      by_cases h1 : y < s2 <;> by_cases h2 : t < s4
      all_goals (
        go_wp2_with fail
        go_region
        go_wp2_with fail
        go_roundw
        case rel => exact ⟨k + 1, _, _, by omega, by go_num, by simp only [insStep]; first | rw [if_pos h1] | rw [if_neg h1] | rw [if_neg (by omega)], by simp only [outsStep]; first | rw [if_pos h2] | rw [if_neg h2] | rw [if_neg (by omega)], HI.out, HO.out, hb2.drew⟩
        case measure => simp [intOf]; omega)
    · have HZ := Lib.hid (show insS l = y by rw [HH.out, List.drop_eq_nil_of_le (by rw [HL.out]; omega)]; rfl)
      have HY := Lib.hid (show outsS l = t by rw [HG.out, List.drop_eq_nil_of_le (by rw [HL.out]; omega)]; rfl)
      go_wp2_with fail
      exact bodyPost_ret (v := .tuple #[.int .i64 y, .int .i64 t]) (by simp [results, go_sem]) rfl ⟨by rw [HZ.out, HY.out], hb⟩
end Go.Proofs.Ytmgoakfnmgngoaa
/- The reference's sorted of spans. -/
namespace Go.Proofs.Ytmgoakfnmgngoaa
open Go.RowKit

set_option maxRecDepth 100000 in
set_option maxHeartbeats 4000000 in
theorem refSorted_any (A : Option Addr) (n c : Nat) (l : List Sp) (w : World) (hr : Rd w 2 A n (cellsS l)) (hn : n ≤ 1000000) :
    Calls Try.prog 45 #[.slice A n c] w fun e w' => ∃ v, e = .returned v ∧ w'.ownsRow w.heap.size 31 2 v n (cellsS (sortR l)) ∧ Below w.heap.size w w' := by
  have hlen : l.length = n := by have := hr.1; rw [cellsS_len] at this; omega
  have HL := Lib.hid hlen
  clear hlen
  go_enter Try.func45, Try.ntmps45
  go_wp2
  go_loopw [3, 4] (fun v i wr => ∃ k : Nat, k ≤ n ∧ i = .int .i64 k ∧ wr.ownsRow w.heap.size 31 2 v k (cellsS (sortR (l.take k))) ∧ Below w.heap.size w wr) (fun _ i _ => n - (intOf i).toNat)
  case atStart => exact ⟨0, Nat.zero_le _, rfl, ⟨rfl, .inl ⟨rfl, rfl⟩⟩, Below.refl _ _⟩
  case round =>
    obtain ⟨k, hk, rfl, hv, hb⟩ := hrel
    obtain ⟨V, cv, rfl, hcv⟩ := own_form hv
    by_cases hlt : k < n
    · obtain ⟨s, hsk⟩ : ∃ s, l[k]? = some s := ⟨_, List.getElem?_eq_getElem (by rw [HL.out]; exact hlt)⟩
      obtain ⟨ad, rfl, hab, c1, c2⟩ := (hr.below hb).span hsk
      have HSS := Lib.hid (show sortR (l.take (k + 1)) = insLo (sortR (l.take k)) s by rw [List.take_add_one, hsk]; exact sortR_snoc _ _)
      clear hsk
      have hrd := Rd.of_own hv
      have hcap : cv ≤ maxLen := by
        rcases hv.2 with ⟨e, _⟩ | ⟨g, cap, cur, e, _, _, _, hcm, _⟩
        · injection e with _ _ e; subst e; exact Nat.zero_le _
        · injection e with _ _ e; subst e; exact hcm
      unfold maxLen at hcap
      obtain ⟨acc, hacc⟩ : ∃ acc, sortR (l.take k) = acc := ⟨_, rfl⟩
      rw [hacc] at hrd HSS
      have hal : acc.length = k := by rw [← hacc, sortR_len, List.length_take, HL.out]; omega
      have HAL := Lib.hid hal
      clear hacc hal hv
      obtain ⟨x, y⟩ := s
      simp only at c1 c2
      go_wp2
      obtain ⟨wo, rfl⟩ : ∃ wo : World, wo = wr := ⟨_, rfl⟩
      go_loopw [5] (fun i wi => ∃ j q : Nat, j ≤ k ∧ i = .int .i64 j ∧ wi = wo.drewN q ∧ ∀ t ∈ acc.take j, t.1 ≤ x) (fun i _ => k - (intOf i).toNat)
      case atStart => exact ⟨0, 0, Nat.zero_le _, rfl, rfl, by simp⟩
      case round =>
        obtain ⟨j, q, hj, rfl, rfl, hle⟩ := hrel
        have HLE := Lib.hid hle
        clear hle
        by_cases hgo : ∃ t, acc[j]? = some t ∧ t.1 ≤ x
        · obtain ⟨t, htj, hpx⟩ := hgo
          have hjk : j < k := by have := (List.getElem?_eq_some_iff.1 htj).1; rw [HAL.out] at this; exact this
          obtain ⟨av, rfl, hav, d1, d2⟩ := hrd.span htj
          have HT := Lib.hid htj
          clear htj
          obtain ⟨p, r⟩ := t
          simp only at d1 d2 hpx
          have HN := Lib.hid (show ∀ t ∈ acc.take (j + 1), t.1 ≤ x by
            intro t ht
            rw [List.take_add_one, HT.out] at ht
            simp at ht
            rcases ht with ht | rfl
            · exact HLE.out t ht
            · exact hpx)
          go_wp2
          go_quiet (fail)
          go_wp2
          go_roundw
          case rel => exact ⟨j + 1, _, by omega, by go_num, rfl, HN.out⟩
          case measure => simp [intOf]; omega
        · have HI := Lib.hid (show cellsS (insLo acc (x, y)) = cellsS (acc.take j) ++ [.int .i64 x, .int .i64 y] ++ cellsS (acc.drop j) by
            rw [insLo_at HLE.out (by
              by_cases hjk : j < k
              · obtain ⟨t, htj⟩ : ∃ t, acc[j]? = some t := ⟨_, List.getElem?_eq_getElem (by rw [HAL.out]; exact hjk)⟩
                exact .inr ⟨t, htj, fun h => hgo ⟨t, htj, h⟩⟩
              · exact .inl (by rw [HAL.out]; omega))]
            simp [cellsS, encS])
          have HGO := Lib.hid hgo
          clear hgo
          by_cases hjk : j < k
          · obtain ⟨t, htj⟩ : ∃ t, acc[j]? = some t := ⟨_, List.getElem?_eq_getElem (by rw [HAL.out]; exact hjk)⟩
            obtain ⟨av, rfl, hav, d1, d2⟩ := hrd.span htj
            obtain ⟨p, r⟩ := t
            have hnp : decide (p ≤ x) = false := decide_eq_false (fun h => HGO.out ⟨_, htj, h⟩)
            simp only at d1 d2
            clear htj
            go_wp2
            go_quiet (fail)
            go_wp2
            have i0 : (0 : Int) ≤ (j : Int) := by omega
            have i1 : (j : Int) ≤ (k : Int) := by omega
            have i2 : (j : Int) ≤ (cv : Int) := by omega
            have i3 : (k : Int) ≤ (cv : Int) := by omega
            have hcjn : ¬ cv = j := by omega
            have hbq : Below wo.heap.size wo ((wo.drewN q).drewN nq) := below_drewN (drewBelow q) nq
            have e1 : ((wo.drewN q).drewN nq).cell? (ad.add (k * 2)) = some (.int .i64 x) := c1
            have e2 : ((wo.drewN q).drewN nq).cell? ⟨(ad.add (k * 2)).block, (ad.add (k * 2)).off + 1, none⟩ = some (.int .i64 y) := c2
            have hrq := hrd.below hbq
            have hbw : Below w.heap.size w ((wo.drewN q).drewN nq) := hb.trans (hbq.mono hb.size)
            generalize ((wo.drewN q).drewN nq) = wq at *
            have HT := Lib.hid (hrq.takeS (k := j) (by omega))
            have HD := Lib.hid (show ∀ w', Below wq.heap.size wq w' → Rd w' 2 (some (av.add (j * 2))) (k - j) (cellsS (acc.drop j)) from fun w' h => by
              have := hrq.dropS (k := j) (by omega) hcv
              rw [if_neg (by omega)] at this
              exact this.below h)
            have HKB := Lib.hid (show ∀ w', Below wq.heap.size wq w' → w'.cell? (ad.add (k * 2)) = some (.int .i64 x) ∧ w'.cell? ⟨(ad.add (k * 2)).block, (ad.add (k * 2)).off + 1, none⟩ = some (.int .i64 y) from
              fun w' h => ⟨cell_below h e1, cell_below h e2⟩)
            clear e1 e2 c1 c2 hrq hrd hbq
            go_region_held3 (fun w' => w'.cell? (ad.add (k * 2)) = some (.int .i64 x) ∧ w'.cell? ⟨(ad.add (k * 2)).block, (ad.add (k * 2)).off + 1, none⟩ = some (.int .i64 y))
              (first
                | exact HKB.out _ (Below.refl _ _)
                | exact HKB.out _ (Below.refl _ _).drew
                | exact HKB.out _ (below_new wq (.cells #[.int .i64 x, .int .i64 y] 31)).drew
                | exact HKB.out _ HB1
                | exact HKB.out _ (HB1.alloc HB1.size (.cells #[.int .i64 x, .int .i64 y] 31))
                | exact HKB.out _ HB2
                | exact HKB.out _ HB3
                | fail)
              (first
                | (refine step_appR rfl _ _ _ rfl spanSlice (by decide) v2 (j + 1) _ rfl hown2 _ _ _ (cellsS (acc.drop j)) rfl (by first | exact HD.out _ HB2 | (rw [if_neg hcjn]; exact HD.out _ HB2)) (cellsS_one _) (by omega) (by unfold maxLen; omega) HB2.size _ rfl ?_; intro v3 w3 hown3 hgr3 hat3; have HB3 := HB2.grown hgr3 HB2.size (fun k h => (hown2.lt k h).1))
                | (refine step_appR rfl _ _ _ rfl spanSlice (by decide) v1 j _ rfl hown1b _ 1 1 [.int .i64 x, .int .i64 y] rfl hn2.out (oneInt2 _ _ _) (by omega) (by unfold maxLen; omega) HB1b.size _ rfl ?_; intro v2 w2 hown2 hgr2 hat2; have HB2 := HB1b.grown hgr2 HB1b.size (fun k h => (hown1.lt k h).1))
                | (refine step_appR rfl _ _ _ rfl spanSlice (by decide) (.slice none 0 0) 0 [] rfl (World.ownsRow_nil wq.drew wq.heap.size _ _) _ j _ (cellsS (acc.take j)) rfl (HT.out.below (Below.refl _ _).drew) (cellsS_one _) (by omega) (by unfold maxLen; omega) (Nat.le_refl _) _ rfl ?_; intro v1 w1 hown1 hgr1 hat1; simp only [Nat.zero_add, List.nil_append] at hown1; have HB1 : Below wq.heap.size wq w1 := (Below.refl _ _).drew.grown hgr1 (Nat.le_refl _) (fun k h => by cases h); have hown1b := hown1.alloc (.cells #[.int .i64 x, .int .i64 y] 31); have hn2 := Lib.hid (rd_blk (m := 1) (cs := [.int .i64 x, .int .i64 y]) 2 (heap_alloc_new w1 (.cells #[.int .i64 x, .int .i64 y] 31)) rfl); have HB1b := HB1.alloc HB1.size (.cells #[.int .i64 x, .int .i64 y] 31))
                | (refine step_appR rfl _ _ _ rfl spanSlice (by decide) (.slice none 0 0) 0 [] rfl (World.ownsRow_nil (wq.alloc (.cells #[.int .i64 x, .int .i64 y] 31)).drew wq.heap.size _ _) _ j _ (cellsS (acc.take j)) rfl (HT.out.below (below_new wq (.cells #[.int .i64 x, .int .i64 y] 31)).drew) (cellsS_one _) (by omega) (by unfold maxLen; omega) (by simp) _ rfl ?_; intro v1 w1 hown1 hgr1 hat1; simp only [Nat.zero_add, List.nil_append] at hown1; have HB1 : Below wq.heap.size wq w1 := (below_new wq (.cells #[.int .i64 x, .int .i64 y] 31)).drew.grown hgr1 (by simp) (fun k h => by cases h); have hown1b := hown1; have hn2 := Lib.hid (rd_blk (m := 1) (cs := [.int .i64 x, .int .i64 y]) 2 (blk_grown (w := (wq.alloc (.cells #[.int .i64 x, .int .i64 y] 31)).drew) (heap_alloc_new wq (.cells #[.int .i64 x, .int .i64 y] 31)) hgr1 (by simp [Value.ownBlock])) rfl); have HB1b := HB1)
                | fail)
            all_goals
              have hfin := Lib.hid (show w3.ownsRow w.heap.size 31 2 v3 (k + 1) (cellsS (sortR (l.take (k + 1)))) by
                rw [HSS.out, HI.out]
                have := own_base hown3 hbw.size
                rwa [show j + 1 + (k - j) = k + 1 by omega] at this)
              have hbf := hbw.trans (HB3.mono hbw.size)
              clear hat1 hat2 hat3
              go_wp2
              go_roundw
              case rel => exact ⟨k + 1, by omega, by go_num, hfin.out, hbf⟩
              case measure => simp [intOf]; omega
          · have hjd : decide ((j : Int) < k) = false := decide_eq_false (by omega)
            rcases V with _ | av <;> by_cases hcj : cv = j
            all_goals
              go_wp2
              go_quiet (fail)
              go_wp2
              have i0 : (0 : Int) ≤ (j : Int) := by omega
              have i1 : (j : Int) ≤ (k : Int) := by omega
              have i2 : (j : Int) ≤ (cv : Int) := by omega
              have i3 : (k : Int) ≤ (cv : Int) := by omega
              have hbq : Below wo.heap.size wo ((wo.drewN q).drewN nq) := below_drewN (drewBelow q) nq
              have e1 : ((wo.drewN q).drewN nq).cell? (ad.add (k * 2)) = some (.int .i64 x) := c1
              have e2 : ((wo.drewN q).drewN nq).cell? ⟨(ad.add (k * 2)).block, (ad.add (k * 2)).off + 1, none⟩ = some (.int .i64 y) := c2
              have hrq := hrd.below hbq
              have hbw : Below w.heap.size w ((wo.drewN q).drewN nq) := hb.trans (hbq.mono hb.size)
              generalize ((wo.drewN q).drewN nq) = wq at *
              have HT := Lib.hid (hrq.takeS (k := j) (by omega))
              have HD := Lib.hid (show ∀ w', Below wq.heap.size wq w' → ∀ A, Rd w' 2 A (k - j) (cellsS (acc.drop j)) from fun w' h A => by
                rw [List.drop_eq_nil_of_le (by rw [HAL.out]; omega), show k - j = 0 by omega]
                exact Rd.nil_)
              have HKB := Lib.hid (show ∀ w', Below wq.heap.size wq w' → w'.cell? (ad.add (k * 2)) = some (.int .i64 x) ∧ w'.cell? ⟨(ad.add (k * 2)).block, (ad.add (k * 2)).off + 1, none⟩ = some (.int .i64 y) from
                fun w' h => ⟨cell_below h e1, cell_below h e2⟩)
              clear e1 e2 c1 c2 hrq hrd hbq
              go_region_held3 (fun w' => w'.cell? (ad.add (k * 2)) = some (.int .i64 x) ∧ w'.cell? ⟨(ad.add (k * 2)).block, (ad.add (k * 2)).off + 1, none⟩ = some (.int .i64 y))
                (first
                  | exact HKB.out _ (Below.refl _ _)
                  | exact HKB.out _ (Below.refl _ _).drew
                  | exact HKB.out _ (below_new wq (.cells #[.int .i64 x, .int .i64 y] 31)).drew
                  | exact HKB.out _ HB1
                  | exact HKB.out _ (HB1.alloc HB1.size (.cells #[.int .i64 x, .int .i64 y] 31))
                  | exact HKB.out _ HB2
                  | exact HKB.out _ HB3
                  | fail)
                (first
                  | (refine step_appR rfl _ _ _ rfl spanSlice (by decide) v2 (j + 1) _ rfl hown2 _ _ _ (cellsS (acc.drop j)) rfl (HD.out _ HB2 _) (cellsS_one _) (by omega) (by unfold maxLen; omega) HB2.size _ rfl ?_; intro v3 w3 hown3 hgr3 hat3; have HB3 := HB2.grown hgr3 HB2.size (fun k h => (hown2.lt k h).1))
                  | (refine step_appR rfl _ _ _ rfl spanSlice (by decide) v1 j _ rfl hown1b _ 1 1 [.int .i64 x, .int .i64 y] rfl hn2.out (oneInt2 _ _ _) (by omega) (by unfold maxLen; omega) HB1b.size _ rfl ?_; intro v2 w2 hown2 hgr2 hat2; have HB2 := HB1b.grown hgr2 HB1b.size (fun k h => (hown1.lt k h).1))
                  | (refine step_appR rfl _ _ _ rfl spanSlice (by decide) (.slice none 0 0) 0 [] rfl (World.ownsRow_nil wq.drew wq.heap.size _ _) _ j _ (cellsS (acc.take j)) rfl (HT.out.below (Below.refl _ _).drew) (cellsS_one _) (by omega) (by unfold maxLen; omega) (Nat.le_refl _) _ rfl ?_; intro v1 w1 hown1 hgr1 hat1; simp only [Nat.zero_add, List.nil_append] at hown1; have HB1 : Below wq.heap.size wq w1 := (Below.refl _ _).drew.grown hgr1 (Nat.le_refl _) (fun k h => by cases h); have hown1b := hown1.alloc (.cells #[.int .i64 x, .int .i64 y] 31); have hn2 := Lib.hid (rd_blk (m := 1) (cs := [.int .i64 x, .int .i64 y]) 2 (heap_alloc_new w1 (.cells #[.int .i64 x, .int .i64 y] 31)) rfl); have HB1b := HB1.alloc HB1.size (.cells #[.int .i64 x, .int .i64 y] 31))
                  | (refine step_appR rfl _ _ _ rfl spanSlice (by decide) (.slice none 0 0) 0 [] rfl (World.ownsRow_nil (wq.alloc (.cells #[.int .i64 x, .int .i64 y] 31)).drew wq.heap.size _ _) _ j _ (cellsS (acc.take j)) rfl (HT.out.below (below_new wq (.cells #[.int .i64 x, .int .i64 y] 31)).drew) (cellsS_one _) (by omega) (by unfold maxLen; omega) (by simp) _ rfl ?_; intro v1 w1 hown1 hgr1 hat1; simp only [Nat.zero_add, List.nil_append] at hown1; have HB1 : Below wq.heap.size wq w1 := (below_new wq (.cells #[.int .i64 x, .int .i64 y] 31)).drew.grown hgr1 (by simp) (fun k h => by cases h); have hown1b := hown1; have hn2 := Lib.hid (rd_blk (m := 1) (cs := [.int .i64 x, .int .i64 y]) 2 (blk_grown (w := (wq.alloc (.cells #[.int .i64 x, .int .i64 y] 31)).drew) (heap_alloc_new wq (.cells #[.int .i64 x, .int .i64 y] 31)) hgr1 (by simp [Value.ownBlock])) rfl); have HB1b := HB1)
                  | fail)
              all_goals
                have hfin := Lib.hid (show w3.ownsRow w.heap.size 31 2 v3 (k + 1) (cellsS (sortR (l.take (k + 1)))) by
                  rw [HSS.out, HI.out]
                  have := own_base hown3 hbw.size
                  rwa [show j + 1 + (k - j) = k + 1 by omega] at this)
                have hbf := hbw.trans (HB3.mono hbw.size)
                clear hat1 hat2 hat3
                go_wp2
                go_roundw
                case rel => exact ⟨k + 1, by omega, by go_num, hfin.out, hbf⟩
                case measure => simp [intOf]; omega
    · obtain rfl : k = n := by omega
      have HK := Lib.hid (show l.take k = l by rw [List.take_of_length_le (by rw [HL.out]; omega)])
      rw [HK.out] at hv
      go_wp2
      go_ret
      exact ⟨_, rfl, hv, hb⟩
end Go.Proofs.Ytmgoakfnmgngoaa
/- The reference's sorted of spans, and its Check of clusters. -/
namespace Go.Proofs.Ytmgoakfnmgngoaa
open Go.RowKit

set_option maxRecDepth 100000 in
set_option maxHeartbeats 4000000 in
theorem refCheckC_any (A : Option Addr) (n c : Nat) (l : List Cl) (m p : Int) (w : World) (hr : Rd w 4 A n (cellsC l)) (hn : n ≤ 1000000) :
    Calls Try.prog 14 #[.slice A n c, .int .i64 m, .int .i64 p] w fun e w' => e = .returned (.bool (checkC l m p)) ∧ Below w.heap.size w w' := by
  have hlen : l.length = n := by have := hr.1; rw [cellsC_len] at this; omega
  have HL := Lib.hid hlen
  clear hlen
  obtain ⟨ht, i0, z0, hi0, hz0, hz1, hz2, hz3⟩ := spanSlice
  go_enter Try.func14, Try.ntmps14
  go_wp2
  go_loopw [7, 8, 9] (fun v u i wr => ∃ k : Nat, k ≤ n ∧ i = .int .i64 k ∧ wr.ownsRow w.heap.size 31 2 v k (cellsS ((l.map Prod.fst).take k)) ∧ wr.ownsRow w.heap.size 31 2 u k (cellsS ((l.map Prod.snd).take k)) ∧ (∀ b, v.ownBlock = some b → u.ownBlock ≠ some b) ∧ Below w.heap.size w wr) (fun _ _ i _ => n - (intOf i).toNat)
  case atStart => exact ⟨0, Nat.zero_le _, rfl, ⟨rfl, .inl ⟨rfl, rfl⟩⟩, ⟨rfl, .inl ⟨rfl, rfl⟩⟩, fun b h => by simp [Value.ownBlock] at h, Below.refl _ _⟩
  case round =>
    obtain ⟨k, hk, rfl, hv, hu, hne, hb⟩ := hrel
    by_cases hlt : k < n
    · obtain ⟨s, hsk⟩ : ∃ s, l[k]? = some s := ⟨_, List.getElem?_eq_getElem (by rw [HL.out]; exact hlt)⟩
      obtain ⟨ad, rfl, hab, c1, c2, c3, c4⟩ := hr.clus hsk
      obtain ⟨⟨s1, s2⟩, s3, s4⟩ := s
      simp only at c1 c2 c3 c4
      have HS := Lib.hid hsk
      clear hsk
      have HKB := Lib.hid (show ∀ w', Below w.heap.size w w' → w'.cell? (ad.add (k * 4)) = some (.int .i64 s1) ∧ w'.cell? ⟨(ad.add (k * 4)).block, (ad.add (k * 4)).off + 1, none⟩ = some (.int .i64 s2) ∧ w'.cell? ⟨(ad.add (k * 4)).block, (ad.add (k * 4)).off + 2, none⟩ = some (.int .i64 s3) ∧ w'.cell? ⟨(ad.add (k * 4)).block, (ad.add (k * 4)).off + 3, none⟩ = some (.int .i64 s4) from
        fun w' h => ⟨cell_below h c1, cell_below h c2, cell_below h c3, cell_below h c4⟩)
      have hsz := hb.size
      have HNE := Lib.hid (show u8.ownBlock = none ∨ u8.ownBlock ≠ u7.ownBlock by
        rcases h : u8.ownBlock with _ | b
        · exact .inl rfl
        · exact .inr (fun e => hne b e.symm h))
      have HA2 := Lib.hid (show ((wr.alloc (.cells #[.int .i64 s1, .int .i64 s2] 31)).alloc (.cells #[.int .i64 s3, .int .i64 s4] 31)).heap[wr.heap.size + 1]? = some (.cells #[.int .i64 s3, .int .i64 s4] 31) by have := heap_alloc_new (wr.alloc (.cells #[.int .i64 s1, .int .i64 s2] 31)) (.cells #[.int .i64 s3, .int .i64 s4] 31); simpa using this)
      have HA1 := Lib.hid (show ((wr.alloc (.cells #[.int .i64 s3, .int .i64 s4] 31)).alloc (.cells #[.int .i64 s1, .int .i64 s2] 31)).heap[wr.heap.size + 1]? = some (.cells #[.int .i64 s1, .int .i64 s2] 31) by have := heap_alloc_new (wr.alloc (.cells #[.int .i64 s3, .int .i64 s4] 31)) (.cells #[.int .i64 s1, .int .i64 s2] 31); simpa using this)
      clear c1 c2 c3 c4
      go_wp2
      go_region_held3 (fun w' => w'.cell? (ad.add (k * 4)) = some (.int .i64 s1) ∧ w'.cell? ⟨(ad.add (k * 4)).block, (ad.add (k * 4)).off + 1, none⟩ = some (.int .i64 s2) ∧ w'.cell? ⟨(ad.add (k * 4)).block, (ad.add (k * 4)).off + 2, none⟩ = some (.int .i64 s3) ∧ w'.cell? ⟨(ad.add (k * 4)).block, (ad.add (k * 4)).off + 3, none⟩ = some (.int .i64 s4))
        (first
          | exact HKB.out _ hb
          | exact HKB.out _ hb.drew
          | exact HKB.out _ (hb.alloc hsz (.cells #[.int .i64 s1, .int .i64 s2] 31)).drew
          | exact HKB.out _ (hb.alloc hsz (.cells #[.int .i64 s3, .int .i64 s4] 31)).drew
          | exact HKB.out _ ((hb.alloc hsz (.cells #[.int .i64 s1, .int .i64 s2] 31)).alloc (by simp; omega) (.cells #[.int .i64 s3, .int .i64 s4] 31)).drew
          | exact HKB.out _ ((hb.alloc hsz (.cells #[.int .i64 s3, .int .i64 s4] 31)).alloc (by simp; omega) (.cells #[.int .i64 s1, .int .i64 s2] 31)).drew
          | exact HKB.out _ hB1
          | exact HKB.out _ (hB1.alloc hB1.size (.cells #[.int .i64 s3, .int .i64 s4] 31))
          | exact HKB.out _ hB2
          | fail)
        (first
          | (refine step_append_lies _ (by rfl) _ _ _ (by rfl) w.heap.size 31 i0 _ 2 16 ht hi0 hz0 hz1 hz2 hz3 (by omega) u8 k _ (by rfl) hu2 _ 1 1 [.int .i64 s3, .int .i64 s4] (by rfl) (by rfl) hn2.out (oneInt2 _ _ _) (by omega) (by unfold maxLen; omega) (by omega) (by first | exact hsz1 | (simp; omega)) _ rfl ?_; intro g2 cp2 w2 hown2 hgr2 hat2 hlt2; have hB2 : Below w.heap.size w w2 := (by first | exact hB1.grown hgr2 hsz1 (fun k hk => (hu.lt k hk).1) | exact (hB1.alloc hsz1 (.cells #[.int .i64 s3, .int .i64 s4] 31)).grown hgr2 (by simp; omega) (fun k hk => (hu.lt k hk).1)); have hV2 := (by first | exact hown1.kept hgr2 (.inr (fun e => hD1 e.symm)) | exact (hown1.alloc (.cells #[.int .i64 s3, .int .i64 s4] 31)).kept hgr2 (.inr (fun e => hD1 e.symm))); have hD2 : g1 ≠ g2 := (by rcases hat2 with h | h; (intro e; exact hD1 (by rw [e]; exact h)); (first | omega | (simp at h; omega))))
          | (refine step_append_lies _ (by rfl) _ _ _ (by rfl) w.heap.size 31 i0 _ 2 16 ht hi0 hz0 hz1 hz2 hz3 (by omega) u7 k _ (by rfl) ((hv.alloc (.cells #[.int .i64 s1, .int .i64 s2] 31)).drew) ⟨wr.heap.size, 0, none⟩ 1 1 [.int .i64 s1, .int .i64 s2] (by rfl) (by rfl) (World.news_of_block (cs := #[.int .i64 s1, .int .i64 s2]) (t := 31) (fr := (0, 0)) (heap_alloc_new wr _)) (oneInt2 _ _ _) (by omega) (by unfold maxLen; omega) (by omega) (by simp; omega) (wr.heap.size + 1) (by simp) ?_; intro g1 cp1 w1 hown1 hgr1 hat1 hlt1; have hB1 := ((hb.alloc hsz (.cells #[.int .i64 s1, .int .i64 s2] 31)).drew).grown hgr1 (by simp; omega) (fun k hk => (hv.lt k hk).1); have hu2 := (((hu.alloc (.cells #[.int .i64 s1, .int .i64 s2] 31)).drew).kept hgr1 HNE.out).alloc (.cells #[.int .i64 s3, .int .i64 s4] 31); have hn2 := Lib.hid (World.news_of_block (w := w1.alloc (.cells #[.int .i64 s3, .int .i64 s4] 31)) (cs := #[.int .i64 s3, .int .i64 s4]) (t := 31) (fr := (0, 0)) (heap_alloc_new w1 _)); have hsz1 := hB1.size; have hD1 : u8.ownBlock ≠ some g1 := (by rcases hat1 with h | h; exact hne _ h; (intro e; have := (hu.lt _ e).2; omega)))
          | (refine step_append_lies _ (by rfl) _ _ _ (by rfl) w.heap.size 31 i0 _ 2 16 ht hi0 hz0 hz1 hz2 hz3 (by omega) u7 k _ (by rfl) (((hv.alloc (.cells #[.int .i64 s1, .int .i64 s2] 31)).alloc (.cells #[.int .i64 s3, .int .i64 s4] 31)).drew) ⟨wr.heap.size, 0, none⟩ 1 1 [.int .i64 s1, .int .i64 s2] (by rfl) (by rfl) (World.news_of_block (cs := #[.int .i64 s1, .int .i64 s2]) (t := 31) (fr := (0, 0)) (blk_alloc (heap_alloc_new wr _) _)) (oneInt2 _ _ _) (by omega) (by unfold maxLen; omega) (by omega) (by simp; omega) (wr.heap.size + 2) (by simp) ?_; intro g1 cp1 w1 hown1 hgr1 hat1 hlt1; have hB1 := (((hb.alloc hsz (.cells #[.int .i64 s1, .int .i64 s2] 31)).alloc (by simp; omega) (.cells #[.int .i64 s3, .int .i64 s4] 31)).drew).grown hgr1 (by simp; omega) (fun k hk => (hv.lt k hk).1); have hu2 := (((hu.alloc (.cells #[.int .i64 s1, .int .i64 s2] 31)).alloc (.cells #[.int .i64 s3, .int .i64 s4] 31)).drew).kept hgr1 HNE.out; have hn2 := Lib.hid (World.news_of_block (w := w1) (cs := #[.int .i64 s3, .int .i64 s4]) (t := 31) (fr := (0, 0)) (blk_grown (w := ((wr.alloc (.cells #[.int .i64 s1, .int .i64 s2] 31)).alloc (.cells #[.int .i64 s3, .int .i64 s4] 31)).drew) HA2.out hgr1 (fun e => by have := (hv.lt _ e).2; omega))); have hsz1 := hB1.size; have hD1 : u8.ownBlock ≠ some g1 := (by rcases hat1 with h | h; exact hne _ h; (intro e; have := (hu.lt _ e).2; omega)))
          | (refine step_append_lies _ (by rfl) _ _ _ (by rfl) w.heap.size 31 i0 _ 2 16 ht hi0 hz0 hz1 hz2 hz3 (by omega) u7 k _ (by rfl) (((hv.alloc (.cells #[.int .i64 s3, .int .i64 s4] 31)).alloc (.cells #[.int .i64 s1, .int .i64 s2] 31)).drew) ⟨wr.heap.size + 1, 0, none⟩ 1 1 [.int .i64 s1, .int .i64 s2] (by rfl) (by rfl) (World.news_of_block (cs := #[.int .i64 s1, .int .i64 s2]) (t := 31) (fr := (0, 0)) HA1.out) (oneInt2 _ _ _) (by omega) (by unfold maxLen; omega) (by omega) (by simp; omega) (wr.heap.size + 2) (by simp) ?_; intro g1 cp1 w1 hown1 hgr1 hat1 hlt1; have hB1 := (((hb.alloc hsz (.cells #[.int .i64 s3, .int .i64 s4] 31)).alloc (by simp; omega) (.cells #[.int .i64 s1, .int .i64 s2] 31)).drew).grown hgr1 (by simp; omega) (fun k hk => (hv.lt k hk).1); have hu2 := (((hu.alloc (.cells #[.int .i64 s3, .int .i64 s4] 31)).alloc (.cells #[.int .i64 s1, .int .i64 s2] 31)).drew).kept hgr1 HNE.out; have hn2 := Lib.hid (World.news_of_block (w := w1) (cs := #[.int .i64 s3, .int .i64 s4]) (t := 31) (fr := (0, 0)) (blk_grown (w := ((wr.alloc (.cells #[.int .i64 s3, .int .i64 s4] 31)).alloc (.cells #[.int .i64 s1, .int .i64 s2] 31)).drew) (blk_alloc (heap_alloc_new wr _) _) hgr1 (fun e => by have := (hv.lt _ e).2; omega))); have hsz1 := hB1.size; have hD1 : u8.ownBlock ≠ some g1 := (by rcases hat1 with h | h; exact hne _ h; (intro e; have := (hu.lt _ e).2; omega)))
          | fail)
      all_goals
        have hT1 := Lib.hid (show cellsS ((l.map Prod.fst).take (k + 1)) = cellsS ((l.map Prod.fst).take k) ++ [.int .i64 s1, .int .i64 s2] by rw [List.take_add_one, List.getElem?_map, HS.out]; simp [cellsS, encS])
        have hT2 := Lib.hid (show cellsS ((l.map Prod.snd).take (k + 1)) = cellsS ((l.map Prod.snd).take k) ++ [.int .i64 s3, .int .i64 s4] by rw [List.take_add_one, List.getElem?_map, HS.out]; simp [cellsS, encS])
        clear hat1 hat2
        go_wp2
        go_roundw
        case rel => exact ⟨k + 1, by omega, by go_num, by rw [hT1.out]; exact hV2, by rw [hT2.out]; exact hown2, fun b hb1 hb2 => hD2 (by simp [Value.ownBlock] at hb1 hb2; omega), hB2⟩
        case measure => simp [intOf]; omega
    · have HK := Lib.hid (show k = n by omega)
      have HT1 := Lib.hid (show (l.map Prod.fst).take k = l.map Prod.fst by rw [List.take_of_length_le (by simp; rw [HL.out]; omega)])
      have HT2 := Lib.hid (show (l.map Prod.snd).take k = l.map Prod.snd by rw [List.take_of_length_le (by simp; rw [HL.out]; omega)])
      rw [HT1.out] at hv
      rw [HT2.out] at hu
      obtain ⟨A1, c1, rfl, hc1⟩ := own_form hv
      obtain ⟨A2, c2, rfl, hc2⟩ := own_form hu
      have hr1 := Rd.of_own hv
      have hr2 := Rd.of_own hu
      clear hv hu hne
      have hkm : k ≤ maxLen := by unfold maxLen; omega
      have HKM := Lib.hid hkm
      cases hp1 : partsS (l.map Prod.fst) m with
      | false =>
        have HC := Lib.hid (show checkC l m p = false by unfold checkC; rw [hp1]; rfl)
        have C := Lib.hid (refParts_any A1 k c1 (l.map Prod.fst) m _ hr1 HKM.out)
        rw [hp1] at C
        clear hp1
        go_wp2_with fail
        refine C.out.mono ?_
        rintro e w1 ⟨rfl, hb1⟩
        have hb2 := hb.trans (hb1.mono hb.size)
        go_wp2
        go_ret
        exact ⟨retB (by simp [HC.out]), hb2⟩
      | true =>
        have HC := Lib.hid (show checkC l m p = partsS (sortR (l.map Prod.snd)) p by unfold checkC; rw [hp1]; rfl)
        have C := Lib.hid (refParts_any A1 k c1 (l.map Prod.fst) m _ hr1 HKM.out)
        rw [hp1] at C
        clear hp1
        go_wp2_with fail
        refine C.out.mono ?_
        rintro e w1 ⟨rfl, hb1⟩
        have hb2 := hb.trans (hb1.mono hb.size)
        have hr3 := hr2.below hb1
        clear hr2 hr1 C hb1
        go_wp2_with fail
        refine (refSorted_any A2 k c2 (l.map Prod.snd) _ hr3 (by omega)).mono ?_
        rintro e w2 ⟨v, rfl, hv, hb1⟩
        have hb3 := hb2.trans (hb1.mono hb2.size)
        obtain ⟨A3, c3, rfl, hc3⟩ := own_form hv
        have hr4 := Rd.of_own hv
        clear hv hb1 hb2
        go_wp2_with fail
        refine (refParts_any A3 k c3 (sortR (l.map Prod.snd)) p _ hr4 HKM.out).mono ?_
        rintro e w3 ⟨rfl, hb1⟩
        rw [← HC.out]
        have hb4 := hb3.trans (hb1.mono hb3.size)
        go_wp2
        go_ret
        exact ⟨rfl, hb4⟩
end Go.Proofs.Ytmgoakfnmgngoaa
