/- The reference's insert of pairs, walked. -/
import Derived.Test.YtpddjojgcenlkaaCelR
import Derived.Test.YtpddjojgcenlkaaPrSl
import Derived.Test.YtpddjojgcenlkaaHp
import Derived.Deep.RegionHeld3
import Derived.BigQuiet
import Derived.Test.YtpddjojgcenlkaaRbD
namespace Go.Proofs.Ytpddjojgcenlkaa
open Go.RowKit
set_option maxRecDepth 100000 in
set_option maxHeartbeats 4000000 in
theorem rbInsert_any (V : Option Addr) (k cv : Nat) (acc : List Sp) (x y : Int) (w : World) (hr : Rd w 2 V k (cellsS acc)) (hcv : k ≤ cv) (hcap : cv ≤ maxLen) (hk : k ≤ 100000) :
    Calls Try.prog 19 #[.slice V k cv, .agg #[.int .i64 x, .int .i64 y]] w fun e w' => ∃ v, e = .returned v ∧ w'.ownsRow w.heap.size 27 2 v (k + 1) (cellsS (insB acc (x, y))) ∧ Below w.heap.size w w' := by
  unfold maxLen at hcap
  have hal : acc.length = k := by have := hr.1; rw [cellsS_len] at this; omega
  have HAL := Lib.hid hal
  have hbx := heap_alloc_new w (.cells #[.int .i64 x, .int .i64 y] 27)
  have hb := below_new w (.cells #[.int .i64 x, .int .i64 y] 27)
  have hrd := hr.below hb
  obtain ⟨wo, hwo⟩ : ∃ wo, w.alloc (.cells #[.int .i64 x, .int .i64 y] 27) = wo := ⟨_, rfl⟩
  rw [hwo] at hbx hb hrd
  obtain ⟨bx, hbe⟩ : ∃ bx, w.heap.size = bx := ⟨_, rfl⟩
  rw [hbe] at hbx
  have c1 := hp_cell (j := 0) hbx rfl
  have c2 := hp_cell (j := 1) hbx rfl
  have HWO := Lib.hid hwo
  have HBE := Lib.hid hbe
  clear hr hal hbx hwo hbe
  go_enter Try.func19, Try.ntmps19
  go_wp2
  rw [HBE.out, HWO.out]
  go_loopw [5] (fun i wi => ∃ j q : Nat, j ≤ k ∧ i = .int .i64 j ∧ wi = wo.drewN q ∧ ∀ t ∈ acc.take j, t.1 < x) (fun i _ => k - (intOf i).toNat)
  case atStart => exact ⟨0, 0, Nat.zero_le _, rfl, rfl, by simp⟩
  case round =>
    obtain ⟨j, q, hj, rfl, rfl, hle⟩ := hrel
    have HLE := Lib.hid hle
    clear hle
    by_cases hgo : ∃ t, acc[j]? = some t ∧ t.1 < x
    · obtain ⟨t, htj, hpx⟩ := hgo
      have hjk : j < k := by have := (List.getElem?_eq_some_iff.1 htj).1; rw [HAL.out] at this; exact this
      obtain ⟨av, rfl, hav, d3, d4⟩ := hrd.span htj
      have HT := Lib.hid htj
      clear htj
      obtain ⟨p, r⟩ := t
      simp only at d3 d4 hpx
      have HN := Lib.hid (show ∀ t ∈ acc.take (j + 1), t.1 < x by
        intro t ht
        rw [List.take_add_one, HT.out] at ht
        simp at ht
        rcases ht with ht | rfl
        · exact HLE.out t ht
        · exact hpx)
      go_wp2
      go_quiet (fail)
      go_wp2
      go_roundw
      case rel => exact ⟨j + 1, _, by omega, by go_num, rfl, HN.out⟩
      case measure => simp [intOf]; omega
    · have HI := Lib.hid (show cellsS (insB acc (x, y)) = cellsS (acc.take j) ++ [.int .i64 x, .int .i64 y] ++ cellsS (acc.drop j) by
        rw [insB_at HLE.out (by
          by_cases hjk : j < k
          · obtain ⟨t, htj⟩ : ∃ t, acc[j]? = some t := ⟨_, List.getElem?_eq_getElem (by rw [HAL.out]; exact hjk)⟩
            exact .inr ⟨t, htj, fun h => hgo ⟨t, htj, h⟩⟩
          · exact .inl (by rw [HAL.out]; omega))]
        simp [cellsS, encS])
      have HGO := Lib.hid hgo
      clear hgo
      by_cases hjk : j < k
      · obtain ⟨t, htj⟩ : ∃ t, acc[j]? = some t := ⟨_, List.getElem?_eq_getElem (by rw [HAL.out]; exact hjk)⟩
        obtain ⟨av, rfl, hav, d3, d4⟩ := hrd.span htj
        obtain ⟨p, r⟩ := t
        have hnp : decide (p < x) = false := decide_eq_false (fun h => HGO.out ⟨_, htj, h⟩)
        simp only at d3 d4
        clear htj
        go_wp2
        go_quiet (fail)
        go_wp2
        have i0 : (0 : Int) ≤ (j : Int) := by omega
        have i1 : (j : Int) ≤ (k : Int) := by omega
        have i2 : (j : Int) ≤ (cv : Int) := by omega
        have i3 : (k : Int) ≤ (cv : Int) := by omega
        have hcjn : ¬ cv = j := by omega
        have hbq : Below wo.heap.size wo ((wo.drewN q).drewN nq) := below_drewN (drewBelow q) nq
        have e1 : ((wo.drewN q).drewN nq).cell? ⟨bx, 0, none⟩ = some (.int .i64 x) := c1
        have e2 : ((wo.drewN q).drewN nq).cell? ⟨bx, 1, none⟩ = some (.int .i64 y) := c2
        have hrq := hrd.below hbq
        have hbw : Below w.heap.size w ((wo.drewN q).drewN nq) := hb.trans (hbq.mono hb.size)
        generalize ((wo.drewN q).drewN nq) = wq at *
        have HT := Lib.hid (hrq.takeS (k := j) (by omega))
        have HD := Lib.hid (show ∀ w', Below wq.heap.size wq w' → Rd w' 2 (some (av.add (j * 2))) (k - j) (cellsS (acc.drop j)) from fun w' h => by
          have := hrq.dropS (k := j) (by omega) hcv
          rw [if_neg (by omega)] at this
          exact this.below h)
        have HKB := Lib.hid (show ∀ w', Below wq.heap.size wq w' → w'.cell? ⟨bx, 0, none⟩ = some (.int .i64 x) ∧ w'.cell? ⟨bx, 1, none⟩ = some (.int .i64 y) from
          fun w' h => ⟨cell_below h e1, cell_below h e2⟩)
        clear e1 e2 c1 c2 hrq hrd hbq
        go_region_held3 (fun w' => w'.cell? ⟨bx, 0, none⟩ = some (.int .i64 x) ∧ w'.cell? ⟨bx, 1, none⟩ = some (.int .i64 y))
          (first
            | exact HKB.out _ (Below.refl _ _)
            | exact HKB.out _ (Below.refl _ _).drew
            | exact HKB.out _ (below_new wq (.cells #[.int .i64 x, .int .i64 y] 27)).drew
            | exact HKB.out _ HB1
            | exact HKB.out _ (HB1.alloc HB1.size (.cells #[.int .i64 x, .int .i64 y] 27))
            | exact HKB.out _ HB2
            | exact HKB.out _ HB3
            | fail)
          (first
            | (refine step_appR rfl _ _ _ rfl pairSliceR (by decide) v2 (j + 1) _ rfl hown2 _ _ _ (cellsS (acc.drop j)) rfl (by first | exact HD.out _ HB2 | (rw [if_neg hcjn]; exact HD.out _ HB2)) (cellsS_one _) (by omega) (by unfold maxLen; omega) HB2.size _ rfl ?_; intro v3 w3 hown3 hgr3 hat3; have HB3 := HB2.grown hgr3 HB2.size (fun k h => (hown2.lt k h).1))
            | (refine step_appR rfl _ _ _ rfl pairSliceR (by decide) v1 j _ rfl hown1b _ 1 1 [.int .i64 x, .int .i64 y] rfl hn2.out (oneInt2 _ _ _) (by omega) (by unfold maxLen; omega) HB1b.size _ rfl ?_; intro v2 w2 hown2 hgr2 hat2; have HB2 := HB1b.grown hgr2 HB1b.size (fun k h => (hown1.lt k h).1))
            | (refine step_appR rfl _ _ _ rfl pairSliceR (by decide) (.slice none 0 0) 0 [] rfl (World.ownsRow_nil wq.drew wq.heap.size _ _) _ j _ (cellsS (acc.take j)) rfl (HT.out.below (Below.refl _ _).drew) (cellsS_one _) (by omega) (by unfold maxLen; omega) (Nat.le_refl _) _ rfl ?_; intro v1 w1 hown1 hgr1 hat1; simp only [Nat.zero_add, List.nil_append] at hown1; have HB1 : Below wq.heap.size wq w1 := (Below.refl _ _).drew.grown hgr1 (Nat.le_refl _) (fun k h => by cases h); have hown1b := hown1.alloc (.cells #[.int .i64 x, .int .i64 y] 27); have hn2 := Lib.hid (rd_blk (m := 1) (cs := [.int .i64 x, .int .i64 y]) 2 (heap_alloc_new w1 (.cells #[.int .i64 x, .int .i64 y] 27)) rfl); have HB1b := HB1.alloc HB1.size (.cells #[.int .i64 x, .int .i64 y] 27))
            | (refine step_appR rfl _ _ _ rfl pairSliceR (by decide) (.slice none 0 0) 0 [] rfl (World.ownsRow_nil (wq.alloc (.cells #[.int .i64 x, .int .i64 y] 27)).drew wq.heap.size _ _) _ j _ (cellsS (acc.take j)) rfl (HT.out.below (below_new wq (.cells #[.int .i64 x, .int .i64 y] 27)).drew) (cellsS_one _) (by omega) (by unfold maxLen; omega) (by simp) _ rfl ?_; intro v1 w1 hown1 hgr1 hat1; simp only [Nat.zero_add, List.nil_append] at hown1; have HB1 : Below wq.heap.size wq w1 := (below_new wq (.cells #[.int .i64 x, .int .i64 y] 27)).drew.grown hgr1 (by simp) (fun k h => by cases h); have hown1b := hown1; have hn2 := Lib.hid (rd_blk (m := 1) (cs := [.int .i64 x, .int .i64 y]) 2 (blk_grown (w := (wq.alloc (.cells #[.int .i64 x, .int .i64 y] 27)).drew) (heap_alloc_new wq (.cells #[.int .i64 x, .int .i64 y] 27)) hgr1 (by simp [Value.ownBlock])) rfl); have HB1b := HB1)
            | fail)
        all_goals
          have hfin := Lib.hid (show w3.ownsRow w.heap.size 27 2 v3 (k + 1) (cellsS (insB acc (x, y))) by
            rw [HI.out]
            have := own_base hown3 hbw.size
            rwa [show j + 1 + (k - j) = k + 1 by omega] at this)
          have hbf := hbw.trans (HB3.mono hbw.size)
          clear hat1 hat2 hat3
          go_wp2
          go_ret
          exact ⟨_, rfl, hfin.out, hbf⟩
      · have hjd : decide ((j : Int) < k) = false := decide_eq_false (by omega)
        rcases V with _ | av <;> by_cases hcj : cv = j
        all_goals
          go_wp2
          go_quiet (fail)
          go_wp2
          have i0 : (0 : Int) ≤ (j : Int) := by omega
          have i1 : (j : Int) ≤ (k : Int) := by omega
          have i2 : (j : Int) ≤ (cv : Int) := by omega
          have i3 : (k : Int) ≤ (cv : Int) := by omega
          have hbq : Below wo.heap.size wo ((wo.drewN q).drewN nq) := below_drewN (drewBelow q) nq
          have e1 : ((wo.drewN q).drewN nq).cell? ⟨bx, 0, none⟩ = some (.int .i64 x) := c1
          have e2 : ((wo.drewN q).drewN nq).cell? ⟨bx, 1, none⟩ = some (.int .i64 y) := c2
          have hrq := hrd.below hbq
          have hbw : Below w.heap.size w ((wo.drewN q).drewN nq) := hb.trans (hbq.mono hb.size)
          generalize ((wo.drewN q).drewN nq) = wq at *
          have HT := Lib.hid (hrq.takeS (k := j) (by omega))
          have HD := Lib.hid (show ∀ w', Below wq.heap.size wq w' → ∀ A, Rd w' 2 A (k - j) (cellsS (acc.drop j)) from fun w' h A => by
            rw [List.drop_eq_nil_of_le (by rw [HAL.out]; omega), show k - j = 0 by omega]
            exact Rd.nil_)
          have HKB := Lib.hid (show ∀ w', Below wq.heap.size wq w' → w'.cell? ⟨bx, 0, none⟩ = some (.int .i64 x) ∧ w'.cell? ⟨bx, 1, none⟩ = some (.int .i64 y) from
            fun w' h => ⟨cell_below h e1, cell_below h e2⟩)
          clear e1 e2 c1 c2 hrq hrd hbq
          go_region_held3 (fun w' => w'.cell? ⟨bx, 0, none⟩ = some (.int .i64 x) ∧ w'.cell? ⟨bx, 1, none⟩ = some (.int .i64 y))
            (first
              | exact HKB.out _ (Below.refl _ _)
              | exact HKB.out _ (Below.refl _ _).drew
              | exact HKB.out _ (below_new wq (.cells #[.int .i64 x, .int .i64 y] 27)).drew
              | exact HKB.out _ HB1
              | exact HKB.out _ (HB1.alloc HB1.size (.cells #[.int .i64 x, .int .i64 y] 27))
              | exact HKB.out _ HB2
              | exact HKB.out _ HB3
              | fail)
            (first
              | (refine step_appR rfl _ _ _ rfl pairSliceR (by decide) v2 (j + 1) _ rfl hown2 _ _ _ (cellsS (acc.drop j)) rfl (HD.out _ HB2 _) (cellsS_one _) (by omega) (by unfold maxLen; omega) HB2.size _ rfl ?_; intro v3 w3 hown3 hgr3 hat3; have HB3 := HB2.grown hgr3 HB2.size (fun k h => (hown2.lt k h).1))
              | (refine step_appR rfl _ _ _ rfl pairSliceR (by decide) v1 j _ rfl hown1b _ 1 1 [.int .i64 x, .int .i64 y] rfl hn2.out (oneInt2 _ _ _) (by omega) (by unfold maxLen; omega) HB1b.size _ rfl ?_; intro v2 w2 hown2 hgr2 hat2; have HB2 := HB1b.grown hgr2 HB1b.size (fun k h => (hown1.lt k h).1))
              | (refine step_appR rfl _ _ _ rfl pairSliceR (by decide) (.slice none 0 0) 0 [] rfl (World.ownsRow_nil wq.drew wq.heap.size _ _) _ j _ (cellsS (acc.take j)) rfl (HT.out.below (Below.refl _ _).drew) (cellsS_one _) (by omega) (by unfold maxLen; omega) (Nat.le_refl _) _ rfl ?_; intro v1 w1 hown1 hgr1 hat1; simp only [Nat.zero_add, List.nil_append] at hown1; have HB1 : Below wq.heap.size wq w1 := (Below.refl _ _).drew.grown hgr1 (Nat.le_refl _) (fun k h => by cases h); have hown1b := hown1.alloc (.cells #[.int .i64 x, .int .i64 y] 27); have hn2 := Lib.hid (rd_blk (m := 1) (cs := [.int .i64 x, .int .i64 y]) 2 (heap_alloc_new w1 (.cells #[.int .i64 x, .int .i64 y] 27)) rfl); have HB1b := HB1.alloc HB1.size (.cells #[.int .i64 x, .int .i64 y] 27))
              | (refine step_appR rfl _ _ _ rfl pairSliceR (by decide) (.slice none 0 0) 0 [] rfl (World.ownsRow_nil (wq.alloc (.cells #[.int .i64 x, .int .i64 y] 27)).drew wq.heap.size _ _) _ j _ (cellsS (acc.take j)) rfl (HT.out.below (below_new wq (.cells #[.int .i64 x, .int .i64 y] 27)).drew) (cellsS_one _) (by omega) (by unfold maxLen; omega) (by simp) _ rfl ?_; intro v1 w1 hown1 hgr1 hat1; simp only [Nat.zero_add, List.nil_append] at hown1; have HB1 : Below wq.heap.size wq w1 := (below_new wq (.cells #[.int .i64 x, .int .i64 y] 27)).drew.grown hgr1 (by simp) (fun k h => by cases h); have hown1b := hown1; have hn2 := Lib.hid (rd_blk (m := 1) (cs := [.int .i64 x, .int .i64 y]) 2 (blk_grown (w := (wq.alloc (.cells #[.int .i64 x, .int .i64 y] 27)).drew) (heap_alloc_new wq (.cells #[.int .i64 x, .int .i64 y] 27)) hgr1 (by simp [Value.ownBlock])) rfl); have HB1b := HB1)
              | fail)
          all_goals
            have hfin := Lib.hid (show w3.ownsRow w.heap.size 27 2 v3 (k + 1) (cellsS (insB acc (x, y))) by
              rw [HI.out]
              have := own_base hown3 hbw.size
              rwa [show j + 1 + (k - j) = k + 1 by omega] at this)
            have hbf := hbw.trans (HB3.mono hbw.size)
            clear hat1 hat2 hat3
            go_wp2
            go_ret
            exact ⟨_, rfl, hfin.out, hbf⟩
end Go.Proofs.Ytpddjojgcenlkaa
