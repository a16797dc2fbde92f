/- Texts of one claim, one behind the other. -/
import Derived.Deep.RegionHeld3
import Derived.Test.YtnmefomipldalaaMgN1
import Derived.Test.YtnmefomipldalaaMgN2
/- The reference's sorted of spans. -/
namespace Go.Proofs.Ytnmefomipldalaa
open Go.RowKit

theorem cellsS_one (l : List Sp) : ∀ u ∈ cellsS l, u.oneCell' = true := by
  intro u hu
  obtain ⟨s, _, hs⟩ := List.mem_flatMap.1 hu
  simp [encS] at hs
  rcases hs with rfl | rfl <;> rfl
theorem cellsS_take (l : List Sp) (k : Nat) : (cellsS l).take (k * 2) = cellsS (l.take k) := by
  induction l generalizing k with
  | nil => simp [cellsS]
  | cons s l ih =>
    cases k with
    | zero => simp [cellsS]
    | succ k =>
      have : cellsS (s :: l) = .int .i64 s.1 :: .int .i64 s.2 :: cellsS l := rfl
      rw [this, show (k + 1) * 2 = k * 2 + 1 + 1 by omega, List.take_succ_cons, List.take_succ_cons, ih]
      rfl
theorem cellsS_drop (l : List Sp) (k : Nat) : (cellsS l).drop (k * 2) = cellsS (l.drop k) := by
  induction l generalizing k with
  | nil => simp [cellsS]
  | cons s l ih =>
    cases k with
    | zero => simp
    | succ k =>
      have : cellsS (s :: l) = .int .i64 s.1 :: .int .i64 s.2 :: cellsS l := rfl
      rw [this, show (k + 1) * 2 = k * 2 + 1 + 1 by omega, List.drop_succ_cons, List.drop_succ_cons, ih]
      rfl
/-- The first elements of a slice that reads as spans; and the rest. -/
theorem Rd.takeS {w : World} {A : Option Addr} {n k : Nat} {l : List Sp} (hr : Rd w 2 A n (cellsS l)) (hk : k ≤ n) : Rd w 2 A k (cellsS (l.take k)) := by
  have hl : l.length = n := by have := hr.1; rw [cellsS_len] at this; omega
  refine ⟨by rw [cellsS_len, List.length_take]; omega, fun h0 => ?_⟩
  obtain ⟨ad, e, hb, hc⟩ := hr.2 (by omega)
  refine ⟨ad, e, hb, fun j u hj => hc j u ?_⟩
  rw [← cellsS_take, List.getElem?_take] at hj
  split at hj
  · exact hj
  · cases hj
theorem Rd.dropS {w : World} {A : Option Addr} {n k cap : Nat} {l : List Sp} (hr : Rd w 2 A n (cellsS l)) (hk : k ≤ n) (hc : n ≤ cap) : Rd w 2 (if cap = k then A else A.map (·.add (k * 2))) (n - k) (cellsS (l.drop k)) := by
  have := hr.cut hk hc
  rwa [cellsS_drop] at this
set_option maxRecDepth 100000 in
set_option maxHeartbeats 4000000 in
theorem refSorted_any (A : Option Addr) (n c : Nat) (l : List Sp) (w : World) (hr : Rd w 2 A n (cellsS l)) (hn : n ≤ 1000000) :
    Calls Try.prog 45 #[.slice A n c] w fun e w' => ∃ v, e = .returned v ∧ w'.ownsRow w.heap.size 31 2 v n (cellsS (sortR l)) ∧ Below w.heap.size w w' := by
  have hlen : l.length = n := by have := hr.1; rw [cellsS_len] at this; omega
  have HL := Lib.hid hlen
  clear hlen
  go_enter Try.func45, Try.ntmps45
  go_wp2
  go_loopw [3, 4] (fun v i wr => ∃ k : Nat, k ≤ n ∧ i = .int .i64 k ∧ wr.ownsRow w.heap.size 31 2 v k (cellsS (sortR (l.take k))) ∧ Below w.heap.size w wr) (fun _ i _ => n - (intOf i).toNat)
  case atStart => exact ⟨0, Nat.zero_le _, rfl, ⟨rfl, .inl ⟨rfl, rfl⟩⟩, Below.refl _ _⟩
  case round =>
    obtain ⟨k, hk, rfl, hv, hb⟩ := hrel
    obtain ⟨V, cv, rfl, hcv⟩ := own_form hv
    by_cases hlt : k < n
    · obtain ⟨s, hsk⟩ : ∃ s, l[k]? = some s := ⟨_, List.getElem?_eq_getElem (by rw [HL.out]; exact hlt)⟩
      obtain ⟨ad, rfl, hab, c1, c2⟩ := (hr.below hb).span hsk
      have HSS := Lib.hid (show sortR (l.take (k + 1)) = insLo (sortR (l.take k)) s by rw [List.take_add_one, hsk]; exact sortR_snoc _ _)
      clear hsk
      have hrd := Rd.of_own hv
      have hcap : cv ≤ maxLen := by
        rcases hv.2 with ⟨e, _⟩ | ⟨g, cap, cur, e, _, _, _, hcm, _⟩
        · injection e with _ _ e; subst e; exact Nat.zero_le _
        · injection e with _ _ e; subst e; exact hcm
      unfold maxLen at hcap
      obtain ⟨acc, hacc⟩ : ∃ acc, sortR (l.take k) = acc := ⟨_, rfl⟩
      rw [hacc] at hrd HSS
      have hal : acc.length = k := by rw [← hacc, sortR_len, List.length_take, HL.out]; omega
      have HAL := Lib.hid hal
      clear hacc hal hv
      obtain ⟨x, y⟩ := s
      simp only at c1 c2
      go_wp2
      obtain ⟨wo, rfl⟩ : ∃ wo : World, wo = wr := ⟨_, rfl⟩
      go_loopw [5] (fun i wi => ∃ j q : Nat, j ≤ k ∧ i = .int .i64 j ∧ wi = wo.drewN q ∧ ∀ t ∈ acc.take j, t.1 ≤ x) (fun i _ => k - (intOf i).toNat)
      case atStart => exact ⟨0, 0, Nat.zero_le _, rfl, rfl, by simp⟩
      case round =>
        obtain ⟨j, q, hj, rfl, rfl, hle⟩ := hrel
        have HLE := Lib.hid hle
        clear hle
        by_cases hgo : ∃ t, acc[j]? = some t ∧ t.1 ≤ x
        · obtain ⟨t, htj, hpx⟩ := hgo
          have hjk : j < k := by have := (List.getElem?_eq_some_iff.1 htj).1; rw [HAL.out] at this; exact this
          obtain ⟨av, rfl, hav, d1, d2⟩ := hrd.span htj
          have HT := Lib.hid htj
          clear htj
          obtain ⟨p, r⟩ := t
          simp only at d1 d2 hpx
          have HN := Lib.hid (show ∀ t ∈ acc.take (j + 1), t.1 ≤ x by
            intro t ht
            rw [List.take_add_one, HT.out] at ht
            simp at ht
            rcases ht with ht | rfl
            · exact HLE.out t ht
            · exact hpx)
          go_wp2
          go_quiet (fail)
          go_wp2
          go_roundw
          case rel => exact ⟨j + 1, _, by omega, by go_num, rfl, HN.out⟩
          case measure => simp [intOf]; omega
        · have HI := Lib.hid (show cellsS (insLo acc (x, y)) = cellsS (acc.take j) ++ [.int .i64 x, .int .i64 y] ++ cellsS (acc.drop j) by
            rw [insLo_at HLE.out (by
              by_cases hjk : j < k
              · obtain ⟨t, htj⟩ : ∃ t, acc[j]? = some t := ⟨_, List.getElem?_eq_getElem (by rw [HAL.out]; exact hjk)⟩
                exact .inr ⟨t, htj, fun h => hgo ⟨t, htj, h⟩⟩
              · exact .inl (by rw [HAL.out]; omega))]
            simp [cellsS, encS])
          have HGO := Lib.hid hgo
          clear hgo
          by_cases hjk : j < k
          · obtain ⟨t, htj⟩ : ∃ t, acc[j]? = some t := ⟨_, List.getElem?_eq_getElem (by rw [HAL.out]; exact hjk)⟩
            obtain ⟨av, rfl, hav, d1, d2⟩ := hrd.span htj
            obtain ⟨p, r⟩ := t
            have hnp : decide (p ≤ x) = false := decide_eq_false (fun h => HGO.out ⟨_, htj, h⟩)
            simp only at d1 d2
            clear htj
            go_wp2
            go_quiet (fail)
            go_wp2
            have i0 : (0 : Int) ≤ (j : Int) := by omega
            have i1 : (j : Int) ≤ (k : Int) := by omega
            have i2 : (j : Int) ≤ (cv : Int) := by omega
            have i3 : (k : Int) ≤ (cv : Int) := by omega
            have hcjn : ¬ cv = j := by omega
            have hbq : Below wo.heap.size wo ((wo.drewN q).drewN nq) := below_drewN (drewBelow q) nq
            have e1 : ((wo.drewN q).drewN nq).cell? (ad.add (k * 2)) = some (.int .i64 x) := c1
            have e2 : ((wo.drewN q).drewN nq).cell? ⟨(ad.add (k * 2)).block, (ad.add (k * 2)).off + 1, none⟩ = some (.int .i64 y) := c2
            have hrq := hrd.below hbq
            have hbw : Below w.heap.size w ((wo.drewN q).drewN nq) := hb.trans (hbq.mono hb.size)
            generalize ((wo.drewN q).drewN nq) = wq at *
            have HT := Lib.hid (hrq.takeS (k := j) (by omega))
            have HD := Lib.hid (show ∀ w', Below wq.heap.size wq w' → Rd w' 2 (some (av.add (j * 2))) (k - j) (cellsS (acc.drop j)) from fun w' h => by
              have := hrq.dropS (k := j) (by omega) hcv
              rw [if_neg (by omega)] at this
              exact this.below h)
            have HKB := Lib.hid (show ∀ w', Below wq.heap.size wq w' → w'.cell? (ad.add (k * 2)) = some (.int .i64 x) ∧ w'.cell? ⟨(ad.add (k * 2)).block, (ad.add (k * 2)).off + 1, none⟩ = some (.int .i64 y) from
              fun w' h => ⟨cell_below h e1, cell_below h e2⟩)
            clear e1 e2 c1 c2 hrq hrd hbq
            go_region_held3 (fun w' => w'.cell? (ad.add (k * 2)) = some (.int .i64 x) ∧ w'.cell? ⟨(ad.add (k * 2)).block, (ad.add (k * 2)).off + 1, none⟩ = some (.int .i64 y))
              (first
                | exact HKB.out _ (Below.refl _ _)
                | exact HKB.out _ (Below.refl _ _).drew
                | exact HKB.out _ (below_new wq (.cells #[.int .i64 x, .int .i64 y] 31)).drew
                | exact HKB.out _ HB1
                | exact HKB.out _ (HB1.alloc HB1.size (.cells #[.int .i64 x, .int .i64 y] 31))
                | exact HKB.out _ HB2
                | exact HKB.out _ HB3
                | fail)
              (first
                | (refine step_appR rfl _ _ _ rfl spanSlice (by decide) v2 (j + 1) _ rfl hown2 _ _ _ (cellsS (acc.drop j)) rfl (by first | exact HD.out _ HB2 | (rw [if_neg hcjn]; exact HD.out _ HB2)) (cellsS_one _) (by omega) (by unfold maxLen; omega) HB2.size _ rfl ?_; intro v3 w3 hown3 hgr3 hat3; have HB3 := HB2.grown hgr3 HB2.size (fun k h => (hown2.lt k h).1))
                | (refine step_appR rfl _ _ _ rfl spanSlice (by decide) v1 j _ rfl hown1b _ 1 1 [.int .i64 x, .int .i64 y] rfl hn2.out (oneInt2 _ _ _) (by omega) (by unfold maxLen; omega) HB1b.size _ rfl ?_; intro v2 w2 hown2 hgr2 hat2; have HB2 := HB1b.grown hgr2 HB1b.size (fun k h => (hown1.lt k h).1))
                | (refine step_appR rfl _ _ _ rfl spanSlice (by decide) (.slice none 0 0) 0 [] rfl (World.ownsRow_nil wq.drew wq.heap.size _ _) _ j _ (cellsS (acc.take j)) rfl (HT.out.below (Below.refl _ _).drew) (cellsS_one _) (by omega) (by unfold maxLen; omega) (Nat.le_refl _) _ rfl ?_; intro v1 w1 hown1 hgr1 hat1; simp only [Nat.zero_add, List.nil_append] at hown1; have HB1 : Below wq.heap.size wq w1 := (Below.refl _ _).drew.grown hgr1 (Nat.le_refl _) (fun k h => by cases h); have hown1b := hown1.alloc (.cells #[.int .i64 x, .int .i64 y] 31); have hn2 := Lib.hid (rd_blk (m := 1) (cs := [.int .i64 x, .int .i64 y]) 2 (heap_alloc_new w1 (.cells #[.int .i64 x, .int .i64 y] 31)) rfl); have HB1b := HB1.alloc HB1.size (.cells #[.int .i64 x, .int .i64 y] 31))
                | (refine step_appR rfl _ _ _ rfl spanSlice (by decide) (.slice none 0 0) 0 [] rfl (World.ownsRow_nil (wq.alloc (.cells #[.int .i64 x, .int .i64 y] 31)).drew wq.heap.size _ _) _ j _ (cellsS (acc.take j)) rfl (HT.out.below (below_new wq (.cells #[.int .i64 x, .int .i64 y] 31)).drew) (cellsS_one _) (by omega) (by unfold maxLen; omega) (by simp) _ rfl ?_; intro v1 w1 hown1 hgr1 hat1; simp only [Nat.zero_add, List.nil_append] at hown1; have HB1 : Below wq.heap.size wq w1 := (below_new wq (.cells #[.int .i64 x, .int .i64 y] 31)).drew.grown hgr1 (by simp) (fun k h => by cases h); have hown1b := hown1; have hn2 := Lib.hid (rd_blk (m := 1) (cs := [.int .i64 x, .int .i64 y]) 2 (blk_grown (w := (wq.alloc (.cells #[.int .i64 x, .int .i64 y] 31)).drew) (heap_alloc_new wq (.cells #[.int .i64 x, .int .i64 y] 31)) hgr1 (by simp [Value.ownBlock])) rfl); have HB1b := HB1)
                | fail)
            all_goals
              have hfin := Lib.hid (show w3.ownsRow w.heap.size 31 2 v3 (k + 1) (cellsS (sortR (l.take (k + 1)))) by
                rw [HSS.out, HI.out]
                have := own_base hown3 hbw.size
                rwa [show j + 1 + (k - j) = k + 1 by omega] at this)
              have hbf := hbw.trans (HB3.mono hbw.size)
              clear hat1 hat2 hat3
              go_wp2
              go_roundw
              case rel => exact ⟨k + 1, by omega, by go_num, hfin.out, hbf⟩
              case measure => simp [intOf]; omega
          · have hjd : decide ((j : Int) < k) = false := decide_eq_false (by omega)
            rcases V with _ | av <;> by_cases hcj : cv = j
            all_goals
              go_wp2
              go_quiet (fail)
              go_wp2
              have i0 : (0 : Int) ≤ (j : Int) := by omega
              have i1 : (j : Int) ≤ (k : Int) := by omega
              have i2 : (j : Int) ≤ (cv : Int) := by omega
              have i3 : (k : Int) ≤ (cv : Int) := by omega
              have hbq : Below wo.heap.size wo ((wo.drewN q).drewN nq) := below_drewN (drewBelow q) nq
              have e1 : ((wo.drewN q).drewN nq).cell? (ad.add (k * 2)) = some (.int .i64 x) := c1
              have e2 : ((wo.drewN q).drewN nq).cell? ⟨(ad.add (k * 2)).block, (ad.add (k * 2)).off + 1, none⟩ = some (.int .i64 y) := c2
              have hrq := hrd.below hbq
              have hbw : Below w.heap.size w ((wo.drewN q).drewN nq) := hb.trans (hbq.mono hb.size)
              generalize ((wo.drewN q).drewN nq) = wq at *
              have HT := Lib.hid (hrq.takeS (k := j) (by omega))
              have HD := Lib.hid (show ∀ w', Below wq.heap.size wq w' → ∀ A, Rd w' 2 A (k - j) (cellsS (acc.drop j)) from fun w' h A => by
                rw [List.drop_eq_nil_of_le (by rw [HAL.out]; omega), show k - j = 0 by omega]
                exact Rd.nil_)
              have HKB := Lib.hid (show ∀ w', Below wq.heap.size wq w' → w'.cell? (ad.add (k * 2)) = some (.int .i64 x) ∧ w'.cell? ⟨(ad.add (k * 2)).block, (ad.add (k * 2)).off + 1, none⟩ = some (.int .i64 y) from
                fun w' h => ⟨cell_below h e1, cell_below h e2⟩)
              clear e1 e2 c1 c2 hrq hrd hbq
              go_region_held3 (fun w' => w'.cell? (ad.add (k * 2)) = some (.int .i64 x) ∧ w'.cell? ⟨(ad.add (k * 2)).block, (ad.add (k * 2)).off + 1, none⟩ = some (.int .i64 y))
                (first
                  | exact HKB.out _ (Below.refl _ _)
                  | exact HKB.out _ (Below.refl _ _).drew
                  | exact HKB.out _ (below_new wq (.cells #[.int .i64 x, .int .i64 y] 31)).drew
                  | exact HKB.out _ HB1
                  | exact HKB.out _ (HB1.alloc HB1.size (.cells #[.int .i64 x, .int .i64 y] 31))
                  | exact HKB.out _ HB2
                  | exact HKB.out _ HB3
                  | fail)
                (first
                  | (refine step_appR rfl _ _ _ rfl spanSlice (by decide) v2 (j + 1) _ rfl hown2 _ _ _ (cellsS (acc.drop j)) rfl (HD.out _ HB2 _) (cellsS_one _) (by omega) (by unfold maxLen; omega) HB2.size _ rfl ?_; intro v3 w3 hown3 hgr3 hat3; have HB3 := HB2.grown hgr3 HB2.size (fun k h => (hown2.lt k h).1))
                  | (refine step_appR rfl _ _ _ rfl spanSlice (by decide) v1 j _ rfl hown1b _ 1 1 [.int .i64 x, .int .i64 y] rfl hn2.out (oneInt2 _ _ _) (by omega) (by unfold maxLen; omega) HB1b.size _ rfl ?_; intro v2 w2 hown2 hgr2 hat2; have HB2 := HB1b.grown hgr2 HB1b.size (fun k h => (hown1.lt k h).1))
                  | (refine step_appR rfl _ _ _ rfl spanSlice (by decide) (.slice none 0 0) 0 [] rfl (World.ownsRow_nil wq.drew wq.heap.size _ _) _ j _ (cellsS (acc.take j)) rfl (HT.out.below (Below.refl _ _).drew) (cellsS_one _) (by omega) (by unfold maxLen; omega) (Nat.le_refl _) _ rfl ?_; intro v1 w1 hown1 hgr1 hat1; simp only [Nat.zero_add, List.nil_append] at hown1; have HB1 : Below wq.heap.size wq w1 := (Below.refl _ _).drew.grown hgr1 (Nat.le_refl _) (fun k h => by cases h); have hown1b := hown1.alloc (.cells #[.int .i64 x, .int .i64 y] 31); have hn2 := Lib.hid (rd_blk (m := 1) (cs := [.int .i64 x, .int .i64 y]) 2 (heap_alloc_new w1 (.cells #[.int .i64 x, .int .i64 y] 31)) rfl); have HB1b := HB1.alloc HB1.size (.cells #[.int .i64 x, .int .i64 y] 31))
                  | (refine step_appR rfl _ _ _ rfl spanSlice (by decide) (.slice none 0 0) 0 [] rfl (World.ownsRow_nil (wq.alloc (.cells #[.int .i64 x, .int .i64 y] 31)).drew wq.heap.size _ _) _ j _ (cellsS (acc.take j)) rfl (HT.out.below (below_new wq (.cells #[.int .i64 x, .int .i64 y] 31)).drew) (cellsS_one _) (by omega) (by unfold maxLen; omega) (by simp) _ rfl ?_; intro v1 w1 hown1 hgr1 hat1; simp only [Nat.zero_add, List.nil_append] at hown1; have HB1 : Below wq.heap.size wq w1 := (below_new wq (.cells #[.int .i64 x, .int .i64 y] 31)).drew.grown hgr1 (by simp) (fun k h => by cases h); have hown1b := hown1; have hn2 := Lib.hid (rd_blk (m := 1) (cs := [.int .i64 x, .int .i64 y]) 2 (blk_grown (w := (wq.alloc (.cells #[.int .i64 x, .int .i64 y] 31)).drew) (heap_alloc_new wq (.cells #[.int .i64 x, .int .i64 y] 31)) hgr1 (by simp [Value.ownBlock])) rfl); have HB1b := HB1)
                  | fail)
              all_goals
                have hfin := Lib.hid (show w3.ownsRow w.heap.size 31 2 v3 (k + 1) (cellsS (sortR (l.take (k + 1)))) by
                  rw [HSS.out, HI.out]
                  have := own_base hown3 hbw.size
                  rwa [show j + 1 + (k - j) = k + 1 by omega] at this)
                have hbf := hbw.trans (HB3.mono hbw.size)
                clear hat1 hat2 hat3
                go_wp2
                go_roundw
                case rel => exact ⟨k + 1, by omega, by go_num, hfin.out, hbf⟩
                case measure => simp [intOf]; omega
    · obtain rfl : k = n := by omega
      have HK := Lib.hid (show l.take k = l by rw [List.take_of_length_le (by rw [HL.out]; omega)])
      rw [HK.out] at hv
      go_wp2
      go_ret
      exact ⟨_, rfl, hv, hb⟩
end Go.Proofs.Ytnmefomipldalaa
