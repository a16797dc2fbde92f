/- breaks.appendLines, walked: a paragraph's lines behind others. -/
import Derived.BigQuiet
import Derived.Test.YtdgomaoikeffhaaBrB
import Derived.Test.YtdgomaoikeffhaaRevO
import Derived.Test.YtdgomaoikeffhaaCutD
import Derived.Test.YtdgomaoikeffhaaHp
namespace Go.Proofs.Ytdgomaoikeffhaa
open Go.RowKit Go.Shelf

theorem own_szS {w : World} {base : Nat} {e : TypeId} {size : Nat} {v : Value} {n : Nat} {xs : List Value} (h : w.ownsRow base e size v n xs) (hn : 0 < n) :
    ∃ g c, v = .slice (some ⟨g, 0, none⟩) n c ∧ n ≤ c ∧ g < w.heap.size ∧ base ≤ g := by
  obtain ⟨g, c, hv, hbg, hlt⟩ := h.form hn
  obtain ⟨_, _, e, hnc⟩ := own_form h
  subst hv
  injection e with _ _ e
  subst e
  exact ⟨g, c, rfl, hnc, hlt, hbg⟩
theorem stp_mono {Q : List Sp} {bs : List Int} (h : OrdB Q bs) (n : Nat) : ∀ (i j : Nat) s t, i ≤ j → (stpL Q n)[i]? = some s → (stpL Q n)[j]? = some t → s.1 ≤ t.1 := by
  intro i j s t hij hs ht
  have hi := (List.getElem?_eq_some_iff.1 hs).1
  have hj := (List.getElem?_eq_some_iff.1 ht).1
  rw [stpL_len] at hi hj
  obtain ⟨q, hq⟩ : ∃ q, Q[i]? = some q := ⟨_, List.getElem?_eq_getElem hi⟩
  obtain ⟨r, hr⟩ : ∃ r, Q[j]? = some r := ⟨_, List.getElem?_eq_getElem hj⟩
  have e1 := hs.symm.trans (stpL_get (i := n) hq)
  have e2 := ht.symm.trans (stpL_get (i := n) hr)
  injection e1 with e1
  injection e2 with e2
  rw [e1, e2]
  rcases Nat.lt_or_ge i j with h1 | h1
  · rcases h.up hq hr h1 with h2 | h2
    · exact Int.le_of_lt h2
    · exact Int.le_of_eq h2.1
  · obtain rfl : i = j := by omega
    obtain rfl := Option.some.inj (hq.symm.trans hr)
    exact Int.le_refl _
theorem top_of_bin {Q : List Sp} {bs : List Int} (h : OrdB Q bs) {n i : Nat} (hQ : Q.length = n) {hi : Int} (hle : i ≤ (stpL Q n).length) (h1 : ∀ (j : Nat) s, j < i → (stpL Q n)[j]? = some s → s.1 < hi) (h2 : ∀ (j : Nat) s, i ≤ j → (stpL Q n)[j]? = some s → hi ≤ s.1) : TopB Q hi bs.length i :=
  top_begin h hi (by rw [stpL_len] at hle; exact hle) (fun j s hj hs => h1 j _ hj (stpL_get hs)) (fun j s hj hs => by have := h2 j _ hj (stpL_get hs); simp only at this; omega)
set_option maxRecDepth 100000 in
set_option maxHeartbeats 4000000 in
theorem brAppend_any (b g n m : Nat) (v : Value) (L0 Q : List Sp) (bs : List Int) (x y : Int) (w : World) (hv : w.ownsRow b 24 2 v m (cellsS L0)) (hst : Rd w 3 (some ⟨g, 0, none⟩) n (cellsT (stpL Q n))) (hgb : g < b) (hb : b ≤ w.heap.size) (hord : OrdB Q bs) (hQ : Q.length = n) (hn : n ≤ 1000) (hm : m ≤ 1000000) :
    Calls Try.prog 31 #[v, .agg #[.int .i64 x, .int .i64 y], .slice (some ⟨g, 0, none⟩) n n] w fun e w' => ∃ v', e = .returned v' ∧ w'.ownsRow b 24 2 v' (m + (lnCut y x bs).length) (cellsS (L0 ++ lnCut y x bs)) ∧ Below b w w' := by
  obtain ⟨V, cv, rfl, _⟩ := own_form hv
  have hlm : L0.length = m := by have := hv.1; rw [cellsS_len] at this; omega
  have HLM := Lib.hid hlm
  have HORD := Lib.hid hord
  have HQL := Lib.hid hQ
  have HBX := Lib.hid ((Below.refl b w).alloc hb (.cells #[.int .i64 x, .int .i64 y] 24))
  have hbl := Lib.hid (below_new w (.cells #[.int .i64 x, .int .i64 y] 24))
  have k0 : (w.alloc (.cells #[.int .i64 x, .int .i64 y] 24)).cell? ⟨w.heap.size, 0, none⟩ = some (.int .i64 x) := cells_new w [.int .i64 x, .int .i64 y] _ 0 _ rfl
  have k1 : (w.alloc (.cells #[.int .i64 x, .int .i64 y] 24)).cell? ⟨w.heap.size, 1, none⟩ = some (.int .i64 y) := cells_new w [.int .i64 x, .int .i64 y] _ 1 _ rfl
  obtain ⟨W0, hW0⟩ : ∃ W0, w.alloc (.cells #[.int .i64 x, .int .i64 y] 24) = W0 := ⟨_, rfl⟩
  rw [hW0] at HBX hbl k0 k1
  have hs0 : W0.heap.size = w.heap.size + 1 := by rw [← hW0, World.size_alloc]
  obtain ⟨bx, hbx⟩ : ∃ bx, w.heap.size = bx := ⟨_, rfl⟩
  rw [hbx] at k0 k1 hs0 hb
  have HBIN := Lib.hid (binT_any _ egBrAt brAt_any (some ⟨g, 0, none⟩) n n (stpL Q n) y W0 (hst.below hbl.out) (by omega) (stp_mono hord n))
  have HV := Lib.hid (own_below hv hbl.out)
  have HST := Lib.hid (fun W (hB : Below b w W) => hst.belowS (s := b) (fun _ ad e => by cases e; exact hgb) hB)
  have HNEW := Lib.hid (fun (e : (Value.slice V m cv).ownBlock = some bx) => by have := (hv.lt _ e).2; omega : (Value.slice V m cv).ownBlock = some bx → bx ≠ bx)
  clear hst hord hQ hlm hv
  go_enter Try.func31, Try.ntmps31
  go_wp2_with (first
    | (go_at_call 42; refine HBIN.out.mono ?_; rintro e w2 ⟨i0, bo, rfl, hile, hi1, hi2, hb2⟩; have hi0n : i0 ≤ n := (by rw [stpL_len, HQL.out] at hile; exact hile); have l0 := cell_below hb2 k0; have l1 := cell_below hb2 k1)
    | fail)
  have HB2 := Lib.hid (HBX.out.trans (hb2.mono (by omega)))
  have hb2s : b ≤ w.heap.size := by omega
  have HV2 := Lib.hid (own_below HV.out hb2)
  have HT0 := Lib.hid (top_of_bin HORD.out HQL.out hile hi1 hi2)
  have HK2 : Hid (w2.heap[bx]? = some (.cells #[.int .i64 x, .int .i64 y] 24 (0, 0))) := Lib.hid ((hb2.block bx (by omega)).trans (by rw [← hW0, ← hbx]; exact heap_alloc_new w _))
  have hvb : (Value.slice V m cv).ownBlock ≠ some bx := fun e => by
    have := (HV.out.lt _ e).2
    have h3 : bx < W0.heap.size := by omega
    exact absurd rfl (HNEW.out e)
  clear hile hi1 hi2 hb2 l0 l1
  go_loopw [0, 10, 11] (fun v t10 t11 wr => ∃ (acc : List Sp) (e z : Int) (k i p : Nat), t10 = .int .i64 e ∧ t11 = .int .i64 z ∧ Hid (z = (i : Int) - 1) ∧ Hid (p = m + acc.length) ∧ Hid (acc.length + i ≤ n) ∧ Hid (TopB Q e k i) ∧ Hid (lnCut y x bs = lnCut e x (bs.take k) ++ acc.reverse) ∧ wr.ownsRow b 24 2 v p (cellsS (L0 ++ acc)) ∧ Hid (v.ownBlock ≠ some bx) ∧ Hid (wr.heap[bx]? = some (.cells #[.int .i64 x, .int .i64 y] 24 (0, 0))) ∧ Below b w wr) (fun _ _ t11 _ => (intOf t11 + 1).toNat)
  case atStart => exact ⟨[], y, (i0 : Int) - 1, bs.length, i0, m, rfl, rfl, Lib.hid rfl, Lib.hid rfl, Lib.hid (by simpa using hi0n), HT0, Lib.hid (by simp), by simpa using HV2.out, Lib.hid hvb, HK2, HB2.out⟩
  case round =>
    obtain ⟨acc, e, z, k, i, p, rfl, rfl, HZ, HP, HAL, HT, HEQ, hown, HVB, HK, hbw⟩ := hrel
    have HO := Lib.hid hown
    have HB := Lib.hid hbw
    have hp1 : p ≤ 1001000 := by have := HP.out; have := HAL.out; omega
    have hpm : m ≤ p := by have := HP.out; omega
    clear hown hbw
    by_cases hi : i = 0
    · obtain rfl : z = -1 := by have := HZ.out; omega
      have HEND := Lib.hid (show lnCut y x bs = (acc ++ [(x, e)]).reverse by rw [HEQ.out, top_end HORD.out HT.out (fun s h => by omega)]; simp)
      go_wp2
      go_quiet (fail)
      have HOq := Lib.hid (own_below HO.out (drewBelow nq))
      have HBq := Lib.hid (HB.out.trans ((drewBelow nq).mono (Nat.le_trans hb2s HB.out.size)))
      have HKq := Lib.hid (show (wr.drewN nq).heap[bx]? = some (.cells #[.int .i64 x, .int .i64 y] 24 (0, 0)) from HK.out)
      generalize wr.drewN nq = wq at *
      have j0 := hp_cell (j := 0) HKq.out rfl
      have hbq := Nat.le_trans hb2s HBq.out.size
      go_wp2_with (first
        | (at_builtin; refine wpList_app rfl _ _ _ rfl spanSlice (by decide) _ p _ rfl (HOq.out.alloc _) ⟨wq.heap.size, 0, none⟩ 1 1 [.int .i64 x, .int .i64 e] rfl rfl (cells_new wq [_, _] _) (oneInt2 _ _ _) (by omega) (by unfold maxLen; omega) (Nat.le_trans hbq (by simp)) ?_; intro v1 w1 hown1 hg1 hat1; have hgr := below_app (HBq.out.alloc hbq _) hg1 (HOq.out.alloc _) (Nat.le_trans hbq (by simp)); obtain ⟨gv, c1, he, hcc, hlt, hbg⟩ := own_szS hown1 (by omega); subst he; have hcm : ¬ c1 = m := by omega)
        | (go_at_call 44; refine (revO_any (g := gv) (n := p + 1) (m := m) (cap := c1) (l := L0) (d := acc ++ [(x, e)]) (by rw [← List.append_assoc, cellsS_snoc]; exact hown1) HLM.out (by omega)).mono ?_; rintro e5 w5 ⟨rfl, hown5, hg5⟩)
        | fail)
      go_ret
      refine ⟨_, rfl, ?_, hgr.grown hg5 (Nat.le_trans hb2s hgr.size) (fun k e => by cases e; exact hbg)⟩
      have hll := hown5.1
      rw [cellsS_len, List.length_append, HLM.out] at hll
      rw [HEND.out, show m + ((acc ++ [(x, e)]).reverse).length = p + 1 by omega]
      exact hown5
    · obtain ⟨h, rfl⟩ : ∃ h, i = h + 1 := ⟨i - 1, by omega⟩
      obtain rfl : z = (h : Int) := by have := HZ.out; omega
      have hhn : h < n := by have := HAL.out; omega
      obtain ⟨q, hq⟩ : ∃ q, Q[h]? = some q := ⟨_, List.getElem?_eq_getElem (by rw [HQL.out]; exact hhn)⟩
      have HQ := Lib.hid hq
      have hst := stpL_get (i := n) hq
      rw [if_pos hhn] at hst
      obtain ⟨ad, hae, hab, hcell⟩ := (HST.out wr HB.out).2 (by omega)
      obtain rfl := Option.some.inj hae
      have s0 := hcell _ _ (cellsT_at hst).1
      have s2 := hcell _ _ (cellsT_at hst).2.2
      rw [addNew] at s0 s2
      simp only at s0 s2
      obtain ⟨a, ha⟩ : ∃ a, q.1 = a := ⟨_, rfl⟩
      obtain ⟨z2, hz2⟩ : ∃ z2, near (Q.map (·.2)) q.2 h = z2 := ⟨_, rfl⟩
      have hnb := near_le (Q.map (·.2)) q.2 h
      rw [hz2] at s2 hnb
      rw [ha] at s0
      have HA := Lib.hid ha
      have HZ2 := Lib.hid hz2
      have b0 := hp_cell (j := 0) HK.out rfl
      have hhi : (h : Int) < (n : Int) := by omega
      have hh0 : (0 : Int) ≤ (h : Int) := by omega
      have hh5 : (h : Int) ≤ 1000 := by omega
      clear hq hst ha hz2 hi hae hcell
      by_cases hlt : x < a
      · have d1 : decide (x < a) = true := decide_eq_true hlt
        have HLT := Lib.hid hlt
        clear hlt
        go_wp2
        go_quiet (fail)
        obtain ⟨k', hk1, hk2, ht2, hi2', hcut⟩ := top_next HORD.out HT.out HQ.out (by rw [HA.out]; exact HLT.out) (i' := (z2 + 1).toNat) (by rw [HZ2.out]; omega)
        rw [HA.out] at ht2 hcut
        have HT2 := Lib.hid ht2
        have HEQ2 : Hid (lnCut y x bs = lnCut a x (bs.take k') ++ (acc ++ [(a, e)]).reverse) := Lib.hid (by rw [HEQ.out, hcut]; simp)
        have HAL2 : Hid ((acc ++ [(a, e)]).length + (z2 + 1).toNat ≤ n) := Lib.hid (by rw [List.length_append]; have := HAL.out; simp only [List.length_cons, List.length_nil]; omega)
        have HP2 : Hid (p + 1 = m + (acc ++ [(a, e)]).length) := Lib.hid (by rw [List.length_append, HP.out]; simp only [List.length_cons, List.length_nil]; omega)
        have HZ3 : Hid (z2 = ((z2 + 1).toNat : Int) - 1) := Lib.hid (by omega)
        have HS0 := Lib.hid (fun W (hB : Below b w W) => by
          obtain ⟨ad, hae, _, hcell⟩ := (HST.out W hB).2 (by omega)
          obtain rfl := Option.some.inj hae
          have s0 := hcell _ _ (cellsT_at (stpL_get (i := n) HQ.out)).1
          rw [addNew, HA.out] at s0
          exact s0 : ∀ W, Below b w W → W.cell? ⟨g, h * 3, none⟩ = some (.int .i64 a))
        have HS2 := Lib.hid (fun W (hB : Below b w W) => by
          obtain ⟨ad, hae, _, hcell⟩ := (HST.out W hB).2 (by omega)
          obtain rfl := Option.some.inj hae
          have hst := stpL_get (i := n) HQ.out
          rw [if_pos hhn, HZ2.out] at hst
          have s2 := hcell _ _ (cellsT_at hst).2.2
          rw [addNew] at s2
          exact s2 : ∀ W, Below b w W → W.cell? ⟨g, h * 3 + 2, none⟩ = some (.int .i64 z2))
        clear hk1 hk2 ht2 hcut
        have HOq := Lib.hid (own_below HO.out (drewBelow nq))
        have HBq := Lib.hid (HB.out.trans ((drewBelow nq).mono (Nat.le_trans hb2s HB.out.size)))
        have HKq := Lib.hid (show (wr.drewN nq).heap[bx]? = some (.cells #[.int .i64 x, .int .i64 y] 24 (0, 0)) from HK.out)
        generalize wr.drewN nq = wq at *
        have r0 := HS0.out wq HBq.out
        have hbq := Nat.le_trans hb2s HBq.out.size
        have hbxq := hp_lt HKq.out
        go_wp2_with (first
          | (at_builtin; refine wpList_app rfl _ _ _ rfl spanSlice (by decide) _ p _ rfl (HOq.out.alloc _) ⟨wq.heap.size, 0, none⟩ 1 1 [.int .i64 a, .int .i64 e] rfl rfl (cells_new wq [_, _] _) (oneInt2 _ _ _) (by omega) (by unfold maxLen; omega) (Nat.le_trans hbq (by simp)) ?_; intro v1 w1 hown1 hg1 hat1; have hgr := below_app (HBq.out.alloc hbq _) hg1 (HOq.out.alloc _) (Nat.le_trans hbq (by simp)); have r1 := HS0.out w1 hgr; have r2 := HS2.out w1 hgr)
          | fail)
        have HO1 : Hid (w1.ownsRow b 24 2 v1 (p + 1) (cellsS (L0 ++ (acc ++ [(a, e)])))) := Lib.hid (by rw [← List.append_assoc, cellsS_snoc]; exact hown1)
        have HK1 : Hid (w1.heap[bx]? = some (.cells #[.int .i64 x, .int .i64 y] 24 (0, 0))) := Lib.hid (blk_grown (blk_alloc HKq.out _) hg1 HVB.out)
        have HV1 : Hid (v1.ownBlock ≠ some bx) := Lib.hid (by
          rcases hat1 with h9 | h9
          · rw [h9]; exact HVB.out
          · rw [h9]; intro e; injection e with e; simp at e; omega)
        clear hown1 hg1 hat1
        go_roundw
        case rel => exact ⟨acc ++ [(a, e)], a, z2, k', (z2 + 1).toNat, p + 1, rfl, rfl, HZ3, HP2, HAL2, HT2, HEQ2, HO1.out, HV1, HK1, hgr⟩
        case measure => simp [intOf]; omega
      · have d1 : decide (x < a) = false := decide_eq_false hlt
        have HGE := Lib.hid hlt
        clear hlt
        have HEND := Lib.hid (show lnCut y x bs = (acc ++ [(x, e)]).reverse by rw [HEQ.out, top_end HORD.out HT.out (fun s _ hs => by rw [Nat.add_sub_cancel] at hs; obtain rfl := Option.some.inj (HQ.out.symm.trans hs); rw [HA.out]; have := HGE.out; omega)]; simp)
        go_wp2
        go_quiet (fail)
        have HOq := Lib.hid (own_below HO.out (drewBelow nq))
        have HBq := Lib.hid (HB.out.trans ((drewBelow nq).mono (Nat.le_trans hb2s HB.out.size)))
        have HKq := Lib.hid (show (wr.drewN nq).heap[bx]? = some (.cells #[.int .i64 x, .int .i64 y] 24 (0, 0)) from HK.out)
        generalize wr.drewN nq = wq at *
        have j0 := hp_cell (j := 0) HKq.out rfl
        have hbq := Nat.le_trans hb2s HBq.out.size
        go_wp2_with (first
          | (at_builtin; refine wpList_app rfl _ _ _ rfl spanSlice (by decide) _ p _ rfl (HOq.out.alloc _) ⟨wq.heap.size, 0, none⟩ 1 1 [.int .i64 x, .int .i64 e] rfl rfl (cells_new wq [_, _] _) (oneInt2 _ _ _) (by omega) (by unfold maxLen; omega) (Nat.le_trans hbq (by simp)) ?_; intro v1 w1 hown1 hg1 hat1; have hgr := below_app (HBq.out.alloc hbq _) hg1 (HOq.out.alloc _) (Nat.le_trans hbq (by simp)); obtain ⟨gv, c1, he, hcc, hlt, hbg⟩ := own_szS hown1 (by omega); subst he; have hcm : ¬ c1 = m := by omega)
          | (go_at_call 44; refine (revO_any (g := gv) (n := p + 1) (m := m) (cap := c1) (l := L0) (d := acc ++ [(x, e)]) (by rw [← List.append_assoc, cellsS_snoc]; exact hown1) HLM.out (by omega)).mono ?_; rintro e5 w5 ⟨rfl, hown5, hg5⟩)
          | fail)
        go_ret
        refine ⟨_, rfl, ?_, hgr.grown hg5 (Nat.le_trans hb2s hgr.size) (fun k e => by cases e; exact hbg)⟩
        have hll := hown5.1
        rw [cellsS_len, List.length_append, HLM.out] at hll
        rw [HEND.out, show m + ((acc ++ [(x, e)]).reverse).length = p + 1 by omega]
        exact hown5
end Go.Proofs.Ytdgomaoikeffhaa
