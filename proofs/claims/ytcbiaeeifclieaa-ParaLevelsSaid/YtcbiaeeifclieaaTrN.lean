/- The project's newStages: the unlike blocks, and which of them each block is. -/
import Derived.Test.YtcbiaeeifclieaaTrR3
import Derived.Test.YtcbiaeeifclieaaTrK4
import Derived.Maps.OwnOps
namespace Go.Proofs.Ytcbiaeeifclieaa
open Go.RowKit
def StPost (w0 : World) (l0 : List Rg) (z : Int) (e : Ending) (w' : World) : Prop :=
  ∃ cs bl wh, e = .returned (.agg cs) ∧ StInv l0 z 8704 bl wh ∧ Below w0.heap.size w0 w' ∧ ∃ v, StCells cs z wh v ∧ w'.ownsRow (w0.heap.size + 3) 154 128 v bl.length (cellsK bl)
set_option maxRecDepth 100000 in
set_option maxHeartbeats 4000000 in
theorem prStages_any (A : Option Addr) (n c : Nat) (z : Int) (l : List Rg) (w : World) (hr : Rd w 3 A n (cellsG l)) (hn : n ≤ maxLen) (hnc : n ≤ c) (hrise : riseB (-1) l = true) (hfz : FitI z) (hfl : ∀ s ∈ l, FitI s.2.2) :
    Calls Try.prog 94 #[.slice A n c, .int .i64 z] w (StPost w l z) := by
  obtain ⟨Zb, hZb, hzb⟩ := blkZero
  obtain ⟨Z, h1, h2, h3, h4⟩ := stZero
  have hz := (zero_of_info h4).1
  obtain ⟨C, hCe⟩ : ∃ C, Z.setIfInBounds 8705 (.int .i64 z) = C := ⟨_, rfl⟩
  have hC : StCells C z [] (.slice none 0 0) := by
    rw [← hCe]
    refine ⟨by simp [h1], by rw [Array.getElem?_setIfInBounds_ne (by omega)]; exact h2, by rw [Array.getElem?_setIfInBounds_self_of_lt (by omega)], fun j q hj => by simp at hj, all_set ?_ rfl⟩
    rw [← Array.all_toList]
    exact h3
  have hst : (storeCells ⟨w.heap.size + 1, 0, none⟩ (Z.toList.set 8705 (.int .i64 z)) 0).run Try.prog ((w.alloc (.cells Z 137)).alloc (.cells Z 137)) = .ok () ((w.alloc (.cells Z 137)).alloc (.cells C 137)) := by
    have hsz : (w.alloc (.cells Z 137)).heap.size = w.heap.size + 1 := by simp
    have := run_storeCells_new (P := Try.prog) (w.alloc (.cells Z 137)) 137 Z C (by rw [hC.size]; kernel_rfl) (by rw [h1, hC.size]) hC.one
    rw [hsz] at this
    rw [show Z.toList.set 8705 (.int .i64 z) = C.toList by rw [← hCe]; simp]
    exact this
  have HS : Hid (StAt w l z n (.slice A n c) (.int .i64 0) (((w.alloc (.cells Z 137)).alloc (.cells C 137)).alloc (.map #[] 0))) := by
    have e2 : ((w.alloc (.cells Z 137)).alloc (.cells C 137)).heap.size = w.heap.size + 2 := by simp
    have e1 : (w.alloc (.cells Z 137)).heap.size = w.heap.size + 1 := by simp
    refine Lib.hid ⟨0, n, c, A, l, [], [], rfl, by omega, rfl, Nat.le_refl _, hnc, hr, ⟨(srt_of_rise hrise).1, fun _ _ => rfl⟩, StInv.start l z, ⟨⟨Z, h1, ⟨137, ?_⟩⟩, ⟨C, _, ⟨137, ?_⟩, hC, ⟨by simp [cellsK], .inl ⟨rfl, rfl⟩⟩⟩, ⟨_, ?_, MapIs.start⟩, ?_⟩⟩
    · rw [heap_alloc_old (h := by simp; omega), heap_alloc_old (h := by simp)]; exact heap_alloc_new w _
    · rw [heap_alloc_old (h := by simp), ← e1]; exact heap_alloc_new _ _
    · rw [← e2]; exact World.ownsMap_made _ _ _ _
    · exact (((Below.refl _ _).alloc (Nat.le_refl _) _).alloc (by simp) _).alloc (by simp; omega) _
  have hmk : ∀ w, (Instr.makeMap 152 none).run Try.prog w = .ok (.map (some w.heap.size)) (w.alloc (.map #[] 0)) := fun _ => rfl
  have HCC := Lib.hid hC
  have HZ := Lib.hid hZb
  have HR := Lib.hid hrise
  have HFI := Lib.hid (fun j x hx => blkAt_fit l z hfz hfl j x hx)
  clear h2 h3 h4 hC hZb hCe hr hrise hfl
  unfold maxLen at hn
  go_enter Try.func94, Try.ntmps94
  go_wp2
  go_loopw [0, 14] (StAt w l z n) (fun _ i _ => 8704 - (intOf i).toNat)
  case atStart => exact HS.out
  case round =>
    clear hst
    obtain ⟨k, n1, c1, A1, l1, bl, wh, rfl, hk, rfl, hn1, hnc1, hr1, hleft, hinv, hmem⟩ := hrel
    have HL := Lib.hid hleft
    have HI := Lib.hid hinv
    have HM := Lib.hid hmem
    have HR1 := Lib.hid hr1
    have HB := Lib.hid hmem.below
    clear hleft hinv hmem hr1
    by_cases hlt : k < 8704
    · obtain ⟨t, ht⟩ : ∃ t, cutB (128 * (k : Int)) l1 (List.replicate 128 z) = t := ⟨_, rfl⟩
      have HT := Lib.hid ht
      clear ht
      go_wp2_with fail
      refine (prCut_any A1 n1 c1 (k * 128) z l1 t (by rw [← HT.out, Int.mul_comm]) w _ ?_ HR1.out (by unfold maxLen; omega) hnc1 (by omega) (by omega)).mono ?_
      · exact HB.out.alloc HB.out.size _
      rintro e w1 ⟨⟨A2, n2, c2, rfl, hn2, hnc2, hr2⟩, ht128, hb1⟩
      obtain ⟨b, rest⟩ := t
      simp only at hr2 ht128
      have hcut := left_cut HL.out
      rw [HT.out] at hcut
      simp only at hcut
      have HBE := Lib.hid hcut.1
      have HLE := Lib.hid hcut.2
      have HR2 := Lib.hid hr2
      have HBL := Lib.hid ht128
      have hga : wr.grownBy w1 none := grown_onT (World.grownBy_alloc wr _ none) (grown_of_below' none hb1)
      have hblk : w1.heap[wr.heap.size]? = some (.cells (intsA (List.replicate 128 0)) 154 (0, 0)) := by
        rw [hb1.block _ (by simp), ← HZ.out]; exact heap_alloc_new wr _
      have hb83 : w.heap.size + 3 ≤ wr.heap.size := by
        obtain ⟨D0, hD0, _⟩ := HM.out.map
        have := hD0.lt
        omega
      have hst := run_storeBlk hblk (by simp) ht128
      have HM2 := Lib.hid (HM.out.far (Nat.le_refl _) hga (intsA b))
      have HI8 : Hid (IntBlk (w1.setRow wr.heap.size (intsA b)) wr.heap.size b) := Lib.hid ⟨154, by
        simp only [World.setRow, Array.getElem?_modify, if_true, hblk]; rfl⟩
      have hs2 := (intsA_size b).trans ht128
      obtain ⟨w2, hw2⟩ : ∃ w2, w1.setRow wr.heap.size (intsA b) = w2 := ⟨_, rfl⟩
      rw [hw2] at hst HM2 HI8
      obtain ⟨b8, hb8⟩ : ∃ b8, wr.heap.size = b8 := ⟨_, rfl⟩
      simp only [hb8] at hst HI8 hb83 ⊢
      have H8 := Lib.hid hb8
      have HW2 := Lib.hid hw2
      clear hw2 hb8 hr2 ht128 hcut hga hblk hb1
      by_cases hk0 : 0 < k
      · obtain ⟨k', rfl⟩ : ∃ k', k = k' + 1 := ⟨k - 1, by omega⟩
        obtain ⟨cs, v, hcs, hsc, hown⟩ := HM2.out.st
        obtain ⟨q, hq1, hq2⟩ := HI.out.at_ k' (by omega)
        have hqn := (List.getElem?_eq_some_iff.1 hq2).1
        have hlens : ∀ x ∈ bl, x.length = 128 := fun x hx => by
          obtain ⟨j, _, rfl⟩ := HI.out.real x hx
          exact blkAt_len _ _ _
        have hfit : ∀ j, ∀ x ∈ blkAt l z j, FitI x := fun j x hx => HFI.out j x hx
        obtain ⟨kb, hkb⟩ := blkKey b HBL.out (by rw [HBE.out]; exact hfit _)
        obtain ⟨kd, hkd⟩ := blkKey (blkAt l z k') (blkAt_len _ _ _) (hfit _)
        obtain ⟨g, cap, rfl, hcap⟩ := own_some hown (by omega)
        have e1 := hcs.cell (hsc.which k' q hq1)
        have e2 := hcs.cell hsc.blocks
        have l1 := fun N => ((HI8.out.drewN N).load HBL.out)
        have l2 := fun N => (loadBlkAt (w := w2.drewN N) (a := ⟨g, q * 128, none⟩) (blkAt_len l z k') (fun j x hx => by
          have := own_blk hown hlens hq2 j x hx
          rw [addNew] at this
          rw [addOff]
          exact this))
        obtain ⟨u3, e3⟩ : ∃ u, w2.cell? ⟨w.heap.size + 1, k' + 1, none⟩ = some u := ⟨_, hcs.cell (Array.getElem?_eq_getElem (by rw [hsc.size]; omega))⟩
        have f3 := hcs.thaw (k' + 1)
        have HN : Hid (b = blkAt l z k' → ∀ nq, StAt w l z n (.slice A2 n2 c2) (.int .i64 ((k' : Int) + 1 + 1)) ((w2.drewN nq).setCell ⟨w.heap.size + 1, k' + 1, none⟩ (.int .u16 q))) := Lib.hid (fun hE nq => by
          have hm := (HM2.out.grown (w' := w2.drewN nq) ⟨rfl, rfl, rfl, Nat.le_refl _, fun _ _ _ => rfl⟩).lay (by rw [HI.out.len]; exact hlt) q
          rw [HI.out.len] at hm
          exact ⟨k' + 1 + 1, n2, c2, A2, rest, bl, wh ++ [q], by simp, by omega, rfl, by omega, hnc2, HR2.out, HLE.out, HI.out.old (by rw [hq2, ← hE, HBE.out]), hm⟩)
        have L1 := Lib.hid l1
        have L2 := Lib.hid l2
        have KB := Lib.hid hkb
        have KD := Lib.hid hkd
        clear l1 l2 hkb hkd hfit hlens hcs hsc hown hq1 hq2
        go_wp2
        refine wp_region_quiet_lit (by kernel_rfl) (by kernel_rfl) ?_
        go_big_quiet_step (fail)
        go_big_quiet_step (fail)
        go_big_quiet_step (fail)
        go_big_quiet_want
        refine quiet_loadT 154 _ (by rfl) ⟨b8, 0, none⟩ (.agg (intsA b)) (by rfl) (fun w' hw' => by obtain ⟨N, rfl⟩ := hw'; exact (L1.out N).1) ?_
        go_simp
        go_big_quiet_on
        go_big_quiet_step (fail)
        go_big_quiet_step (fail)
        go_big_quiet_step (fail)
        go_big_quiet_step (fail)
        go_big_quiet_step (fail)
        go_big_quiet_step (fail)
        go_big_quiet_step (fail)
        go_big_quiet_step (fail)
        go_big_quiet_want
        refine quiet_loadT 154 _ (by rfl) ⟨g, q * 128, none⟩ (.agg (intsA (blkAt l z k'))) (by rfl) (fun w' hw' => by obtain ⟨N, rfl⟩ := hw'; exact (L2.out N).1) ?_
        go_simp
        go_big_quiet_on
        go_big_quiet_want
        refine quiet_eqlT 154 _ _ _ (by rfl) (.agg (intsA b)) (.agg (intsA (blkAt l z k'))) (decide (b = blkAt l z k')) (by rfl) (by rfl) (fun w' => by simp [go_sem, Try.eqGuardType154]) (fun w' => (eqlBlk KB.out KD.out w').1) ?_
        go_simp
        go_big_quiet_on
        by_cases hbe : b = blkAt l z k'
        · have HE := Lib.hid hbe
          rw [decide_eq_true hbe]
          clear hbe
          go_big_quiet_step (fail)
          refine wpQuiet_nil ?_
          intro _ hw'
          obtain ⟨nq, hw''⟩ := hw'
          subst hw''
          go_wp2
          go_roundw
          case rel => exact HN.out HE.out nq
          case measure => simp [intOf]; omega
        · rw [decide_eq_false hbe]
          clear hbe
          go_big_quiet_step (fail)
          refine wpQuiet_nil ?_
          intro _ hw'
          obtain ⟨nq, hw''⟩ := hw'
          subst hw''
          obtain ⟨T8, hg8⟩ := (HI8.out.drewN nq).cells
          have hsz := blkSize HBL.out
          obtain ⟨D, hmap, hMD⟩ := (HM2.out.drewN nq).map
          have HMD := Lib.hid hMD
          clear hMD
          have hzu : (zeroValue 133).run Try.prog (w2.drewN nq) = .ok (.int .u16 0) (w2.drewN nq) := by simp [go_sem]
          obtain ⟨csk, Av, cv, hcsk, hsck, hownk⟩ := (HM2.out.drewN nq).reads
          have e2k : w2.cell? ⟨w.heap.size + 1, 8704, none⟩ = some (.slice Av bl.length cv) := hcsk.cell hsck.blocks
          obtain ⟨u3k, e3k⟩ : ∃ u, w2.cell? ⟨w.heap.size + 1, k' + 1, none⟩ = some u := ⟨_, hcsk.cell (Array.getElem?_eq_getElem (by rw [hsck.size]; omega))⟩
          have f3k : w2.frozen? ⟨w.heap.size + 1, k' + 1, none⟩ = false := hcsk.thaw (k' + 1)
          have HCK := Lib.hid hcsk
          have HSK := Lib.hid hsck
          have HOK := Lib.hid hownk
          have hfew := HI.out.few
          clear hcsk hsck hownk
          have hi3 : ∀ c1 : Int, D.atKey kb (DataW.lit (Lit.int IntKind.u16 0)) = DataW.lit (Lit.int IntKind.u16 c1) → ∀ qo : Nat, bl[qo]? = some b → c1 = (qo : Int) := fun c1 hat qo hqo => by
            have := hat.symm.trans ((HMD.out.2 b kb KB.out).2 qo hqo)
            simpa using this
          have HI3 := Lib.hid hi3
          clear hi3
          by_cases hin : b ∈ bl
          · have hhas : Maps.has D kb = true := ((HMD.out.2 b kb KB.out).1).2 hin
            obtain ⟨qo, hqo⟩ := List.getElem?_of_mem hin
            have HQO := Lib.hid hqo
            clear hqo hin
            go_wp2_with (first
              | ((with_reducible refine wpList_load_row rfl 154 _ rfl b8 ?_ _ _ (0, 0) _ hg8 Try.underlying154 rfl hsz ?_); rfl)
              | (at_lookup; refine wpList_lookup_own_ok_int _ rfl _ _ 152 rfl 154 133 .u16 blkKeyed Try.underlying152 Try.underlying133 hzu (w.heap.size + 2) bl.length D rfl hmap _ kb rfl KB.out ?_; intro cq hat hwc)
              | fail)
            exact ⟨stAt_old (k := (k' + 1)) HLE.out HI.out hlt (by omega) hnc2 HR2.out (HM2.out.drewN nq) (q := qo) (by rw [HQO.out, HBE.out]) (HI3.out cq hat qo HQO.out) (by simp), by simp [intOf]; omega⟩
          · have hhas : Maps.has D kb = false := by
              rw [Bool.eq_false_iff]
              exact fun h => hin (((HMD.out.2 b kb KB.out).1).1 h)
            have HIN := Lib.hid hin
            clear hin
            have hval : plainElem (H := Unit) Try.prog 133 (.int .u16 (bl.length : Nat)) = some (.lit (.int .u16 (bl.length : Nat)), []) := plainElem_int Try.underlying133 (by simp [Lit.wf, IntKind.min, IntKind.max, IntKind.signed, IntKind.bits]; omega)
            have HVAL := Lib.hid hval
            clear hval
            obtain ⟨_, ie, ze, hie, hze, hes, _, hzes⟩ := blkSlice
            have HES := Lib.hid hes
            clear hes hzes
            have hlk : bl.length ≤ 8704 := by omega
            go_wp2_with (first
              | ((with_reducible refine wpList_load_row rfl 154 _ rfl b8 ?_ _ _ (0, 0) _ hg8 Try.underlying154 rfl hsz ?_); rfl)
              | ((with_reducible refine wpList_load_row rfl 154 _ rfl b8 ?_ _ _ (0, 0) _ hg9 Try.underlying154 rfl hsz ?_); rfl)
              | (at_lookup; refine wpList_lookup_own_ok_int _ rfl _ _ 152 rfl 154 133 .u16 blkKeyed Try.underlying152 Try.underlying133 hzu (w.heap.size + 2) bl.length D rfl hmap _ kb rfl KB.out ?_; intro cq hat hwc)
              | (at_mapUpdate; refine wpList_mapUpdate_own _ rfl _ _ _ 152 rfl 154 133 blkKeyed Try.underlying152 _ (w.heap.size + 2) bl.length D rfl hmap (by unfold maxLen; omega) _ _ kb rfl rfl KB.out (.lit (.int .u16 (bl.length : Nat))) [] HVAL.out ?_; intro w3 hmap3 hg3; have hck3 := HCK.out.grown (w' := w3) (row := some (w.heap.size + 2)) hg3 (by simp); have e23 := hck3.cell HSK.out.blocks; have HI83 := Lib.hid ((HI8.out.drewN nq).grown (w' := w3) (row := some (w.heap.size + 2)) hg3 (by simp; omega)); obtain ⟨T9, hg9⟩ := HI83.out.cells; have HOK3 := Lib.hid (HOK.out.kept (w' := w3) (row := some (w.heap.size + 2)) hg3 (.inr (fun e => own_ne HOK.out (by omega) e))); have HCK3 := Lib.hid hck3; have HM3 := Lib.hid hmap3; have HG3 := Lib.hid hg3; clear hck3 hmap3 hg3 hg8)
              | ((with_reducible refine wpList_buildSlice rfl 135 154 1 #[(0, .tmp 65)] rfl (intsA b) ie ze Try.underlying135 hie hze ?_ ?_ ?_ ?_); (rw [HES.out]; decide); (rw [HES.out]; decide); (rw [HES.out, Array.toList_map]; refine blkFill b HBL.out _ ?_; simp); (have HOK4 := Lib.hid (HOK3.out.alloc (.cells (intsA b) 154))); (have HNEW := Lib.hid (rd_blk (w := w3.alloc (.cells (intsA b) 154)) (m := 1) (cs := b.map (Value.int .i64)) (t := 154) 128 (heap_alloc_new w3 _) (by simp [HBL.out]))))
              | (at_builtin; refine wpList_appR rfl _ _ 135 rfl blkSlice (by decide) (.slice Av bl.length cv) bl.length (cellsK bl) rfl HOK4.out (some ⟨w3.heap.size, 0, none⟩) 1 1 (b.map (Value.int .i64)) rfl HNEW.out (oneInts _ _) (by omega) (by unfold maxLen; omega) (by have := HCK3.out.lt; have := HM3.out.lt; simp; omega) ?_; intro v' w5 h5 g5 hat5; obtain ⟨g9, c9, rfl, hc9⟩ := own_some h5 (by omega); have hck5 := (HCK3.out.grown (w' := w3.alloc (.cells (intsA b) 154)) (row := none) (World.grownBy_alloc w3 _ none) (by simp)).grown (w' := w5) g5 (own_ne HOK4.out (by omega)); have e5 := hck5.cell HSK.out.blocks; have f5 := hck5.thaw 8704; have f6 := hck5.thaw (k' + 1); obtain ⟨u6, e6⟩ : ∃ u, w5.cell? ⟨w.heap.size + 1, k' + 1, none⟩ = some u := ⟨_, hck5.cell (Array.getElem?_eq_getElem (by rw [HSK.out.size]; omega))⟩; have H5 := Lib.hid h5; have G5 := Lib.hid g5; clear hck5 h5 g5 hat5)
              | fail)
            exact ⟨stAt_new (k := (k' + 1)) HLE.out HI.out hlt (by omega) hnc2 HR2.out (HM2.out.drewN nq) HBE.out HIN.out HMD.out KB.out HM3.out HG3.out (World.grownBy_alloc w3 _ none) HOK4.out H5.out G5.out rfl (by simp), by simp [intOf]; omega⟩
      · have hk1 : ¬ (0 < (k : Int)) := by omega
        obtain ⟨kb, hkb⟩ := blkKey b HBL.out (by rw [HBE.out]; exact fun x hx => HFI.out k x hx)
        have KB := Lib.hid hkb
        clear hkb
        go_wp2
        go_quiet (fail)
        obtain ⟨T8, hg8⟩ := (HI8.out.drewN nq).cells
        have hsz := blkSize HBL.out
        obtain ⟨D, hmap, hMD⟩ := (HM2.out.drewN nq).map
        have HMD := Lib.hid hMD
        clear hMD
        have hzu : (zeroValue 133).run Try.prog (w2.drewN nq) = .ok (.int .u16 0) (w2.drewN nq) := by simp [go_sem]
        obtain ⟨csk, Av, cv, hcsk, hsck, hownk⟩ := (HM2.out.drewN nq).reads
        have e2k : w2.cell? ⟨w.heap.size + 1, 8704, none⟩ = some (.slice Av bl.length cv) := hcsk.cell hsck.blocks
        obtain ⟨u3k, e3k⟩ : ∃ u, w2.cell? ⟨w.heap.size + 1, k, none⟩ = some u := ⟨_, hcsk.cell (Array.getElem?_eq_getElem (by rw [hsck.size]; omega))⟩
        have f3k : w2.frozen? ⟨w.heap.size + 1, k, none⟩ = false := hcsk.thaw (k)
        have HCK := Lib.hid hcsk
        have HSK := Lib.hid hsck
        have HOK := Lib.hid hownk
        have hfew := HI.out.few
        clear hcsk hsck hownk
        have hi3 : ∀ c1 : Int, D.atKey kb (DataW.lit (Lit.int IntKind.u16 0)) = DataW.lit (Lit.int IntKind.u16 c1) → ∀ qo : Nat, bl[qo]? = some b → c1 = (qo : Int) := fun c1 hat qo hqo => by
          have := hat.symm.trans ((HMD.out.2 b kb KB.out).2 qo hqo)
          simpa using this
        have HI3 := Lib.hid hi3
        clear hi3
        by_cases hin : b ∈ bl
        · have hhas : Maps.has D kb = true := ((HMD.out.2 b kb KB.out).1).2 hin
          obtain ⟨qo, hqo⟩ := List.getElem?_of_mem hin
          have HQO := Lib.hid hqo
          clear hqo hin
          go_wp2_with (first
            | ((with_reducible refine wpList_load_row rfl 154 _ rfl b8 ?_ _ _ (0, 0) _ hg8 Try.underlying154 rfl hsz ?_); rfl)
            | (at_lookup; refine wpList_lookup_own_ok_int _ rfl _ _ 152 rfl 154 133 .u16 blkKeyed Try.underlying152 Try.underlying133 hzu (w.heap.size + 2) bl.length D rfl hmap _ kb rfl KB.out ?_; intro cq hat hwc)
            | fail)
          exact ⟨stAt_old (k := k) HLE.out HI.out hlt (by omega) hnc2 HR2.out (HM2.out.drewN nq) (q := qo) (by rw [HQO.out, HBE.out]) (HI3.out cq hat qo HQO.out) (by simp), by simp [intOf]; omega⟩
        · have hhas : Maps.has D kb = false := by
            rw [Bool.eq_false_iff]
            exact fun h => hin (((HMD.out.2 b kb KB.out).1).1 h)
          have HIN := Lib.hid hin
          clear hin
          have hval : plainElem (H := Unit) Try.prog 133 (.int .u16 (bl.length : Nat)) = some (.lit (.int .u16 (bl.length : Nat)), []) := plainElem_int Try.underlying133 (by simp [Lit.wf, IntKind.min, IntKind.max, IntKind.signed, IntKind.bits]; omega)
          have HVAL := Lib.hid hval
          clear hval
          obtain ⟨_, ie, ze, hie, hze, hes, _, hzes⟩ := blkSlice
          have HES := Lib.hid hes
          clear hes hzes
          have hlk : bl.length ≤ 8704 := by omega
          go_wp2_with (first
            | ((with_reducible refine wpList_load_row rfl 154 _ rfl b8 ?_ _ _ (0, 0) _ hg8 Try.underlying154 rfl hsz ?_); rfl)
            | ((with_reducible refine wpList_load_row rfl 154 _ rfl b8 ?_ _ _ (0, 0) _ hg9 Try.underlying154 rfl hsz ?_); rfl)
            | (at_lookup; refine wpList_lookup_own_ok_int _ rfl _ _ 152 rfl 154 133 .u16 blkKeyed Try.underlying152 Try.underlying133 hzu (w.heap.size + 2) bl.length D rfl hmap _ kb rfl KB.out ?_; intro cq hat hwc)
            | (at_mapUpdate; refine wpList_mapUpdate_own _ rfl _ _ _ 152 rfl 154 133 blkKeyed Try.underlying152 _ (w.heap.size + 2) bl.length D rfl hmap (by unfold maxLen; omega) _ _ kb rfl rfl KB.out (.lit (.int .u16 (bl.length : Nat))) [] HVAL.out ?_; intro w3 hmap3 hg3; have hck3 := HCK.out.grown (w' := w3) (row := some (w.heap.size + 2)) hg3 (by simp); have e23 := hck3.cell HSK.out.blocks; have HI83 := Lib.hid ((HI8.out.drewN nq).grown (w' := w3) (row := some (w.heap.size + 2)) hg3 (by simp; omega)); obtain ⟨T9, hg9⟩ := HI83.out.cells; have HOK3 := Lib.hid (HOK.out.kept (w' := w3) (row := some (w.heap.size + 2)) hg3 (.inr (fun e => own_ne HOK.out (by omega) e))); have HCK3 := Lib.hid hck3; have HM3 := Lib.hid hmap3; have HG3 := Lib.hid hg3; clear hck3 hmap3 hg3 hg8)
            | ((with_reducible refine wpList_buildSlice rfl 135 154 1 #[(0, .tmp 65)] rfl (intsA b) ie ze Try.underlying135 hie hze ?_ ?_ ?_ ?_); (rw [HES.out]; decide); (rw [HES.out]; decide); (rw [HES.out, Array.toList_map]; refine blkFill b HBL.out _ ?_; simp); (have HOK4 := Lib.hid (HOK3.out.alloc (.cells (intsA b) 154))); (have HNEW := Lib.hid (rd_blk (w := w3.alloc (.cells (intsA b) 154)) (m := 1) (cs := b.map (Value.int .i64)) (t := 154) 128 (heap_alloc_new w3 _) (by simp [HBL.out]))))
            | (at_builtin; refine wpList_appR rfl _ _ 135 rfl blkSlice (by decide) (.slice Av bl.length cv) bl.length (cellsK bl) rfl HOK4.out (some ⟨w3.heap.size, 0, none⟩) 1 1 (b.map (Value.int .i64)) rfl HNEW.out (oneInts _ _) (by omega) (by unfold maxLen; omega) (by have := HCK3.out.lt; have := HM3.out.lt; simp; omega) ?_; intro v' w5 h5 g5 hat5; obtain ⟨g9, c9, rfl, hc9⟩ := own_some h5 (by omega); have hck5 := (HCK3.out.grown (w' := w3.alloc (.cells (intsA b) 154)) (row := none) (World.grownBy_alloc w3 _ none) (by simp)).grown (w' := w5) g5 (own_ne HOK4.out (by omega)); have e5 := hck5.cell HSK.out.blocks; have f5 := hck5.thaw 8704; have f6 := hck5.thaw (k); obtain ⟨u6, e6⟩ : ∃ u, w5.cell? ⟨w.heap.size + 1, k, none⟩ = some u := ⟨_, hck5.cell (Array.getElem?_eq_getElem (by rw [HSK.out.size]; omega))⟩; have H5 := Lib.hid h5; have G5 := Lib.hid g5; clear hck5 h5 g5 hat5)
            | fail)
          exact ⟨stAt_new (k := k) HLE.out HI.out hlt (by omega) hnc2 HR2.out (HM2.out.drewN nq) HBE.out HIN.out HMD.out KB.out HM3.out HG3.out (World.grownBy_alloc w3 _ none) HOK4.out H5.out G5.out rfl (by simp), by simp [intOf]; omega⟩
    · obtain rfl : k = 8704 := by omega
      obtain ⟨Zr, hZr, Tr, hgr⟩ := HM.out.res
      obtain ⟨cs, v, ⟨Ts, hgs⟩, hsc, hown⟩ := HM.out.st
      have hsz : (Try.prog.info? 137).map (·.size) = some cs.size := by rw [hsc.size]; kernel_rfl
      have hgw : wr.grownBy (wr.setRow w.heap.size cs) (some w.heap.size) := ⟨rfl, rfl, rfl, by simp, fun i hi hne => by
        have : w.heap.size ≠ i := fun e => hne (by rw [e])
        simp [World.setRow, Array.getElem?_modify, this]⟩
      have HE1 := Lib.hid (HM.out.below.grown hgw HM.out.below.size (fun k hk => by injection hk with hk; omega))
      have HE2 := Lib.hid (hown.kept hgw (.inr (fun e => own_ne hown (by omega) e)))
      have HE3 : Hid ((wr.setRow w.heap.size cs).heap[w.heap.size]? = some (.cells cs Tr (0, 0))) := Lib.hid (by simp [World.setRow, Array.getElem?_modify, hgr])
      have HSC := Lib.hid hsc
      have HSO := Lib.hid (hZr.trans hsc.size.symm)
      clear hgw hown hsc hZr
      go_wp2_with (first
        | ((with_reducible refine wpList_load_row rfl 137 _ rfl (w.heap.size + 1) ?_ _ _ (0, 0) _ hgs Try.underlying137 rfl hsz ?_); rfl)
        | ((with_reducible refine wpList_store_row rfl 137 _ _ rfl w.heap.size cs ?_ ?_ _ _ hgr hsz HSO.out HSC.out.one ?_); rfl; rfl)
        | fail)
      (try simp only [Exit.inBlock, Exit.then])
      refine bodyPost_ret (v := .agg cs) (results_cell_row rfl _ _ w.heap.size Tr cs (0, 0) _ rfl HE3.out Try.underlying137 rfl hsz) rfl ?_
      exact ⟨cs, bl, wh, rfl, HI.out, HE1.out, v, HSC.out, HE2.out⟩
end Go.Proofs.Ytcbiaeeifclieaa
