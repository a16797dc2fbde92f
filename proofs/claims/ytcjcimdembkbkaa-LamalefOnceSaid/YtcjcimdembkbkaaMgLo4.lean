/- Texts of one claim, one behind the other. -/
import Derived.Maps.OwnOps
import Derived.Great.FillDense
import Derived.Great.BuildSlice
import Derived.Great.Walk
import Derived.KernelRfl
import Derived.BigRegion
import Derived.Test.YtcjcimdembkbkaaMgLo1
import Derived.Test.YtcjcimdembkbkaaMgLo2
import Derived.Test.YtcjcimdembkbkaaMgLo3
/- The project's newStages: the unlike blocks, and which of them each block is. -/
namespace Go.Proofs.Ytcjcimdembkbkaa
open Go.RowKit
def StPost (w0 : World) (l0 : List Rg) (z : Int) (e : Ending) (w' : World) : Prop :=
  ∃ cs bl wh, e = .returned (.agg cs) ∧ StInv l0 z 8704 bl wh ∧ Below w0.heap.size w0 w' ∧ ∃ v, StCells cs z wh v ∧ w'.ownsRow (w0.heap.size + 3) 94 128 v bl.length (cellsK bl)
set_option maxRecDepth 100000 in
set_option maxHeartbeats 4000000 in
theorem prStages_any (A : Option Addr) (n c : Nat) (z : Int) (l : List Rg) (w : World) (hr : Rd w 3 A n (cellsG l)) (hn : n ≤ maxLen) (hnc : n ≤ c) (hrise : riseB (-1) l = true) (hfz : FitI z) (hfl : ∀ s ∈ l, FitI s.2.2) :
    Calls Try.prog 69 #[.slice A n c, .int .i64 z] w (StPost w l z) := by
  obtain ⟨Zb, hZb, hzb⟩ := blkZero
  obtain ⟨Z, h1, h2, h3, h4⟩ := stZero
  have hz := (zero_of_info h4).1
  obtain ⟨C, hCe⟩ : ∃ C, Z.setIfInBounds 8705 (.int .i64 z) = C := ⟨_, rfl⟩
  have hC : StCells C z [] (.slice none 0 0) := by
    rw [← hCe]
    refine ⟨by simp [h1], by rw [Array.getElem?_setIfInBounds_ne (by omega)]; exact h2, by rw [Array.getElem?_setIfInBounds_self_of_lt (by omega)], fun j q hj => by simp at hj, all_set ?_ rfl⟩
    rw [← Array.all_toList]
    exact h3
  have hst : (storeCells ⟨w.heap.size + 1, 0, none⟩ (Z.toList.set 8705 (.int .i64 z)) 0).run Try.prog ((w.alloc (.cells Z 87)).alloc (.cells Z 87)) = .ok () ((w.alloc (.cells Z 87)).alloc (.cells C 87)) := by
    have hsz : (w.alloc (.cells Z 87)).heap.size = w.heap.size + 1 := by simp
    have := run_storeCells_new (P := Try.prog) (w.alloc (.cells Z 87)) 87 Z C (by rw [hC.size]; kernel_rfl) (by rw [h1, hC.size]) hC.one
    rw [hsz] at this
    rw [show Z.toList.set 8705 (.int .i64 z) = C.toList by rw [← hCe]; simp]
    exact this
  have HS : Hid (StAt w l z n (.slice A n c) (.int .i64 0) (((w.alloc (.cells Z 87)).alloc (.cells C 87)).alloc (.map #[] 0))) := by
    have e2 : ((w.alloc (.cells Z 87)).alloc (.cells C 87)).heap.size = w.heap.size + 2 := by simp
    have e1 : (w.alloc (.cells Z 87)).heap.size = w.heap.size + 1 := by simp
    refine Lib.hid ⟨0, n, c, A, l, [], [], rfl, by omega, rfl, Nat.le_refl _, hnc, hr, ⟨(srt_of_rise hrise).1, fun _ _ => rfl⟩, StInv.start l z, ⟨⟨Z, h1, ⟨87, ?_⟩⟩, ⟨C, _, ⟨87, ?_⟩, hC, ⟨by simp [cellsK], .inl ⟨rfl, rfl⟩⟩⟩, ⟨_, ?_, MapIs.start⟩, ?_⟩⟩
    · rw [heap_alloc_old (h := by simp; omega), heap_alloc_old (h := by simp)]; exact heap_alloc_new w _
    · rw [heap_alloc_old (h := by simp), ← e1]; exact heap_alloc_new _ _
    · rw [← e2]; exact World.ownsMap_made _ _ _ _
    · exact (((Below.refl _ _).alloc (Nat.le_refl _) _).alloc (by simp) _).alloc (by simp; omega) _
  have hmk : ∀ w, (Instr.makeMap 92 none).run Try.prog w = .ok (.map (some w.heap.size)) (w.alloc (.map #[] 0)) := fun _ => rfl
  have HCC := Lib.hid hC
  have HZ := Lib.hid hZb
  have HR := Lib.hid hrise
  have HFI := Lib.hid (fun j x hx => blkAt_fit l z hfz hfl j x hx)
  clear h2 h3 h4 hC hZb hCe hr hrise hfl
  unfold maxLen at hn
  go_enter Try.func69, Try.ntmps69
  go_wp2
  go_loopw [0, 14] (StAt w l z n) (fun _ i _ => 8704 - (intOf i).toNat)
  case atStart => exact HS.out
  case round =>
    clear hst
    obtain ⟨k, n1, c1, A1, l1, bl, wh, rfl, hk, rfl, hn1, hnc1, hr1, hleft, hinv, hmem⟩ := hrel
    have HL := Lib.hid hleft
    have HI := Lib.hid hinv
    have HM := Lib.hid hmem
    have HR1 := Lib.hid hr1
    have HB := Lib.hid hmem.below
    clear hleft hinv hmem hr1
    by_cases hlt : k < 8704
    · obtain ⟨t, ht⟩ : ∃ t, cutB (128 * (k : Int)) l1 (List.replicate 128 z) = t := ⟨_, rfl⟩
      have HT := Lib.hid ht
      clear ht
      go_wp2_with fail
      refine (prCut_any A1 n1 c1 (k * 128) z l1 t (by rw [← HT.out, Int.mul_comm]) w _ ?_ HR1.out (by unfold maxLen; omega) hnc1 (by omega) (by omega)).mono ?_
      · exact HB.out.alloc HB.out.size _
      rintro e w1 ⟨⟨A2, n2, c2, rfl, hn2, hnc2, hr2⟩, ht128, hb1⟩
      obtain ⟨b, rest⟩ := t
      simp only at hr2 ht128
      have hcut := left_cut HL.out
      rw [HT.out] at hcut
      simp only at hcut
      have HBE := Lib.hid hcut.1
      have HLE := Lib.hid hcut.2
      have HR2 := Lib.hid hr2
      have HBL := Lib.hid ht128
      have hga : wr.grownBy w1 none := grown_onT (World.grownBy_alloc wr _ none) (grown_of_below' none hb1)
      have hblk : w1.heap[wr.heap.size]? = some (.cells (intsA (List.replicate 128 0)) 94 (0, 0)) := by
        rw [hb1.block _ (by simp), ← HZ.out]; exact heap_alloc_new wr _
      have hb83 : w.heap.size + 3 ≤ wr.heap.size := by
        obtain ⟨D0, hD0, _⟩ := HM.out.map
        have := hD0.lt
        omega
      have hst := run_storeBlk hblk (by simp) ht128
      have HM2 := Lib.hid (HM.out.far (Nat.le_refl _) hga (intsA b))
      have HI8 : Hid (IntBlk (w1.setRow wr.heap.size (intsA b)) wr.heap.size b) := Lib.hid ⟨94, by
        simp only [World.setRow, Array.getElem?_modify, if_true, hblk]; rfl⟩
      have hs2 := (intsA_size b).trans ht128
      obtain ⟨w2, hw2⟩ : ∃ w2, w1.setRow wr.heap.size (intsA b) = w2 := ⟨_, rfl⟩
      rw [hw2] at hst HM2 HI8
      obtain ⟨b8, hb8⟩ : ∃ b8, wr.heap.size = b8 := ⟨_, rfl⟩
      simp only [hb8] at hst HI8 hb83 ⊢
      have H8 := Lib.hid hb8
      have HW2 := Lib.hid hw2
      clear hw2 hb8 hr2 ht128 hcut hga hblk hb1
      by_cases hk0 : 0 < k
      · obtain ⟨k', rfl⟩ : ∃ k', k = k' + 1 := ⟨k - 1, by omega⟩
        obtain ⟨cs, v, hcs, hsc, hown⟩ := HM2.out.st
        obtain ⟨q, hq1, hq2⟩ := HI.out.at_ k' (by omega)
        have hqn := (List.getElem?_eq_some_iff.1 hq2).1
        have hlens : ∀ x ∈ bl, x.length = 128 := fun x hx => by
          obtain ⟨j, _, rfl⟩ := HI.out.real x hx
          exact blkAt_len _ _ _
        have hfit : ∀ j, ∀ x ∈ blkAt l z j, FitI x := fun j x hx => HFI.out j x hx
        obtain ⟨kb, hkb⟩ := blkKey b HBL.out (by rw [HBE.out]; exact hfit _)
        obtain ⟨kd, hkd⟩ := blkKey (blkAt l z k') (blkAt_len _ _ _) (hfit _)
        obtain ⟨g, cap, rfl, hcap⟩ := own_some hown (by omega)
        have e1 := hcs.cell (hsc.which k' q hq1)
        have e2 := hcs.cell hsc.blocks
        have l1 := fun N => ((HI8.out.drewN N).load HBL.out)
        have l2 := fun N => (loadBlkAt (w := w2.drewN N) (a := ⟨g, q * 128, none⟩) (blkAt_len l z k') (fun j x hx => by
          have := own_blk hown hlens hq2 j x hx
          rw [addNew] at this
          rw [addOff]
          exact this))
        obtain ⟨u3, e3⟩ : ∃ u, w2.cell? ⟨w.heap.size + 1, k' + 1, none⟩ = some u := ⟨_, hcs.cell (Array.getElem?_eq_getElem (by rw [hsc.size]; omega))⟩
        have f3 := hcs.thaw (k' + 1)
        have HN : Hid (b = blkAt l z k' → ∀ nq, StAt w l z n (.slice A2 n2 c2) (.int .i64 ((k' : Int) + 1 + 1)) ((w2.drewN nq).setCell ⟨w.heap.size + 1, k' + 1, none⟩ (.int .u16 q))) := Lib.hid (fun hE nq => by
          have hm := (HM2.out.grown (w' := w2.drewN nq) ⟨rfl, rfl, rfl, Nat.le_refl _, fun _ _ _ => rfl⟩).lay (by rw [HI.out.len]; exact hlt) q
          rw [HI.out.len] at hm
          exact ⟨k' + 1 + 1, n2, c2, A2, rest, bl, wh ++ [q], by simp, by omega, rfl, by omega, hnc2, HR2.out, HLE.out, HI.out.old (by rw [hq2, ← hE, HBE.out]), hm⟩)
        have L1 := Lib.hid l1
        have L2 := Lib.hid l2
        have KB := Lib.hid hkb
        have KD := Lib.hid hkd
        clear l1 l2 hkb hkd hfit hlens hcs hsc hown hq1 hq2
        go_wp2
        refine wp_region_quiet_lit (by kernel_rfl) (by kernel_rfl) ?_
        go_big_quiet_step (fail)
        go_big_quiet_step (fail)
        go_big_quiet_step (fail)
        go_big_quiet_want
        refine quiet_loadT 94 _ (by rfl) ⟨b8, 0, none⟩ (.agg (intsA b)) (by rfl) (fun w' hw' => by obtain ⟨N, rfl⟩ := hw'; exact (L1.out N).1) ?_
        go_simp
        go_big_quiet_on
        go_big_quiet_step (fail)
        go_big_quiet_step (fail)
        go_big_quiet_step (fail)
        go_big_quiet_step (fail)
        go_big_quiet_step (fail)
        go_big_quiet_step (fail)
        go_big_quiet_step (fail)
        go_big_quiet_step (fail)
        go_big_quiet_want
        refine quiet_loadT 94 _ (by rfl) ⟨g, q * 128, none⟩ (.agg (intsA (blkAt l z k'))) (by rfl) (fun w' hw' => by obtain ⟨N, rfl⟩ := hw'; exact (L2.out N).1) ?_
        go_simp
        go_big_quiet_on
        go_big_quiet_want
        refine quiet_eqlT 94 _ _ _ (by rfl) (.agg (intsA b)) (.agg (intsA (blkAt l z k'))) (decide (b = blkAt l z k')) (by rfl) (by rfl) (fun w' => by simp [go_sem, Try.eqGuardType94]) (fun w' => (eqlBlk KB.out KD.out w').1) ?_
        go_simp
        go_big_quiet_on
        by_cases hbe : b = blkAt l z k'
        · have HE := Lib.hid hbe
          rw [decide_eq_true hbe]
          clear hbe
          go_big_quiet_step (fail)
          refine wpQuiet_nil ?_
          intro _ hw'
          obtain ⟨nq, hw''⟩ := hw'
          subst hw''
          go_wp2
          go_roundw
          case rel => exact HN.out HE.out nq
          case measure => simp [intOf]; omega
        · rw [decide_eq_false hbe]
          clear hbe
          go_big_quiet_step (fail)
          refine wpQuiet_nil ?_
          intro _ hw'
          obtain ⟨nq, hw''⟩ := hw'
          subst hw''
          obtain ⟨T8, hg8⟩ := (HI8.out.drewN nq).cells
          have hsz := blkSize HBL.out
          obtain ⟨D, hmap, hMD⟩ := (HM2.out.drewN nq).map
          have HMD := Lib.hid hMD
          clear hMD
          have hzu : (zeroValue 83).run Try.prog (w2.drewN nq) = .ok (.int .u16 0) (w2.drewN nq) := by simp [go_sem]
          obtain ⟨csk, Av, cv, hcsk, hsck, hownk⟩ := (HM2.out.drewN nq).reads
          have e2k : w2.cell? ⟨w.heap.size + 1, 8704, none⟩ = some (.slice Av bl.length cv) := hcsk.cell hsck.blocks
          obtain ⟨u3k, e3k⟩ : ∃ u, w2.cell? ⟨w.heap.size + 1, k' + 1, none⟩ = some u := ⟨_, hcsk.cell (Array.getElem?_eq_getElem (by rw [hsck.size]; omega))⟩
          have f3k : w2.frozen? ⟨w.heap.size + 1, k' + 1, none⟩ = false := hcsk.thaw (k' + 1)
          have HCK := Lib.hid hcsk
          have HSK := Lib.hid hsck
          have HOK := Lib.hid hownk
          have hfew := HI.out.few
          clear hcsk hsck hownk
          have hi3 : ∀ c1 : Int, D.atKey kb (DataW.lit (Lit.int IntKind.u16 0)) = DataW.lit (Lit.int IntKind.u16 c1) → ∀ qo : Nat, bl[qo]? = some b → c1 = (qo : Int) := fun c1 hat qo hqo => by
            have := hat.symm.trans ((HMD.out.2 b kb KB.out).2 qo hqo)
            simpa using this
          have HI3 := Lib.hid hi3
          clear hi3
          by_cases hin : b ∈ bl
          · have hhas : Maps.has D kb = true := ((HMD.out.2 b kb KB.out).1).2 hin
            obtain ⟨qo, hqo⟩ := List.getElem?_of_mem hin
            have HQO := Lib.hid hqo
            clear hqo hin
            go_wp2_with (first
              | ((with_reducible refine wpList_load_row rfl 94 _ rfl b8 ?_ _ _ (0, 0) _ hg8 Try.underlying94 rfl hsz ?_); rfl)
              | (at_lookup; refine wpList_lookup_own_ok_int _ rfl _ _ 92 rfl 94 83 .u16 blkKeyed Try.underlying92 Try.underlying83 hzu (w.heap.size + 2) bl.length D rfl hmap _ kb rfl KB.out ?_; intro cq hat hwc)
              | fail)
            exact ⟨stAt_old (k := (k' + 1)) HLE.out HI.out hlt (by omega) hnc2 HR2.out (HM2.out.drewN nq) (q := qo) (by rw [HQO.out, HBE.out]) (HI3.out cq hat qo HQO.out) (by simp), by simp [intOf]; omega⟩
          · have hhas : Maps.has D kb = false := by
              rw [Bool.eq_false_iff]
              exact fun h => hin (((HMD.out.2 b kb KB.out).1).1 h)
            have HIN := Lib.hid hin
            clear hin
            have hval : plainElem (H := Unit) Try.prog 83 (.int .u16 (bl.length : Nat)) = some (.lit (.int .u16 (bl.length : Nat)), []) := plainElem_int Try.underlying83 (by simp [Lit.wf, IntKind.min, IntKind.max, IntKind.signed, IntKind.bits]; omega)
            have HVAL := Lib.hid hval
            clear hval
            obtain ⟨_, ie, ze, hie, hze, hes, _, hzes⟩ := blkSlice
            have HES := Lib.hid hes
            clear hes hzes
            have hlk : bl.length ≤ 8704 := by omega
            go_wp2_with (first
              | ((with_reducible refine wpList_load_row rfl 94 _ rfl b8 ?_ _ _ (0, 0) _ hg8 Try.underlying94 rfl hsz ?_); rfl)
              | ((with_reducible refine wpList_load_row rfl 94 _ rfl b8 ?_ _ _ (0, 0) _ hg9 Try.underlying94 rfl hsz ?_); rfl)
              | (at_lookup; refine wpList_lookup_own_ok_int _ rfl _ _ 92 rfl 94 83 .u16 blkKeyed Try.underlying92 Try.underlying83 hzu (w.heap.size + 2) bl.length D rfl hmap _ kb rfl KB.out ?_; intro cq hat hwc)
              | (at_mapUpdate; refine wpList_mapUpdate_own _ rfl _ _ _ 92 rfl 94 83 blkKeyed Try.underlying92 _ (w.heap.size + 2) bl.length D rfl hmap (by unfold maxLen; omega) _ _ kb rfl rfl KB.out (.lit (.int .u16 (bl.length : Nat))) [] HVAL.out ?_; intro w3 hmap3 hg3; have hck3 := HCK.out.grown (w' := w3) (row := some (w.heap.size + 2)) hg3 (by simp); have e23 := hck3.cell HSK.out.blocks; have HI83 := Lib.hid ((HI8.out.drewN nq).grown (w' := w3) (row := some (w.heap.size + 2)) hg3 (by simp; omega)); obtain ⟨T9, hg9⟩ := HI83.out.cells; have HOK3 := Lib.hid (HOK.out.kept (w' := w3) (row := some (w.heap.size + 2)) hg3 (.inr (fun e => own_ne HOK.out (by omega) e))); have HCK3 := Lib.hid hck3; have HM3 := Lib.hid hmap3; have HG3 := Lib.hid hg3; clear hck3 hmap3 hg3 hg8)
              | ((with_reducible refine wpList_buildSlice rfl 85 94 1 #[(0, .tmp 65)] rfl (intsA b) ie ze Try.underlying85 hie hze ?_ ?_ ?_ ?_); (rw [HES.out]; decide); (rw [HES.out]; decide); (rw [HES.out, Array.toList_map]; refine blkFill b HBL.out _ ?_; simp); (have HOK4 := Lib.hid (HOK3.out.alloc (.cells (intsA b) 94))); (have HNEW := Lib.hid (rd_blk (w := w3.alloc (.cells (intsA b) 94)) (m := 1) (cs := b.map (Value.int .i64)) (t := 94) 128 (heap_alloc_new w3 _) (by simp [HBL.out]))))
              | (at_builtin; refine wpList_appR rfl _ _ 85 rfl blkSlice (by decide) (.slice Av bl.length cv) bl.length (cellsK bl) rfl HOK4.out (some ⟨w3.heap.size, 0, none⟩) 1 1 (b.map (Value.int .i64)) rfl HNEW.out (oneInts _ _) (by omega) (by unfold maxLen; omega) (by have := HCK3.out.lt; have := HM3.out.lt; simp; omega) ?_; intro v' w5 h5 g5 hat5; obtain ⟨g9, c9, rfl, hc9⟩ := own_some h5 (by omega); have hck5 := (HCK3.out.grown (w' := w3.alloc (.cells (intsA b) 94)) (row := none) (World.grownBy_alloc w3 _ none) (by simp)).grown (w' := w5) g5 (own_ne HOK4.out (by omega)); have e5 := hck5.cell HSK.out.blocks; have f5 := hck5.thaw 8704; have f6 := hck5.thaw (k' + 1); obtain ⟨u6, e6⟩ : ∃ u, w5.cell? ⟨w.heap.size + 1, k' + 1, none⟩ = some u := ⟨_, hck5.cell (Array.getElem?_eq_getElem (by rw [HSK.out.size]; omega))⟩; have H5 := Lib.hid h5; have G5 := Lib.hid g5; clear hck5 h5 g5 hat5)
              | fail)
            exact ⟨stAt_new (k := (k' + 1)) HLE.out HI.out hlt (by omega) hnc2 HR2.out (HM2.out.drewN nq) HBE.out HIN.out HMD.out KB.out HM3.out HG3.out (World.grownBy_alloc w3 _ none) HOK4.out H5.out G5.out rfl (by simp), by simp [intOf]; omega⟩
      · have hk1 : ¬ (0 < (k : Int)) := by omega
        obtain ⟨kb, hkb⟩ := blkKey b HBL.out (by rw [HBE.out]; exact fun x hx => HFI.out k x hx)
        have KB := Lib.hid hkb
        clear hkb
        go_wp2
        go_quiet (fail)
        obtain ⟨T8, hg8⟩ := (HI8.out.drewN nq).cells
        have hsz := blkSize HBL.out
        obtain ⟨D, hmap, hMD⟩ := (HM2.out.drewN nq).map
        have HMD := Lib.hid hMD
        clear hMD
        have hzu : (zeroValue 83).run Try.prog (w2.drewN nq) = .ok (.int .u16 0) (w2.drewN nq) := by simp [go_sem]
        obtain ⟨csk, Av, cv, hcsk, hsck, hownk⟩ := (HM2.out.drewN nq).reads
        have e2k : w2.cell? ⟨w.heap.size + 1, 8704, none⟩ = some (.slice Av bl.length cv) := hcsk.cell hsck.blocks
        obtain ⟨u3k, e3k⟩ : ∃ u, w2.cell? ⟨w.heap.size + 1, k, none⟩ = some u := ⟨_, hcsk.cell (Array.getElem?_eq_getElem (by rw [hsck.size]; omega))⟩
        have f3k : w2.frozen? ⟨w.heap.size + 1, k, none⟩ = false := hcsk.thaw (k)
        have HCK := Lib.hid hcsk
        have HSK := Lib.hid hsck
        have HOK := Lib.hid hownk
        have hfew := HI.out.few
        clear hcsk hsck hownk
        have hi3 : ∀ c1 : Int, D.atKey kb (DataW.lit (Lit.int IntKind.u16 0)) = DataW.lit (Lit.int IntKind.u16 c1) → ∀ qo : Nat, bl[qo]? = some b → c1 = (qo : Int) := fun c1 hat qo hqo => by
          have := hat.symm.trans ((HMD.out.2 b kb KB.out).2 qo hqo)
          simpa using this
        have HI3 := Lib.hid hi3
        clear hi3
        by_cases hin : b ∈ bl
        · have hhas : Maps.has D kb = true := ((HMD.out.2 b kb KB.out).1).2 hin
          obtain ⟨qo, hqo⟩ := List.getElem?_of_mem hin
          have HQO := Lib.hid hqo
          clear hqo hin
          go_wp2_with (first
            | ((with_reducible refine wpList_load_row rfl 94 _ rfl b8 ?_ _ _ (0, 0) _ hg8 Try.underlying94 rfl hsz ?_); rfl)
            | (at_lookup; refine wpList_lookup_own_ok_int _ rfl _ _ 92 rfl 94 83 .u16 blkKeyed Try.underlying92 Try.underlying83 hzu (w.heap.size + 2) bl.length D rfl hmap _ kb rfl KB.out ?_; intro cq hat hwc)
            | fail)
          exact ⟨stAt_old (k := k) HLE.out HI.out hlt (by omega) hnc2 HR2.out (HM2.out.drewN nq) (q := qo) (by rw [HQO.out, HBE.out]) (HI3.out cq hat qo HQO.out) (by simp), by simp [intOf]; omega⟩
        · have hhas : Maps.has D kb = false := by
            rw [Bool.eq_false_iff]
            exact fun h => hin (((HMD.out.2 b kb KB.out).1).1 h)
          have HIN := Lib.hid hin
          clear hin
          have hval : plainElem (H := Unit) Try.prog 83 (.int .u16 (bl.length : Nat)) = some (.lit (.int .u16 (bl.length : Nat)), []) := plainElem_int Try.underlying83 (by simp [Lit.wf, IntKind.min, IntKind.max, IntKind.signed, IntKind.bits]; omega)
          have HVAL := Lib.hid hval
          clear hval
          obtain ⟨_, ie, ze, hie, hze, hes, _, hzes⟩ := blkSlice
          have HES := Lib.hid hes
          clear hes hzes
          have hlk : bl.length ≤ 8704 := by omega
          go_wp2_with (first
            | ((with_reducible refine wpList_load_row rfl 94 _ rfl b8 ?_ _ _ (0, 0) _ hg8 Try.underlying94 rfl hsz ?_); rfl)
            | ((with_reducible refine wpList_load_row rfl 94 _ rfl b8 ?_ _ _ (0, 0) _ hg9 Try.underlying94 rfl hsz ?_); rfl)
            | (at_lookup; refine wpList_lookup_own_ok_int _ rfl _ _ 92 rfl 94 83 .u16 blkKeyed Try.underlying92 Try.underlying83 hzu (w.heap.size + 2) bl.length D rfl hmap _ kb rfl KB.out ?_; intro cq hat hwc)
            | (at_mapUpdate; refine wpList_mapUpdate_own _ rfl _ _ _ 92 rfl 94 83 blkKeyed Try.underlying92 _ (w.heap.size + 2) bl.length D rfl hmap (by unfold maxLen; omega) _ _ kb rfl rfl KB.out (.lit (.int .u16 (bl.length : Nat))) [] HVAL.out ?_; intro w3 hmap3 hg3; have hck3 := HCK.out.grown (w' := w3) (row := some (w.heap.size + 2)) hg3 (by simp); have e23 := hck3.cell HSK.out.blocks; have HI83 := Lib.hid ((HI8.out.drewN nq).grown (w' := w3) (row := some (w.heap.size + 2)) hg3 (by simp; omega)); obtain ⟨T9, hg9⟩ := HI83.out.cells; have HOK3 := Lib.hid (HOK.out.kept (w' := w3) (row := some (w.heap.size + 2)) hg3 (.inr (fun e => own_ne HOK.out (by omega) e))); have HCK3 := Lib.hid hck3; have HM3 := Lib.hid hmap3; have HG3 := Lib.hid hg3; clear hck3 hmap3 hg3 hg8)
            | ((with_reducible refine wpList_buildSlice rfl 85 94 1 #[(0, .tmp 65)] rfl (intsA b) ie ze Try.underlying85 hie hze ?_ ?_ ?_ ?_); (rw [HES.out]; decide); (rw [HES.out]; decide); (rw [HES.out, Array.toList_map]; refine blkFill b HBL.out _ ?_; simp); (have HOK4 := Lib.hid (HOK3.out.alloc (.cells (intsA b) 94))); (have HNEW := Lib.hid (rd_blk (w := w3.alloc (.cells (intsA b) 94)) (m := 1) (cs := b.map (Value.int .i64)) (t := 94) 128 (heap_alloc_new w3 _) (by simp [HBL.out]))))
            | (at_builtin; refine wpList_appR rfl _ _ 85 rfl blkSlice (by decide) (.slice Av bl.length cv) bl.length (cellsK bl) rfl HOK4.out (some ⟨w3.heap.size, 0, none⟩) 1 1 (b.map (Value.int .i64)) rfl HNEW.out (oneInts _ _) (by omega) (by unfold maxLen; omega) (by have := HCK3.out.lt; have := HM3.out.lt; simp; omega) ?_; intro v' w5 h5 g5 hat5; obtain ⟨g9, c9, rfl, hc9⟩ := own_some h5 (by omega); have hck5 := (HCK3.out.grown (w' := w3.alloc (.cells (intsA b) 94)) (row := none) (World.grownBy_alloc w3 _ none) (by simp)).grown (w' := w5) g5 (own_ne HOK4.out (by omega)); have e5 := hck5.cell HSK.out.blocks; have f5 := hck5.thaw 8704; have f6 := hck5.thaw (k); obtain ⟨u6, e6⟩ : ∃ u, w5.cell? ⟨w.heap.size + 1, k, none⟩ = some u := ⟨_, hck5.cell (Array.getElem?_eq_getElem (by rw [HSK.out.size]; omega))⟩; have H5 := Lib.hid h5; have G5 := Lib.hid g5; clear hck5 h5 g5 hat5)
            | fail)
          exact ⟨stAt_new (k := k) HLE.out HI.out hlt (by omega) hnc2 HR2.out (HM2.out.drewN nq) HBE.out HIN.out HMD.out KB.out HM3.out HG3.out (World.grownBy_alloc w3 _ none) HOK4.out H5.out G5.out rfl (by simp), by simp [intOf]; omega⟩
    · obtain rfl : k = 8704 := by omega
      obtain ⟨Zr, hZr, Tr, hgr⟩ := HM.out.res
      obtain ⟨cs, v, ⟨Ts, hgs⟩, hsc, hown⟩ := HM.out.st
      have hsz : (Try.prog.info? 87).map (·.size) = some cs.size := by rw [hsc.size]; kernel_rfl
      have hgw : wr.grownBy (wr.setRow w.heap.size cs) (some w.heap.size) := ⟨rfl, rfl, rfl, by simp, fun i hi hne => by
        have : w.heap.size ≠ i := fun e => hne (by rw [e])
        simp [World.setRow, Array.getElem?_modify, this]⟩
      have HE1 := Lib.hid (HM.out.below.grown hgw HM.out.below.size (fun k hk => by injection hk with hk; omega))
      have HE2 := Lib.hid (hown.kept hgw (.inr (fun e => own_ne hown (by omega) e)))
      have HE3 : Hid ((wr.setRow w.heap.size cs).heap[w.heap.size]? = some (.cells cs Tr (0, 0))) := Lib.hid (by simp [World.setRow, Array.getElem?_modify, hgr])
      have HSC := Lib.hid hsc
      have HSO := Lib.hid (hZr.trans hsc.size.symm)
      clear hgw hown hsc hZr
      go_wp2_with (first
        | ((with_reducible refine wpList_load_row rfl 87 _ rfl (w.heap.size + 1) ?_ _ _ (0, 0) _ hgs Try.underlying87 rfl hsz ?_); rfl)
        | ((with_reducible refine wpList_store_row rfl 87 _ _ rfl w.heap.size cs ?_ ?_ _ _ hgr hsz HSO.out HSC.out.one ?_); rfl; rfl)
        | fail)
      (try simp only [Exit.inBlock, Exit.then])
      refine bodyPost_ret (v := .agg cs) (results_cell_row rfl _ _ w.heap.size Tr cs (0, 0) _ rfl HE3.out Try.underlying87 rfl hsz) rfl ?_
      exact ⟨cs, bl, wh, rfl, HI.out, HE1.out, v, HSC.out, HE2.out⟩
end Go.Proofs.Ytcjcimdembkbkaa
/- A table in memory: Build, made, value, Get. -/
namespace Go.Proofs.Ytcjcimdembkbkaa
open Go.RowKit

/-- Block b is a table of the ranges l, with z for all else; it keeps nb blocks. -/
def TabAt (w : World) (b : Nat) (l : List Rg) (z : Int) (nb : Nat) : Prop := ∃ (cs : Array Value) (bl : List (List Int)) (wh : List Nat) (g cap : Nat),
  CellBlk w b cs ∧ cs.size = 8706 ∧ cs[8704]? = some (.slice (some ⟨g, 0, none⟩) bl.length cap) ∧ cs[8705]? = some (.int .i64 z) ∧ (∀ j q : Nat, wh[j]? = some q → cs[j]? = some (.int .u16 q)) ∧ StInv l z 8704 bl wh ∧
  Rd w 128 (some ⟨g, 0, none⟩) bl.length (cellsK bl) ∧ bl.length ≤ cap ∧ nb = bl.length
theorem TabAt.below {w w' : World} {b nb : Nat} {l : List Rg} {z : Int} (h : TabAt w b l z nb) (hb : Below w.heap.size w w') : TabAt w' b l z nb := by
  obtain ⟨cs, bl, wh, g, cap, h1, h2, h3, h4, h5, h6, h7, h8, h9⟩ := h
  exact ⟨cs, bl, wh, g, cap, h1.below hb, h2, h3, h4, h5, h6, h7.below hb, h8, h9⟩
theorem StInv.some_ {l : List Rg} {z : Int} {bl : List (List Int)} {wh : List Nat} (h : StInv l z 8704 bl wh) : 0 < bl.length := by
  obtain ⟨q, _, hq⟩ := h.at_ 0 (by omega)
  have := (List.getElem?_eq_some_iff.1 hq).1
  omega
def BuildPost (w : World) (l : List Rg) (z : Int) (e : Ending) (w' : World) : Prop :=
  ((errG l = 0 ∧ ∃ b nb, e = .returned (.tuple #[.pointer (some ⟨b, 0, none⟩), .int .i64 0]) ∧ TabAt w' b l z nb) ∨ (errG l ≠ 0 ∧ e = .returned (.tuple #[.pointer none, .int .i64 (errG l)]))) ∧ Below w.heap.size w w'
set_option maxRecDepth 100000 in
set_option maxHeartbeats 1000000 in
theorem prBuild_any (A : Option Addr) (n c : Nat) (z : Int) (l : List Rg) (w : World) (hr : Rd w 3 A n (cellsG l)) (hn : n ≤ maxLen) (hnc : n ≤ c) (hfz : FitI z) (hfl : ∀ s ∈ l, FitI s.2.2) :
    Calls Try.prog 63 #[.slice A n c, .int .i64 z] w (BuildPost w l z) := by
  have HL := Lib.hid hr.lenG
  have HR := Lib.hid hr
  have HN := Lib.hid hn
  have HFL := Lib.hid hfl
  clear hr hfl
  unfold maxLen at hn
  by_cases hbig : 4096 < n
  · have HF := Lib.hid (show errG l = 6 by unfold errG; rw [HL.out]; exact if_pos hbig)
    go_enter Try.func63, Try.ntmps63
    go_wp2
    go_ret2
    exact ⟨.inr ⟨by rw [HF.out]; decide, by rw [HF.out]; rfl⟩, Below.refl _ _⟩
  · have HE := Lib.hid (show errG l = if riseB (-1) l = true then 0 else 10 by unfold errG; rw [HL.out]; exact if_neg hbig)
    have hsm : n ≤ 4096 := by omega
    clear hbig
    go_enter Try.func63, Try.ntmps63
    go_wp2_with fail
    refine (prRise_any A n c l w HR.out HN.out).mono ?_
    rintro e w1 ⟨rfl, hb1⟩
    cases hrise : riseB (-1) l with
    | false =>
      have HF := Lib.hid (show errG l = 10 by rw [HE.out, hrise]; rfl)
      clear hrise
      go_wp2
      go_ret2
      exact ⟨.inr ⟨by rw [HF.out]; decide, by rw [HF.out]; rfl⟩, hb1⟩
    | true =>
      have HF := Lib.hid (show errG l = 0 by rw [HE.out, hrise]; rfl)
      have HRI := Lib.hid hrise
      clear hrise
      go_wp2_with fail
      refine (prStages_any A n c z l w1 (HR.out.below hb1) HN.out hnc HRI.out hfz HFL.out).mono ?_
      rintro e w2 ⟨cs, bl, wh, rfl, hinv, hb2, v, hsc, hown⟩
      obtain ⟨g, cap, rfl, hcap⟩ := own_some hown hinv.some_
      have HBT := Lib.hid (tabBuilt cs hsc.size)
      have hb3 := below_self hb1 hb2
      have hb4 := hb3.alloc hb3.size (.cells cs 90)
      have HT : Hid (TabAt (w2.alloc (.cells cs 90)) w2.heap.size l z bl.length) := Lib.hid ⟨cs, bl, wh, g, cap, ⟨_, heap_alloc_new w2 _⟩, hsc.size, hsc.blocks, hsc.none_, hsc.which, hinv, (Rd.of_own hown).alloc _, hcap, rfl⟩
      clear hinv hb2 hsc hown hb3
      go_wp2_with (first
        | ((with_reducible refine wpList_buildTo rfl 90 #[(0, .tmp 16)] rfl (some 17) rfl cs ?_ ?_); (rw [Array.toList_map]; exact HBT.out))
        | fail)
      go_ret2
      exact ⟨.inl ⟨HF.out, _, _, rfl, HT.out⟩, hb4⟩

set_option maxRecDepth 100000 in
theorem prMade_any (b nb : Nat) (l : List Rg) (z : Int) (w : World) (hT : TabAt w b l z nb) :
    Calls Try.prog 72 #[.pointer (some ⟨b, 0, none⟩)] w fun e w' => e = .returned (.bool true) ∧ w = w' := by
  obtain ⟨cs, bl, wh, g, cap, h1, h2, h3, h4, h5, h6, h7, h8, h9⟩ := hT
  have e1 := h1.cell h3
  have hp := h6.some_
  clear h1 h2 h3 h4 h5 h6 h7 h9
  go_enter Try.func72, Try.ntmps72
  go_wp2
  go_ret
  exact ⟨rfl, rfl⟩
theorem prMade_nil (w : World) : Calls Try.prog 72 #[.pointer none] w fun e w' => e = .returned (.bool false) ∧ w = w' := by
  go_enter Try.func72, Try.ntmps72
  go_wp2
  go_ret
  exact ⟨rfl, rfl⟩
theorem prMade_zero (b : Nat) (w : World) (h : w.cell? ⟨b, 8704, none⟩ = some (.slice none 0 0)) : Calls Try.prog 72 #[.pointer (some ⟨b, 0, none⟩)] w fun e w' => e = .returned (.bool false) ∧ w = w' := by
  go_enter Try.func72, Try.ntmps72
  go_wp2
  go_ret
  exact ⟨rfl, rfl⟩
/-- Where a code's value stands. -/
theorem TabAt.place {w : World} {b nb : Nat} {l : List Rg} {z c : Int} (h : TabAt w b l z nb) (h0 : 0 ≤ c) (h1 : c ≤ 1114111) : ∃ (j t q g cap n : Nat), c.tdiv 128 = (j : Int) ∧ c.tmod 128 = (t : Int) ∧ j < 8704 ∧ t < 128 ∧ q < n ∧ n ≤ cap ∧
    w.cell? ⟨b, 8704, none⟩ = some (.slice (some ⟨g, 0, none⟩) n cap) ∧ w.cell? ⟨b, j, none⟩ = some (.int .u16 q) ∧ w.cell? ⟨g, q * 128 + t, none⟩ = some (.int .i64 (getG l z c)) := by
  obtain ⟨cs, bl, wh, g, cap, h1', h2, h3, h4, h5, h6, h7, h8, h9⟩ := h
  have hd : c.tdiv 128 = c / 128 := Int.tdiv_eq_ediv_of_nonneg h0
  have hm : c.tmod 128 = c % 128 := Int.tmod_eq_emod_of_nonneg h0
  obtain ⟨j, hj⟩ : ∃ j : Nat, c / 128 = j := ⟨(c / 128).toNat, by omega⟩
  obtain ⟨t, ht⟩ : ∃ t : Nat, c % 128 = t := ⟨(c % 128).toNat, by omega⟩
  obtain ⟨q, hq1, hq2⟩ := h6.at_ j (by omega)
  have hlens : ∀ x ∈ bl, x.length = 128 := fun x hx => by
    obtain ⟨j, _, rfl⟩ := h6.real x hx
    exact blkAt_len _ _ _
  refine ⟨j, t, q, g, cap, bl.length, hd.trans hj, hm.trans ht, by omega, by omega, (List.getElem?_eq_some_iff.1 hq2).1, h8, h1'.cell h3, h1'.cell (h5 j q hq1), ?_⟩
  obtain ⟨ad, e, _, hc⟩ := h7.2 h6.some_
  injection e with e
  subst e
  have := hc (q * 128 + t) (.int .i64 (getG l z c)) (by
    rw [cellsK_at hlens hq2 (by omega), blkAt_at _ _ _ _ (by omega)]
    simp only [Option.map_some]
    congr 3
    omega)
  rwa [addNew] at this
set_option maxRecDepth 100000 in
set_option maxHeartbeats 1000000 in
theorem prValue_any (b nb : Nat) (l : List Rg) (z c : Int) (w : World) (hT : TabAt w b l z nb) (h0 : 0 ≤ c) (h1 : c ≤ 1114111) :
    Calls Try.prog 73 #[.pointer (some ⟨b, 0, none⟩), .int .i64 c] w fun e w' => e = .returned (.int .i64 (getG l z c)) ∧ Below w.heap.size w w' := by
  obtain ⟨j, t, q, g, cap, n, hd, hm, hj, ht, hq, hn, e1, e2, e3⟩ := hT.place h0 h1
  obtain ⟨v, hv⟩ : ∃ v, getG l z c = v := ⟨_, rfl⟩
  rw [hv] at e3 ⊢
  clear hv hT
  go_enter Try.func73, Try.ntmps73
  go_wp2
  go_quiet (fail)
  go_wp2
  go_ret
  exact ⟨rfl, drewBelow _⟩
theorem getG_none {l : List Rg} {z c : Int} (hl : ∀ s ∈ l, -1 < s.1 ∧ s.2.1 ≤ 1114111) (h : c < 0 ∨ 1114111 < c) : getG l z c = z := by
  induction l with
  | nil => rfl
  | cons s l ih =>
    have := hl s (by simp)
    rw [getG, if_neg (by omega)]
    exact ih fun t ht => hl t (by simp [ht])
set_option maxRecDepth 100000 in
set_option maxHeartbeats 1000000 in
theorem prGet_any (b nb : Nat) (l : List Rg) (z c : Int) (w : World) (hT : TabAt w b l z nb) (hl : riseB (-1) l = true) :
    Calls Try.prog 70 #[.pointer (some ⟨b, 0, none⟩), .int .i64 c] w fun e w' => e = .returned (.int .i64 (getG l z c)) ∧ Below w.heap.size w w' := by
  have HT := Lib.hid hT
  have hz : w.cell? ⟨b, 8705, none⟩ = some (.int .i64 z) := by
    obtain ⟨cs, bl, wh, g, cap, h1, h2, h3, h4, _⟩ := hT
    exact h1.cell h4
  have HG := Lib.hid (fun h => getG_none (z := z) (c := c) (srt_of_rise hl).2 h)
  clear hT hl
  have hc : c < 0 ∨ (0 ≤ c ∧ 1114111 < c) ∨ (0 ≤ c ∧ c ≤ 1114111) := by omega
  go_enter Try.func70, Try.ntmps70
  go_wp2_with fail
  refine (prMade_any b nb l z w HT.out).mono ?_
  rintro e w1 ⟨rfl, rfl⟩
  rcases hc with h | ⟨h, h'⟩ | ⟨h, h'⟩
  · have HF := Lib.hid (HG.out (.inl h))
    go_wp2
    go_ret
    exact ⟨retI HF.out.symm, Below.refl _ _⟩
  · have HF := Lib.hid (HG.out (.inr h'))
    go_wp2
    go_ret
    exact ⟨retI HF.out.symm, Below.refl _ _⟩
  · go_wp2_with fail
    refine (prValue_any b nb l z c _ HT.out h h').mono ?_
    rintro e w2 ⟨rfl, hb⟩
    go_wp2
    go_ret
    exact ⟨rfl, hb⟩
end Go.Proofs.Ytcjcimdembkbkaa
/- Long slice literals of ranges (structs of three whole numbers), without a step for each element. -/
namespace Go.Proofs.Ytcjcimdembkbkaa
open Go.RowKit

/-- Whether each operation builds its range, into slots from i on. -/
def chkB (T : TypeId) : List Oper → Nat → List Rg → Bool
  | [], _, [] => true
  | o :: os, i, r :: l => (match o with
      | ⟨some d, .build t ⟨[(0, .const (.int .i64 a)), (1, .const (.int .i64 b)), (2, .const (.int .i64 v))]⟩, _, _, _, none⟩ => d == i && t == T && a == r.1 && b == r.2.1 && v == r.2.2
      | _ => false) && chkB T os (i + 1) l
  | _, _, _ => false
theorem chkB_cons {T : TypeId} {o : Oper} {os : List Oper} {i : Nat} {r : Rg} {l : List Rg} (h : chkB T (o :: os) i (r :: l) = true) :
    (o.dst = some i ∧ o.guard = none ∧ o.op = .build T #[(0, .const (.int .i64 r.1)), (1, .const (.int .i64 r.2.1)), (2, .const (.int .i64 r.2.2))]) ∧ chkB T os (i + 1) l = true := by
  unfold chkB at h
  rw [Bool.and_eq_true] at h
  refine ⟨?_, h.2⟩
  have h1 := h.1
  split at h1
  · simp only [Bool.and_eq_true, beq_iff_eq] at h1
    obtain ⟨⟨⟨⟨rfl, rfl⟩, rfl⟩, rfl⟩, rfl⟩ := h1
    exact ⟨rfl, rfl, rfl⟩
  · cases h1
def aggG (r : Rg) : Value := .agg (encG r).toArray
section
variable {P : Program} {ops : Array Oper} {Q : Exit → Act → World → Prop} {w : World} {T : TypeId}
theorem put_size (a : Act) (i : Nat) (v : Value) : (a.put (some i) v).tmps.size = a.tmps.size := by simp [Act.put]
theorem put_same (a : Act) (i : Nat) (v : Value) (h : i < a.tmps.size) : (a.put (some i) v).tmps[i]? = some v := by simp [Act.put, h]
theorem put_ne (a : Act) (i j : Nat) (v : Value) (h : j ≠ i) : (a.put (some i) v).tmps[j]? = a.tmps[j]? := by
  simp only [Act.put]
  rw [Array.getElem?_setIfInBounds_ne (by omega)]
theorem wpList_blds (hT : ∀ a b v : Int, P.built T [(0, .int .i64 a), (1, .int .i64 b), (2, .int .i64 v)] = some #[.int .i64 a, .int .i64 b, .int .i64 v]) :
    ∀ (os : List Oper) (l : List Rg) (s : Nat) (a : Act) (rest : List Oper), chkB T os s l = true → s + l.length ≤ a.tmps.size →
    (∀ a' : Act, a'.defers = a.defers → a'.tmps.size = a.tmps.size → (∀ (k : Nat) (r : Rg), l[k]? = some r → a'.tmps[s + k]? = some (aggG r)) → (∀ j, j < s → a'.tmps[j]? = a.tmps[j]?) → wpList P ops Q rest a' w) → wpList P ops Q (os ++ rest) a w
  | [], [], s, a, rest, _, _, h => h a rfl rfl (fun k r hk => by simp at hk) (fun _ _ => rfl)
  | [], _ :: _, _, _, _, hc, _, _ => by simp [chkB] at hc
  | _ :: _, [], _, _, _, hc, _, _ => by simp [chkB] at hc
  | o :: os, r :: l, s, a, rest, hc, hs, h => by
    obtain ⟨⟨hd, hg, ho⟩, hc'⟩ := chkB_cons hc
    simp only [List.length_cons] at hs
    refine wpList_buildTo hg T _ ho (some s) hd #[.int .i64 r.1, .int .i64 r.2.1, .int .i64 r.2.2] ?_ ?_
    · rw [Array.toList_map]
      exact hT r.1 r.2.1 r.2.2
    · refine wpList_blds hT os l (s + 1) _ rest hc' (by rw [put_size]; omega) fun a' hd' hs' hv hj => ?_
      refine h a' hd' (by rw [hs', put_size]) (fun k r' hk => ?_) (fun j hjs => ?_)
      · cases k with
        | zero =>
          simp at hk
          subst hk
          rw [Nat.add_zero, hj s (by omega), put_same _ _ _ (by omega)]
          rfl
        | succ k =>
          have := hv k r' (by simpa using hk)
          rwa [show s + (k + 1) = s + 1 + k by omega]
      · rw [hj j (by omega), put_ne _ _ _ _ (by omega)]
/-- The literal: N builds from slot 1 on, the slice into slot N + 1, that into slot 0. -/
theorem wpList_lit {S : TypeId} (hT : ∀ a b v : Int, P.built T [(0, .int .i64 a), (1, .int .i64 b), (2, .int .i64 v)] = some #[.int .i64 a, .int .i64 b, .int .i64 v])
    (hS : SliceOf P S T 3 24) (l : List Rg) (os : List Oper) (oB oA : Oper) (parts : Array (Nat × Operand)) (a : Act) (hc : chkB T os 1 l = true) (h0 : 0 < l.length) (hN : l.length ≤ 100000) (hsz : a.tmps.size = l.length + 2)
    (hgB : oB.guard = none) (hdB : oB.dst = some (l.length + 1)) (hoB : oB.op = .buildSlice S l.length parts) (hp : parts.toList = (List.range l.length).map fun k => (k, Operand.tmp (k + 1)))
    (hgA : oA.guard = none) (hdA : oA.dst = some 0) (hoA : oA.op = .assign (.tmp (l.length + 1)))
    (h : ∀ a' : Act, a'.defers = a.defers → a'.tmps[0]? = some (.slice (some ⟨w.heap.size, 0, none⟩) l.length l.length) → Q .normal a' (w.alloc (.cells (cellsG l).toArray T))) :
    wpList P ops Q (os ++ [oB, oA]) a w := by
  refine wpList_blds hT os l 1 a [oB, oA] hc (by omega) fun a1 hd1 hs1 hv1 _ => ?_
  obtain ⟨hu, ie, z, hie, hz, hes, _, hzs⟩ := hS
  have hvs : ∀ v ∈ l.map aggG, v.cells.size = 3 := by
    intro v hv
    simp only [List.mem_map] at hv
    obtain ⟨r, _, rfl⟩ := hv
    rfl
  obtain ⟨cs, hfill, hcs, hk⟩ := Great.fill_dense (s := 3) (by decide) (l.map aggG) 0 ((Array.range (l.length * 3)).map (z.cells[· % z.cells.size]!)) hvs (by simp)
  have hcells : cs = (cellsG l).toArray := by
    apply Array.ext_getElem?
    intro k
    rw [hk k]
    by_cases hkl : k < l.length * 3
    · rw [if_pos (by simp; omega)]
      obtain ⟨r, hr⟩ : ∃ r, l[k / 3]? = some r := ⟨_, List.getElem?_eq_getElem (by omega)⟩
      obtain ⟨e0, e1, e2⟩ := cellsG_at hr
      rw [Nat.sub_zero, List.getElem?_map, hr]
      simp only [Option.map_some, Option.bind_some, List.getElem?_toArray]
      have hm : k % 3 = 0 ∨ k % 3 = 1 ∨ k % 3 = 2 := by omega
      rcases hm with hm | hm | hm
      · rw [hm, show k = k / 3 * 3 by omega, e0]; simp [aggG, encG, Value.cells]
      · rw [hm]; rw [show (cellsG l)[k]? = (cellsG l)[k / 3 * 3 + 1]? by congr 1; omega, e1]; rfl
      · rw [hm]; rw [show (cellsG l)[k]? = (cellsG l)[k / 3 * 3 + 2]? by congr 1; omega, e2]; rfl
    · rw [if_neg (by simp; omega), Array.getElem?_eq_none (by simp; omega), List.getElem?_toArray, List.getElem?_eq_none (by rw [cellsG_len]; omega)]
  have hparts : (parts.map fun (i, x) => (i, a1.eval x)).toList = ((l.map aggG).zipIdx 0).map fun x => (x.2, x.1) := by
    rw [Array.toList_map, hp, List.map_map]
    apply List.ext_getElem?
    intro k
    simp only [List.getElem?_map, List.getElem?_zipIdx]
    by_cases hkl : k < l.length
    · obtain ⟨r, hr⟩ : ∃ r, l[k]? = some r := ⟨_, List.getElem?_eq_getElem hkl⟩
      have hv := hv1 k r hr
      rw [List.getElem?_range hkl, hr]
      simp only [Option.map_some, Function.comp, Nat.zero_add]
      have : a1.eval (.tmp (k + 1)) = aggG r := by
        simp only [Act.eval]
        rw [Array.getD_eq_getD_getElem?, show k + 1 = 1 + k by omega, hv]
        rfl
      rw [this]
    · rw [List.getElem?_eq_none (by simp; omega), List.getElem?_eq_none (l := l) (by omega)]
      rfl
  refine wpList_buildSlice hgB S T l.length parts hoB (cellsG l).toArray ie z hu hie hz (by rw [hes]; omega) (by rw [hes]; omega) ?_ ?_
  · rw [hes, hparts, hfill, hcells]
  · rw [hdB]
    refine Great.wpList_readTo hgA (some 0) hdA (.slice (some ⟨w.heap.size, 0, none⟩) l.length l.length) ?_ ?_
    · rw [BigFrame.run_assign _ hoA]
      congr 2
      simp only [Act.eval]
      rw [Array.getD_eq_getD_getElem?, put_same _ _ _ (by omega)]
      rfl
    · refine wpList_nil (h _ ?_ ?_)
      · exact hd1
      · rw [put_same _ _ _ (by rw [put_size]; omega)]
end
end Go.Proofs.Ytcjcimdembkbkaa
/- The given ranges: what BidiRanges and JoinRanges give. -/
namespace Go.Proofs.Ytcjcimdembkbkaa
open Go.RowKit

theorem rangeBuilt (a b v : Int) : Try.prog.built 81 [(0, .int .i64 a), (1, .int .i64 b), (2, .int .i64 v)] = some #[.int .i64 a, .int .i64 b, .int .i64 v] := by kernel_rfl
theorem rangeSlice : SliceOf Try.prog 69 81 3 24 := .mk_ (z := .agg #[.int .i64 0, .int .i64 0, .int .i64 0]) Try.underlying69 (by kernel_rfl) rfl
def chkP : List (Nat × Operand) → Nat → Nat → Bool
  | [], i, n => i == n
  | p :: r, i, n => (match p with
      | (k, .tmp t) => k == i && t == i + 1
      | _ => false) && chkP r (i + 1) n
theorem chkP_is : ∀ {ps : List (Nat × Operand)} {i n : Nat}, chkP ps i n = true → i + ps.length = n ∧ ps = (List.range' i ps.length).map fun k => (k, Operand.tmp (k + 1))
  | [], i, n, h => by
    simp [chkP] at h
    exact ⟨by simp [h], rfl⟩
  | p :: r, i, n, h => by
    unfold chkP at h
    rw [Bool.and_eq_true] at h
    obtain ⟨h1, h2⟩ := chkP_is h.2
    have hp : p = (i, .tmp (i + 1)) := by
      have h3 := h.1
      split at h3
      · simp only [Bool.and_eq_true, beq_iff_eq] at h3
        obtain ⟨rfl, rfl⟩ := h3
        rfl
      · cases h3
    refine ⟨by simp only [List.length_cons]; omega, ?_⟩
    rw [List.length_cons, List.range'_succ, List.map_cons, ← h2, hp]
/-- The last two operations: the slice of all, into slot 0. -/
def chkE (S : TypeId) (N : Nat) : List Oper → Bool
  | [oB, oA] => (match oB with
      | ⟨some d, .buildSlice t n parts, _, _, _, none⟩ => d == N + 1 && t == S && n == N && chkP parts.toList 0 N
      | _ => false) && (match oA with
      | ⟨some d, .assign (.tmp k), _, _, _, none⟩ => d == 0 && k == N + 1
      | _ => false)
  | _ => false
theorem chkE_is {S : TypeId} {N : Nat} {l : List Oper} (h : chkE S N l = true) : ∃ (oB oA : Oper) (parts : Array (Nat × Operand)), l = [oB, oA] ∧ oB.guard = none ∧ oB.dst = some (N + 1) ∧ oB.op = .buildSlice S N parts ∧ parts.toList = ((List.range N).map fun k => (k, Operand.tmp (k + 1))) ∧
    oA.guard = none ∧ oA.dst = some 0 ∧ oA.op = .assign (.tmp (N + 1)) := by
  unfold chkE at h
  split at h
  · rename_i oB oA
    rw [Bool.and_eq_true] at h
    obtain ⟨h1, h2⟩ := h
    split at h1
    · rename_i d t n parts _ _ _
      simp only [Bool.and_eq_true, beq_iff_eq] at h1
      obtain ⟨⟨⟨rfl, rfl⟩, rfl⟩, hp⟩ := h1
      split at h2
      · simp only [Bool.and_eq_true, beq_iff_eq] at h2
        obtain ⟨rfl, rfl⟩ := h2
        obtain ⟨p1, p2⟩ := chkP_is hp
        refine ⟨_, _, parts, rfl, rfl, rfl, rfl, ?_, rfl, rfl, rfl⟩
        rw [Nat.zero_add] at p1
        rw [p1] at p2
        rw [p2, List.range_eq_range']
      · cases h2
    · cases h1
  · cases h
theorem wpList_lit2 {ops : Array Oper} {Q : Exit → Act → World → Prop} {w : World} {T S : TypeId} {lst : List Oper} (N : Nat) (hT : ∀ a b v : Int, Try.prog.built T [(0, .int .i64 a), (1, .int .i64 b), (2, .int .i64 v)] = some #[.int .i64 a, .int .i64 b, .int .i64 v])
    (hS : SliceOf Try.prog S T 3 24) (l : List Rg) {a : Act} (he : chkE S N (lst.drop N) = true) (hc : chkB T (lst.take N) 1 l = true) (hl : l.length = N) (h0 : 0 < N) (hN : N ≤ 100000) (hsz : a.tmps.size = N + 2)
    (h : ∀ a' : Act, a'.defers = a.defers → a'.tmps[0]? = some (.slice (some ⟨w.heap.size, 0, none⟩) N N) → Q .normal a' (w.alloc (.cells (cellsG l).toArray T))) :
    wpList Try.prog ops Q lst a w := by
  subst hl
  obtain ⟨oB, oA, parts, hdrop, hgB, hdB, hoB, hp, hgA, hdA, hoA⟩ := chkE_is he
  rw [← List.take_append_drop l.length lst, hdrop]
  exact wpList_lit hT hS l _ oB oA parts a hc h0 hN hsz hgB hdB hoB hp hgA hdA hoA h

set_option maxRecDepth 1000000 in
set_option maxHeartbeats 4000000 in
theorem bidiRanges_any (w : World) : Calls Try.prog 64 #[] w fun e w' => e = .returned (.slice (some ⟨w.heap.size, 0, none⟩) 230 230) ∧ w' = w.alloc (.cells (cellsG bidiL).toArray 81) := by
  refine calls_of_wp Try.func64 rfl ?_
  apply wp_seq_k
  intro K hK
  apply wp_region_lit
  refine Great.wpList_readTo rfl (some 0) rfl (.slice none 0 0) (by rw [BigFrame.run_assign _ rfl]; rfl) ?_
  refine wpList_nil (hK _ _ ?_)
  apply wp_seq_k
  intro K2 hK2
  apply wp_region_lit
  refine wpList_lit2 230 rangeBuilt rangeSlice bidiL (by kernel_rfl) (by kernel_rfl) rfl (by decide) (by decide) (by simp [Act.put, Try.ntmps64]) ?_
  intro a' hd h0
  refine hK2 _ _ ?_
  apply wp_ret
  refine bodyPost_ret (results_tmp rfl _ _ _) hd ⟨?_, rfl⟩
  rw [Array.getD_eq_getD_getElem?, h0]
  rfl
set_option maxRecDepth 1000000 in
set_option maxHeartbeats 4000000 in
theorem joinRanges_any (w : World) : Calls Try.prog 60 #[] w fun e w' => e = .returned (.slice (some ⟨w.heap.size, 0, none⟩) 68 68) ∧ w' = w.alloc (.cells (cellsG joinL).toArray 81) := by
  refine calls_of_wp Try.func60 rfl ?_
  apply wp_seq_k
  intro K hK
  apply wp_region_lit
  refine Great.wpList_readTo rfl (some 0) rfl (.slice none 0 0) (by rw [BigFrame.run_assign _ rfl]; rfl) ?_
  refine wpList_nil (hK _ _ ?_)
  apply wp_seq_k
  intro K2 hK2
  apply wp_region_lit
  refine wpList_lit2 68 rangeBuilt rangeSlice joinL (by kernel_rfl) (by kernel_rfl) rfl (by decide) (by decide) (by simp [Act.put, Try.ntmps60]) ?_
  intro a' hd h0
  refine hK2 _ _ ?_
  apply wp_ret
  refine bodyPost_ret (results_tmp rfl _ _ _) hd ⟨?_, rfl⟩
  rw [Array.getD_eq_getD_getElem?, h0]
  rfl
end Go.Proofs.Ytcjcimdembkbkaa
/- What codes are, as data: class, joining, digit, mark, strong, control; a Props in memory. -/
namespace Go.Proofs.Ytcjcimdembkbkaa
open Go.RowKit

def digF (c : Int) : Int × Int := if 48 ≤ c ∧ c ≤ 57 then (c - 48, 1) else if 1632 ≤ c ∧ c ≤ 1641 then (c - 1632, 2) else if 1776 ≤ c ∧ c ≤ 1785 then (c - 1776, 3) else (0, 0)
def ofF (c : Int) (ks : List Int) : Bool := decide (classF c ∈ ks)
def ctlL : List Int := [9, 14, 15, 16, 17, 18, 19, 20, 21, 22]
def markF (c : Int) : Bool := ofF c [8]
def strongF (c : Int) : Bool := ofF c [0, 1, 2]
def ctlF (c : Int) : Bool := decide (c = 8206) || decide (c = 8207) || decide (c = 1564) || ofF c ctlL
theorem apart1 (c : Int) : (markF c && strongF c) = false := by
  unfold markF strongF ofF
  rw [Bool.eq_false_iff]
  intro h
  simp only [Bool.and_eq_true, decide_eq_true_eq, List.mem_cons, List.not_mem_nil, or_false] at h
  omega
def digL : List Int := [48, 49, 50, 51, 52, 53, 54, 55, 56, 57, 1632, 1633, 1634, 1635, 1636, 1637, 1638, 1639, 1640, 1641, 1776, 1777, 1778, 1779, 1780, 1781, 1782, 1783, 1784, 1785]
theorem digL_ctl : (digL.all fun c => !ctlF c) = true := by decide +kernel
theorem apart2 (c : Int) (h : 0 < (digF c).2) : ctlF c = false := by
  have hm : c ∈ digL := by
    unfold digF at h
    simp only [digL, List.mem_cons, List.not_mem_nil, or_false]
    split at h
    · omega
    · split at h
      · omega
      · split at h
        · omega
        · simp at h
  have := List.all_eq_true.1 digL_ctl c hm
  simpa using this
theorem bidi_rise : riseB (-1) bidiL = true := by decide +kernel
theorem join_rise : riseB (-1) joinL = true := by decide +kernel
theorem bidi_err : errG bidiL = 0 := by decide +kernel
theorem join_err : errG joinL = 0 := by decide +kernel
def fitB (x : Int) : Bool := decide (-9223372036854775808 ≤ x ∧ x ≤ 9223372036854775807)
theorem bidi_fit : ∀ s ∈ bidiL, FitI s.2.2 := fun s hs => by
  have h := List.all_eq_true.1 (show (bidiL.all fun s => fitB s.2.2) = true by decide +kernel) s hs
  unfold fitB at h
  unfold FitI
  exact of_decide_eq_true h
theorem join_fit : ∀ s ∈ joinL, FitI s.2.2 := fun s hs => by
  have h := List.all_eq_true.1 (show (joinL.all fun s => fitB s.2.2) = true by decide +kernel) s hs
  unfold fitB at h
  unfold FitI
  exact of_decide_eq_true h

theorem TabAt.far {w : World} {b nb b0 : Nat} {l : List Rg} {z : Int} (h : TabAt w b l z nb) {p : Option Addr} (hp : w.cell? ⟨b0, 0, none⟩ = some (.pointer p)) (j : Nat) (u : Value) : TabAt (w.setCell ⟨b0, j, none⟩ u) b l z nb := by
  obtain ⟨cs, bl, wh, g, cap, h1, h2, h3, h4, h5, h6, h7, h8, h9⟩ := h
  obtain ⟨q, hq1, hq2⟩ := h6.at_ 0 (by omega)
  have hb : b ≠ b0 := by
    rintro rfl
    have := (h1.cell (h5 0 q hq1)).symm.trans hp
    cases this
  have hlens : ∀ x ∈ bl, x.length = 128 := fun x hx => by
    obtain ⟨j, _, rfl⟩ := h6.real x hx
    exact blkAt_len _ _ _
  have hg : g ≠ b0 := by
    rintro rfl
    obtain ⟨ad, e, _, hc⟩ := h7.2 h6.some_
    injection e with e
    subst e
    obtain ⟨b', hb'⟩ : ∃ b', bl[0]? = some b' := ⟨_, List.getElem?_eq_getElem h6.some_⟩
    have hl := hlens b' (List.mem_of_getElem? hb')
    obtain ⟨x, hx⟩ : ∃ x, b'[0]? = some x := ⟨_, List.getElem?_eq_getElem (by omega)⟩
    have := hc 0 (.int .i64 x) (by have := cellsK_at hlens hb' (j := 0) (by omega); rw [hx] at this; exact this)
    rw [addNew] at this
    have := this.symm.trans hp
    cases this
  refine ⟨cs, bl, wh, g, cap, h1.far hb j u, h2, h3, h4, h5, h6, ⟨h7.1, fun hn => ?_⟩, h8, h9⟩
  obtain ⟨ad, e, hlt, hc⟩ := h7.2 hn
  injection e with e
  subst e
  refine ⟨_, rfl, by simpa [World.setCell] using hlt, fun k v hk => ?_⟩
  rw [World.cell?_setCell_other (h := by rw [addNew]; simp [hg])]
  exact hc k v hk
/-- Block b is a Props that New made. -/
def PropAt (w : World) (b : Nat) : Prop := ∃ b1 b2 n1 n2 : Nat, w.cell? ⟨b, 0, none⟩ = some (.pointer (some ⟨b1, 0, none⟩)) ∧ w.cell? ⟨b, 1, none⟩ = some (.pointer (some ⟨b2, 0, none⟩)) ∧ TabAt w b1 bidiL 0 n1 ∧ TabAt w b2 joinL 0 n2
theorem PropAt.below {w w' : World} {b : Nat} (h : PropAt w b) (hb : Below w.heap.size w w') : PropAt w' b := by
  obtain ⟨b1, b2, n1, n2, h1, h2, h3, h4⟩ := h
  exact ⟨b1, b2, n1, n2, cell_below hb h1, cell_below hb h2, h3.below hb, h4.below hb⟩
set_option maxRecDepth 100000 in
set_option maxHeartbeats 1000000 in
theorem prKnown_of (lB lJ : List Rg) (nB nJ : Nat) (cB : ∀ w : World, Calls Try.prog 64 #[] w fun e w' => e = .returned (.slice (some ⟨w.heap.size, 0, none⟩) nB nB) ∧ w' = w.alloc (.cells (cellsG lB).toArray 81))
    (cJ : ∀ w : World, Calls Try.prog 60 #[] w fun e w' => e = .returned (.slice (some ⟨w.heap.size, 0, none⟩) nJ nJ) ∧ w' = w.alloc (.cells (cellsG lJ).toArray 81)) (hnB : lB.length = nB) (hnJ : lJ.length = nJ) (hB4 : nB ≤ 4096) (hJ4 : nJ ≤ 4096) (eB : errG lB = 0) (eJ : errG lJ = 0) (fB : ∀ s ∈ lB, FitI s.2.2) (fJ : ∀ s ∈ lJ, FitI s.2.2) (w : World) : Calls Try.prog 54 #[] w fun e w' => ∃ b1 b2 n1 n2 : Nat, e = .returned (.agg #[.pointer (some ⟨b1, 0, none⟩), .pointer (some ⟨b2, 0, none⟩)]) ∧ TabAt w' b1 lB 0 n1 ∧ TabAt w' b2 lJ 0 n2 ∧ Below w.heap.size w w' := by
  have hf0 : FitI 0 := by unfold FitI; omega
  have HB := Lib.hid eB
  have HJ := Lib.hid eJ
  have CB := Lib.hid cB
  have CJ := Lib.hid cJ
  have FB := Lib.hid fB
  have FJ := Lib.hid fJ
  have NB := Lib.hid hnB
  have NJ := Lib.hid hnJ
  clear cB cJ fB fJ hnB hnJ eB eJ
  go_enter Try.func54, Try.ntmps54
  go_wp2_with fail
  have hb0 := below_new w (.cells #[.pointer none, .pointer none] 62)
  have d0 : (w.alloc (.cells #[.pointer none, .pointer none] 62)).cell? ⟨w.heap.size, 0, none⟩ = some (.pointer none) := by rw [World.cell?_alloc_at _ _ _ _ rfl]; rfl
  have d1 : (w.alloc (.cells #[.pointer none, .pointer none] 62)).cell? ⟨w.heap.size, 1, none⟩ = some (.pointer none) := by rw [World.cell?_alloc_at _ _ _ _ rfl]; rfl
  have hnf : ∀ i, (w.alloc (.cells #[.pointer none, .pointer none] 62)).frozen? ⟨w.heap.size, i, none⟩ = false := fun i => by simp [go_sem]
  obtain ⟨W0, hW0⟩ : ∃ W0, (w.alloc (.cells #[.pointer none, .pointer none] 62)) = W0 := ⟨_, rfl⟩
  rw [hW0] at hb0 d0 d1 hnf ⊢
  clear hW0
  refine (CB.out _).mono ?_
  rintro e w1 ⟨rfl, hw1⟩
  have hr1 := rd_blk (w := w1) (b := W0.heap.size) (t := 81) 3 (cs := cellsG lB) (m := nB) (by rw [hw1]; exact heap_alloc_new _ _) (by rw [cellsG_len, NB.out])
  have hb1 : Below W0.heap.size W0 w1 := by rw [hw1]; exact below_new _ _
  clear hw1
  go_wp2_with fail
  refine (prBuild_any (some ⟨W0.heap.size, 0, none⟩) nB nB 0 lB w1 hr1 (by unfold maxLen; omega) (Nat.le_refl _) hf0 FB.out).mono ?_
  rintro e w2 ⟨⟨_, b1, n1, rfl, hT1⟩ | ⟨h, _⟩, hb2⟩
  · have hbb := below_self hb1 hb2
    clear hr1 hb1 hb2
    go_wp2_with fail
    refine (CJ.out _).mono ?_
    rintro e w3 ⟨rfl, hw3⟩
    have hr3 := rd_blk (w := w3) (b := w2.heap.size) (t := 81) 3 (cs := cellsG lJ) (m := nJ) (by rw [hw3]; exact heap_alloc_new _ _) (by rw [cellsG_len, NJ.out])
    have hb3 : Below w2.heap.size w2 w3 := by rw [hw3]; exact below_new _ _
    clear hw3
    go_wp2_with fail
    refine (prBuild_any (some ⟨w2.heap.size, 0, none⟩) nJ nJ 0 lJ w3 hr3 (by unfold maxLen; omega) (Nat.le_refl _) hf0 FJ.out).mono ?_
    rintro e w4 ⟨⟨_, b2, n2, rfl, hT2⟩ | ⟨h, _⟩, hb4⟩
    · have hbc := below_self hbb (below_self hb3 hb4)
      have HT1 := Lib.hid (hT1.below (below_self hb3 hb4))
      have HT2 := Lib.hid hT2
      clear hbb hr3 hb3 hb4 hT1 hT2
      have c0 := cell_below hbc d0
      have c1 := cell_below hbc d1
      have f0 := (hbc.frozen (cell_lt d0)).trans (hnf 0)
      have f1 := (hbc.frozen (cell_lt d1)).trans (hnf 1)
      have hbw := below_self hb0 hbc
      have HBW := Lib.hid hbw
      have hlt : w.heap.size < w4.heap.size := cell_lt c0
      clear d0 d1 hnf hb0 hbc hbw
      go_wp2
      (try simp only [Exit.inBlock, Exit.then])
      have T1 := (HT1.out.far c0 0 (.pointer (some ⟨b1, 0, none⟩))).far (World.cell?_setCell_same (h := c0) ..) 1 (.pointer (some ⟨b2, 0, none⟩))
      have T2 := (HT2.out.far c0 0 (.pointer (some ⟨b1, 0, none⟩))).far (World.cell?_setCell_same (h := c0) ..) 1 (.pointer (some ⟨b2, 0, none⟩))
      have BB := below_set (below_set HBW.out (Nat.le_refl _) 0 (.pointer (some ⟨b1, 0, none⟩))) (Nat.le_refl _) 1 (.pointer (some ⟨b2, 0, none⟩))
      refine bodyPost_ret (v := .agg #[.pointer (some ⟨b1, 0, none⟩), .pointer (some ⟨b2, 0, none⟩)]) ?_ rfl ⟨b1, b2, n1, n2, rfl, T1, T2, BB⟩
      have e0 := World.cell?_setCell_same (w := w4) (a := ⟨w.heap.size, 0, none⟩) (v := .pointer (some ⟨b1, 0, none⟩)) (h := c0)
      have e1 := World.cell?_setCell_same (w := w4.setCell ⟨w.heap.size, 0, none⟩ (.pointer (some ⟨b1, 0, none⟩))) (a := ⟨w.heap.size, 1, none⟩) (v := .pointer (some ⟨b2, 0, none⟩)) (h := (World.cell?_setCell_other (h := by simp) ..).trans c1)
      simp [results, Try.results54, go_sem, e0, e1]
    · exact absurd HJ.out h
  · exact absurd HB.out h
set_option maxRecDepth 100000 in
theorem prNew_of (lB lJ : List Rg) (hk : ∀ w : World, Calls Try.prog 54 #[] w fun e w' => ∃ b1 b2 n1 n2 : Nat, e = .returned (.agg #[.pointer (some ⟨b1, 0, none⟩), .pointer (some ⟨b2, 0, none⟩)]) ∧ TabAt w' b1 lB 0 n1 ∧ TabAt w' b2 lJ 0 n2 ∧ Below w.heap.size w w') (w : World) :
    Calls Try.prog 36 #[] w fun e w' => (∃ b b1 b2 n1 n2 : Nat, e = .returned (.pointer (some ⟨b, 0, none⟩)) ∧ w'.cell? ⟨b, 0, none⟩ = some (.pointer (some ⟨b1, 0, none⟩)) ∧ w'.cell? ⟨b, 1, none⟩ = some (.pointer (some ⟨b2, 0, none⟩)) ∧ TabAt w' b1 lB 0 n1 ∧ TabAt w' b2 lJ 0 n2) ∧ Below w.heap.size w w' := by
  go_enter Try.func36, Try.ntmps36
  go_wp2_with fail
  refine (hk _).mono ?_
  rintro e w1 ⟨b1, b2, n1, n2, rfl, h1, h2, hb⟩
  have H1 := Lib.hid (h1.below (below_new w1 (.cells #[.pointer (some ⟨b1, 0, none⟩), .pointer (some ⟨b2, 0, none⟩)] 65)))
  have H2 := Lib.hid (h2.below (below_new w1 (.cells #[.pointer (some ⟨b1, 0, none⟩), .pointer (some ⟨b2, 0, none⟩)] 65)))
  have hb2 := hb.alloc hb.size (.cells #[.pointer (some ⟨b1, 0, none⟩), .pointer (some ⟨b2, 0, none⟩)] 65)
  clear h1 h2
  go_wp2
  go_ret
  exact ⟨⟨_, b1, b2, n1, n2, rfl, by rw [World.cell?_alloc_at _ _ _ _ rfl]; rfl, by rw [World.cell?_alloc_at _ _ _ _ rfl]; rfl, H1.out, H2.out⟩, hb2⟩
theorem prNew_any (w : World) : Calls Try.prog 36 #[] w fun e w' => (∃ b, e = .returned (.pointer (some ⟨b, 0, none⟩)) ∧ PropAt w' b) ∧ Below w.heap.size w w' :=
  (prNew_of bidiL joinL (prKnown_of bidiL joinL 230 68 bidiRanges_any joinRanges_any rfl rfl (by decide) (by decide) bidi_err join_err bidi_fit join_fit) w).mono fun _ _ ⟨⟨b, b1, b2, n1, n2, he, c0, c1, h1, h2⟩, hb⟩ => ⟨⟨b, he, b1, b2, n1, n2, c0, c1, h1, h2⟩, hb⟩
end Go.Proofs.Ytcjcimdembkbkaa
/- A Props that New made: Join. -/
namespace Go.Proofs.Ytcjcimdembkbkaa
open Go.RowKit
theorem ppMade_any (b : Nat) (w : World) (h : PropAt w b) : Calls Try.prog 65 #[.pointer (some ⟨b, 0, none⟩)] w fun e w' => e = .returned (.bool true) ∧ w = w' := by
  obtain ⟨b1, b2, n1, n2, h1, _, _, _⟩ := h
  go_enter Try.func65, Try.ntmps65
  go_wp2
  go_ret
  exact ⟨rfl, rfl⟩
set_option maxRecDepth 100000 in
theorem ppJoin_of (lJ : List Rg) (b b2 n2 : Nat) (c : Int) (w : World) (h1 : w.cell? ⟨b, 1, none⟩ = some (.pointer (some ⟨b2, 0, none⟩))) (hT : TabAt w b2 lJ 0 n2) (hr : riseB (-1) lJ = true) :
    Calls Try.prog 66 #[.pointer (some ⟨b, 0, none⟩), .int .i64 c] w fun e w' => e = .returned (.int .i64 (getG lJ 0 c)) ∧ Below w.heap.size w w' := by
  have HT := Lib.hid hT
  have HR := Lib.hid hr
  clear hT hr
  go_enter Try.func66, Try.ntmps66
  go_wp2_with fail
  refine (prGet_any b2 n2 lJ 0 c w HT.out HR.out).mono ?_
  rintro e w1 ⟨rfl, hb⟩
  go_wp2
  go_ret
  exact ⟨rfl, hb⟩
theorem ppJoin_gen (b : Nat) (c v : Int) (w : World) (hP : PropAt w b) (hk : ∀ w' : World, w' = w → Calls Try.prog 66 #[.pointer (some ⟨b, 0, none⟩), .int .i64 c] w' fun e w'' => e = .returned (.int .i64 v) ∧ Below w'.heap.size w' w'') :
    Calls Try.prog 56 #[.pointer (some ⟨b, 0, none⟩), .int .i64 c] w fun e w' => e = .returned (.int .i64 v) ∧ Below w.heap.size w w' := by
  have HP := Lib.hid hP
  have HK := Lib.hid hk
  clear hP hk
  go_enter Try.func56, Try.ntmps56
  go_wp2_with fail
  refine (ppMade_any b w HP.out).mono ?_
  rintro e w1 ⟨rfl, rfl⟩
  go_wp2_with fail
  refine (HK.out _ rfl).mono ?_
  rintro e w2 ⟨rfl, hb⟩
  go_wp2
  go_ret
  exact ⟨rfl, hb⟩
theorem ppJoin_any (b : Nat) (c v : Int) (hv : joinF c = v) (w : World) (hP : PropAt w b) :
    Calls Try.prog 56 #[.pointer (some ⟨b, 0, none⟩), .int .i64 c] w fun e w' => e = .returned (.int .i64 v) ∧ Below w.heap.size w w' :=
  ppJoin_gen b c v w hP fun w' e => by
    subst e
    obtain ⟨b1, b2, n1, n2, h1, h2, h3, h4⟩ := hP
    have := ppJoin_of joinL b b2 n2 c w' h2 h4 join_rise
    rw [← hv]
    exact this
end Go.Proofs.Ytcjcimdembkbkaa
/- Blocks of memory by their cells: what lies in one, what a store leaves of others. -/
namespace Go.Proofs.Ytcjcimdembkbkaa
open Go.RowKit

def intsZ (l : List Int) : List Value := l.map (Value.int .i64)
theorem intsZ_set (l : List Int) (i : Nat) (x : Int) : intsZ (l.set i x) = (intsZ l).set i (.int .i64 x) := by simp [intsZ, List.map_set]
theorem hp_lt {w : World} {g : Nat} {o : Obj} (h : w.heap[g]? = some o) : g < w.heap.size := by
  by_cases c : g < w.heap.size
  · exact c
  · rw [Array.getElem?_eq_none (by omega)] at h; exact absurd h (by simp)
theorem hp_cell {w : World} {g : Nat} {cs : Array Value} {t : TypeId} (h : w.heap[g]? = some (.cells cs t (0, 0))) {j : Nat} {v : Value} (hj : cs[j]? = some v) : w.cell? ⟨g, j, none⟩ = some v := by
  unfold World.cell?
  rw [show w.heap[(⟨g, j, none⟩ : Addr).block]? = _ from h]
  simpa using hj
theorem hp_froz {w : World} {g : Nat} {cs : Array Value} {t : TypeId} (h : w.heap[g]? = some (.cells cs t (0, 0))) (j : Nat) : w.frozen? ⟨g, j, none⟩ = false := by
  unfold World.frozen?
  rw [show w.heap[(⟨g, j, none⟩ : Addr).block]? = _ from h]
  rfl
theorem hp_far {w : World} {g k : Nat} (h : k ≠ g) (j : Nat) (u : Value) : (w.setCell ⟨g, j, none⟩ u).heap[k]? = w.heap[k]? := Below.heap_setCell w ⟨g, j, none⟩ u k h
theorem hp_row {w : World} {g : Nat} {l : List Int} {t : TypeId} (h : w.heap[g]? = some (.cells (intsZ l).toArray t (0, 0))) (i : Nat) (x : Int) : (w.setCell ⟨g, i, none⟩ (.int .i64 x)).heap[g]? = some (.cells (intsZ (l.set i x)).toArray t (0, 0)) := by
  rw [heap_setCell_same w g i _ t _ h]
  congr 2
  rw [intsZ_set, List.setIfInBounds_toArray]
theorem Rd.belowS {w w' : World} {size n s : Nat} {A : Option Addr} {xs : List Value} (h : Rd w size A n xs) (hA : 0 < n → ∀ ad, A = some ad → ad.block < s) (hb : Below s w w') : Rd w' size A n xs :=
  ⟨h.1, fun hn => by
    obtain ⟨ad, e, hlt, hc⟩ := h.2 hn
    exact ⟨ad, e, Nat.lt_of_lt_of_le hlt hb.size, fun j u hu => (hb.cell (by rw [blockAdd]; exact hA hn ad e)).trans (hc j u hu)⟩⟩
end Go.Proofs.Ytcjcimdembkbkaa
