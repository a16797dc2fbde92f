/- The project's Groups of spans. -/
import Derived.Test.YthhjcdnhlpjfnaaMergedP
import Derived.Test.YthhjcdnhlpjfnaaSpSizeP
import Derived.Deep.RegionHeld3
namespace Go.Proofs.Ythhjcdnhlpjfnaa
open Go.RowKit

set_option maxRecDepth 100000 in
set_option maxHeartbeats 4000000 in
theorem prGroups_any (m : Int) (A : Option Addr) (q c : Nat) (l : List Sp) (w : World) (hr : Rd w 2 A q (cellsS l)) (hq : q ≤ 1000) (hm : m ≤ 1000) (hm0 : -9223372036854775808 ≤ m) :
    Calls Try.prog 12 #[.int .i64 m, .slice A q c] w fun e w' => ∃ v, e = .returned v ∧ w'.ownsRow w.heap.size 27 2 v (groupsS m l).length (cellsS (groupsS m l)) ∧ Below w.heap.size w w' := by
  have hlen : l.length = q := by have := hr.1; rw [cellsS_len] at this; omega
  have HL := Lib.hid hlen
  clear hlen
  go_enter Try.func12, Try.ntmps12
  go_wp2_with fail
  refine (prMerged_any m A q c l w hr (by omega)).mono ?_
  rintro e w1 ⟨l', v, hp, hs, rfl, hown, hle, hb1⟩
  obtain ⟨H, hH⟩ : ∃ H, mergeS l' = H := ⟨_, rfl⟩
  rw [hH] at hown hle
  obtain ⟨V, cv, rfl, hcv⟩ := own_form hown
  have hrd := Rd.of_own hown
  have hhl : H.length ≤ 1000 := by rw [HL.out] at hle; omega
  by_cases hneg : m < 0
  · have HE := Lib.hid (show H = [] by
      have : l' = [] := by
        cases l' with
        | nil => rfl
        | cons s t =>
          have := valid_iff.1 (List.mem_filter.1 (hp.mem_iff.1 (List.mem_cons_self (a := s) (l := t)))).2
          omega
      rw [← hH, this]; rfl)
    have HG := Lib.hid (groups_neg (n := m) (l := l) (by omega))
    have HHL := Lib.hid (show H.length = 0 by rw [HE.out]; rfl)
    rw [HHL.out]
    clear hown hrd hp hs hH hcv hhl hle
    go_wp2_with fail
    refine wp_loop_rounds 1 ?_
    rw [rounds_succ]
    go_wp2
    go_ret
    exact ⟨_, rfl, by rw [HG.out]; exact World.ownsRow_nil _ _ _ _, hb1⟩
  · obtain ⟨hrise, hgeq⟩ := groups_eq (n := m) (l := l) (l' := l') (by omega) hp hs
    rw [hH] at hrise hgeq
    have HR := Lib.hid hrise
    have HG := Lib.hid hgeq
    have HFL := Lib.hid (fill_len hrise)
    clear hown hp hs hH hrise hgeq hle
    go_wp2_with fail
    go_loopw [6, 19] (fun x i wr => ∃ k : Nat, k ≤ H.length ∧ i = .int .i64 k ∧ x = .int .i64 (m - overS (H.take k)) ∧ Below w.heap.size w wr ∧ Below w1.heap.size w1 wr) (fun _ i _ => H.length - (intOf i).toNat)
    case atStart => exact ⟨0, Nat.zero_le _, rfl, by simp [overS], hb1, Below.refl _ _⟩
    case round =>
      obtain ⟨k, hk, rfl, rfl, hb, hbx⟩ := hrel
      have ho := over_le HR.out k
      obtain ⟨o1, o2⟩ := ho
      by_cases hlt : k < H.length
      · obtain ⟨s, hsk⟩ : ∃ s, H[k]? = some s := ⟨_, List.getElem?_eq_getElem hlt⟩
        obtain ⟨ad, rfl, hab, c1, c2⟩ := (hrd.below hbx).span hsk
        obtain ⟨s1, s2, s3⟩ := HR.out.mem s (List.mem_of_getElem? hsk)
        have ho2 := over_le HR.out (k + 1)
        have hov : overS (H.take (k + 1)) = overS (H.take k) + (s.2 - s.1 - 1) := by rw [List.take_add_one, hsk]; simp [overS]
        rw [hov] at ho2
        obtain ⟨o3, o4⟩ := ho2
        have HOV := Lib.hid hov
        clear hsk hov
        obtain ⟨x, y⟩ := s
        simp only at c1 c2 s1 s2 s3 o3 o4
        have HSZ := Lib.hid (show sizeS (x, y) = y - x from if_pos (by simp [rightB]; omega))
        have d0 : (wr.alloc (.cells #[.int .i64 x, .int .i64 y] 27)).cell? ⟨wr.heap.size, 0, none⟩ = some (.int .i64 x) := by go_simp
        have d1 : (wr.alloc (.cells #[.int .i64 x, .int .i64 y] 27)).cell? ⟨wr.heap.size, 1, none⟩ = some (.int .i64 y) := by go_simp
        have hba := hb.alloc hb.size (.cells #[.int .i64 x, .int .i64 y] 27)
        have hbxa := hbx.alloc hbx.size (.cells #[.int .i64 x, .int .i64 y] 27)
        go_wp2_with fail
        refine (prSizeS_any x y _ (by unfold Fit; omega)).mono ?_
        rintro e w2 ⟨rfl, hb2⟩
        rw [HSZ.out]
        have hb3 := hba.trans (hb2.mono hba.size)
        have hbx3 := hbxa.trans (hb2.mono hbxa.size)
        obtain ⟨t, ht⟩ : ∃ t, overS (H.take k) = t := ⟨_, rfl⟩
        rw [ht] at o1 o2 o3 o4 ⊢
        have HT := Lib.hid ht
        clear ht
        go_wp2
        go_roundw
        case rel => exact ⟨k + 1, by omega, by go_num, by rw [HOV.out, HT.out]; go_num, hb3, hbx3⟩
        case measure => simp [intOf]; omega
      · obtain rfl : k = H.length := by omega
        rw [List.take_length] at o1 o2 ⊢
        have hcnt : (m - overS H) = ((fillG m 0 H).length : Int) := by rw [HFL.out]; omega
        have HCNT := Lib.hid hcnt
        obtain ⟨cn, hcn⟩ : ∃ cn, (fillG m 0 H).length = cn := ⟨_, rfl⟩
        rw [hcn] at hcnt
        have hcn1 : cn ≤ 1000 := by omega
        have HCN := Lib.hid hcn
        rw [hcnt]
        clear hcnt hcn o1 o2
        obtain ⟨wo, rfl⟩ : ∃ wo : World, wo = wr := ⟨_, rfl⟩
        go_wp2_with (at_make; refine wpList_mk rfl _ _ _ rfl spanSlice (base := wo.heap.size) _ cn rfl rfl rfl (by omega) (by unfold maxLen; omega) (Nat.le_refl _) ?_; intro v0 w3 hown0 hg0)
        have hb3 := below_make hg0
        have hbw : Below wo.heap.size wo w3 := hb3
        have hrd0 := hrd.below hbx
        clear hbx
        have hb5 := hb.trans (hb3.mono hb.size)
        clear hrd hg0 hb3
        go_loopw [9, 10, 39] (fun v z i wx => ∃ (k : Nat) (e : Int) (acc : List Sp), k ≤ H.length ∧ i = .int .i64 k ∧ z = .int .i64 e ∧ 0 ≤ e ∧ RiseIn e m (H.drop k) ∧ fillG m 0 H = acc ++ fillG m e (H.drop k) ∧ wx.ownsRow wo.heap.size 27 2 v acc.length (cellsS acc) ∧ Below wo.heap.size wo wx) (fun _ _ i _ => H.length - (intOf i).toNat)
        case atStart => exact ⟨0, 0, [], Nat.zero_le _, rfl, rfl, Int.le_refl _, HR.out, rfl, hown0, hbw⟩
        case round =>
          obtain ⟨k, e, acc, hk, rfl, rfl, he0, hri, hfi, hoz, hbz⟩ := hrel
          have hal : acc.length ≤ cn := by
            rw [← HCN.out, hfi, List.length_append]
            exact Nat.le_add_right _ _
          obtain ⟨a, ha⟩ : ∃ a, acc.length = a := ⟨_, rfl⟩
          rw [ha] at hoz hal
          have HA := Lib.hid ha
          clear ha
          by_cases hlt : k < H.length
          · obtain ⟨s, hsk⟩ : ∃ s, H[k]? = some s := ⟨_, List.getElem?_eq_getElem hlt⟩
            obtain ⟨ad, rfl, hab, c1, c2⟩ := (hrd0.below hbz).span hsk
            have hdr := dropCons hsk
            rw [hdr] at hri hfi
            obtain ⟨x, y⟩ := s
            obtain ⟨r1, r2, r3⟩ := hri
            simp only at r1 r2 r3 c1 c2
            have hym := r3.le
            have HRI := Lib.hid r3
            have HFI := Lib.hid (show fillG m 0 H = (acc ++ singles (x - e).toNat e ++ [(x, y)]) ++ fillG m y (H.drop (k + 1)) by rw [hfi]; simp [fillG])
            clear hsk hdr hfi r3
            have hza := hbz.alloc hbz.size (.cells #[.int .i64 x, .int .i64 y] 27)
            have hoa := hoz.alloc (.cells #[.int .i64 x, .int .i64 y] 27)
            have d0 : (wr.alloc (.cells #[.int .i64 x, .int .i64 y] 27)).cell? ⟨wr.heap.size, 0, none⟩ = some (.int .i64 x) := by go_simp
            have d1 : (wr.alloc (.cells #[.int .i64 x, .int .i64 y] 27)).cell? ⟨wr.heap.size, 1, none⟩ = some (.int .i64 y) := by go_simp
            have hnb : u9.ownBlock ≠ some wr.heap.size := fun h => by have := (hoz.lt _ h).2; omega
            have hzs := hbz.size
            have HKB := Lib.hid (show ∀ w', (wr.alloc (.cells #[.int .i64 x, .int .i64 y] 27)).grownBy w' u9.ownBlock → w'.cell? ⟨wr.heap.size, 0, none⟩ = some (.int .i64 x) ∧ w'.cell? ⟨wr.heap.size, 1, none⟩ = some (.int .i64 y) from
              fun w' h => ⟨h.cell d0 (fun e => hnb e.symm), h.cell d1 (fun e => hnb e.symm)⟩)
            have hbase : wo.heap.size ≤ (wr.alloc (.cells #[.int .i64 x, .int .i64 y] 27)).heap.size := hza.size
            have hbase2 : wo.heap.size ≤ ((wr.alloc (.cells #[.int .i64 x, .int .i64 y] 27)).alloc (.cells #[.int .i64 x, .int .i64 y] 27)).heap.size := by simp; omega
            have hoaD := (show ((wr.alloc (.cells #[.int .i64 x, .int .i64 y] 27)).drew).ownsRow wo.heap.size 27 2 u9 a (cellsS acc) from hoa)
            have hoaE := (show (((wr.alloc (.cells #[.int .i64 x, .int .i64 y] 27)).alloc (.cells #[.int .i64 x, .int .i64 y] 27)).drew).ownsRow wo.heap.size 27 2 u9 a (cellsS acc) from hoa.alloc (.cells #[.int .i64 x, .int .i64 y] 27))
            have hbaseD : wo.heap.size ≤ ((wr.alloc (.cells #[.int .i64 x, .int .i64 y] 27)).drew).heap.size := hbase
            have hbaseE : wo.heap.size ≤ (((wr.alloc (.cells #[.int .i64 x, .int .i64 y] 27)).alloc (.cells #[.int .i64 x, .int .i64 y] 27)).drew).heap.size := hbase2
            have HA2 := Lib.hid (show ((wr.alloc (.cells #[.int .i64 x, .int .i64 y] 27)).alloc (.cells #[.int .i64 x, .int .i64 y] 27)).heap[wr.heap.size + 1]? = some (.cells #[.int .i64 x, .int .i64 y] 27) by have := heap_alloc_new (wr.alloc (.cells #[.int .i64 x, .int .i64 y] 27)) (.cells #[.int .i64 x, .int .i64 y] 27); simpa using this)
            have hnb2 : u9.ownBlock ≠ some (wr.heap.size + 1) := fun h => by have := (hoz.lt _ h).2; omega
            have hle12 : (wr.alloc (.cells #[.int .i64 x, .int .i64 y] 27)).heap.size ≤ (((wr.alloc (.cells #[.int .i64 x, .int .i64 y] 27)).alloc (.cells #[.int .i64 x, .int .i64 y] 27)).drew).heap.size := (below_new (wr.alloc (.cells #[.int .i64 x, .int .i64 y] 27)) (.cells #[.int .i64 x, .int .i64 y] 27)).size
            have hcx : x - e ≤ 1000 := by omega
            have hlen1 : acc.length + (x - e).toNat + 1 ≤ 3000 := by rw [HA.out]; omega
            go_wp2
            clear d0 d1 c1 c2
            go_region_held3 (fun w' => w'.cell? ⟨wr.heap.size, 0, none⟩ = some (.int .i64 x) ∧ w'.cell? ⟨wr.heap.size, 1, none⟩ = some (.int .i64 y))
              (first
                | exact HKB.out _ (World.grownBy.refl _ _)
                | exact HKB.out _ (grown_of_below' _ (Below.refl _ _).drew)
                | exact HKB.out _ (grown_of_below' _ (below_new _ (.cells #[.int .i64 x, .int .i64 y] 27)).drew)
                | exact HKB.out _ hgA
                | exact HKB.out _ (grown_step hgA (World.grownBy_alloc _ (.cells #[.int .i64 x, .int .i64 y] 27) none) (.inr (fun k h => by cases h)))
                | exact HKB.out _ hgB
                | fail)
              (first
                | (refine step_appR rfl _ _ _ rfl spanSlice (by decide) v1 (a + (x - e).toNat) _ rfl hown1b _ 1 1 [.int .i64 x, .int .i64 y] rfl hn2.out (oneInt2 _ _ _) (by omega) (by unfold maxLen; omega) hbs1 _ rfl ?_; intro v2 w2 hown2 hgr2 hat2; have hgB := grown_step hgAb hgr2 hob1)
                | (go_at_call 42; (with_reducible refine (prSingles_any wo.heap.size a u9 acc e x ((wr.alloc (.cells #[.int .i64 x, .int .i64 y] 27)).drew) hoaD he0 (by omega) (by omega) hbaseD).mono ?_); rintro e' w1' ⟨v1, rfl, hown1, hgr1, hob1⟩; have hgA : (wr.alloc (.cells #[.int .i64 x, .int .i64 y] 27)).grownBy w1' u9.ownBlock := ⟨hgr1.os, hgr1.tape, hgr1.output, hgr1.size, hgr1.block⟩; have hown1b := hown1.alloc (.cells #[.int .i64 x, .int .i64 y] 27); have hn2 := Lib.hid (rd_blk (m := 1) (cs := [.int .i64 x, .int .i64 y]) 2 (heap_alloc_new w1' (.cells #[.int .i64 x, .int .i64 y] 27)) rfl); have hbs1 : wo.heap.size ≤ (w1'.alloc (.cells #[.int .i64 x, .int .i64 y] 27)).heap.size := (Nat.le_trans (Nat.le_trans hbase hgA.size) (by simp)); have hgAb := grown_step hgA (World.grownBy_alloc w1' (.cells #[.int .i64 x, .int .i64 y] 27) none) (.inr (fun k h => by cases h)))
                | (go_at_call 42; (with_reducible refine (prSingles_any wo.heap.size a u9 acc e x (((wr.alloc (.cells #[.int .i64 x, .int .i64 y] 27)).alloc (.cells #[.int .i64 x, .int .i64 y] 27)).drew) hoaE he0 (by omega) (by omega) hbaseE).mono ?_); rintro e' w1' ⟨v1, rfl, hown1, hgr1, hob1⟩; have hgA : (wr.alloc (.cells #[.int .i64 x, .int .i64 y] 27)).grownBy w1' u9.ownBlock := grown_step (grown_of_below' u9.ownBlock (below_new (wr.alloc (.cells #[.int .i64 x, .int .i64 y] 27)) (.cells #[.int .i64 x, .int .i64 y] 27))) (⟨hgr1.os, hgr1.tape, hgr1.output, hgr1.size, hgr1.block⟩ : ((wr.alloc (.cells #[.int .i64 x, .int .i64 y] 27)).alloc (.cells #[.int .i64 x, .int .i64 y] 27)).grownBy w1' u9.ownBlock) (.inl rfl); have hown1b := hown1; have hn2 := Lib.hid (rd_blk (m := 1) (cs := [.int .i64 x, .int .i64 y]) 2 (blk_grown (w := ((wr.alloc (.cells #[.int .i64 x, .int .i64 y] 27)).alloc (.cells #[.int .i64 x, .int .i64 y] 27)).drew) HA2.out hgr1 hnb2) rfl); have hbs1 : wo.heap.size ≤ w1'.heap.size := Nat.le_trans hbase hgA.size; have hgAb := hgA; have hob1 : v1.ownBlock = u9.ownBlock ∨ ∀ b, v1.ownBlock = some b → (wr.alloc (.cells #[.int .i64 x, .int .i64 y] 27)).heap.size ≤ b := hob1.imp id (fun h k hk => Nat.le_trans hle12 (h k hk)))
                | fail)
            all_goals
              have hfin := Lib.hid (show w2.ownsRow wo.heap.size 27 2 v2 (acc ++ singles (x - e).toNat e ++ [(x, y)]).length (cellsS (acc ++ singles (x - e).toNat e ++ [(x, y)])) by
                have hn : (acc ++ singles (x - e).toNat e ++ [(x, y)]).length = a + (x - e).toNat + 1 := by rw [List.length_append, List.length_append, singles_len, HA.out]; rfl
                have hc : cellsS (acc ++ singles (x - e).toNat e ++ [(x, y)]) = cellsS (acc ++ singles (x - e).toNat e) ++ [.int .i64 x, .int .i64 y] := by simp [cellsS, encS]
                rw [hn, hc]; exact hown2)
              have hbf := hza.grown hgB hbase (fun k h => (hoz.lt k h).1)
              obtain ⟨f0, f1⟩ := HKB.out _ hgB
              have hy0 : 0 ≤ y := by omega
              clear hat2 hown2
              go_wp2
              go_roundw
              case rel => exact ⟨k + 1, y, _, by omega, by go_num, rfl, hy0, HRI.out, HFI.out, hfin.out, hbf⟩
              case measure => simp [intOf]; omega
          · obtain rfl : k = H.length := by omega
            have hd : H.drop H.length = [] := List.drop_eq_nil_of_le (Nat.le_refl _)
            rw [hd] at hri hfi
            have hem : e ≤ m := hri
            have HFI := Lib.hid (show groupsS m l = acc ++ singles (m - e).toNat e by rw [HG.out, hfi]; rfl)
            have hbzs := hbz.size
            clear hri hfi hd
            go_wp2_with fail
            refine (prSingles_any wo.heap.size a u9 acc e m wr hoz he0 (by omega) (by omega) hbzs).mono ?_
            rintro e' w4 ⟨v4, rfl, hown4, hgr4, hob4⟩
            have hbf := hbz.grown hgr4 hbzs (fun k h => (hoz.lt k h).1)
            have hbw4 := hb.trans (hbf.mono hb.size)
            have HO4 := Lib.hid (own_base hown4 hb.size)
            clear hob4
            go_wp2
            go_ret
            exact ⟨_, rfl, by rw [HFI.out, List.length_append, singles_len, HA.out]; exact HO4.out, hbw4⟩
end Go.Proofs.Ythhjcdnhlpjfnaa
