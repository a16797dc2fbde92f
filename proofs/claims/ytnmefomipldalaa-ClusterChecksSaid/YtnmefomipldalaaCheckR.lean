/- The reference's sorted of spans, and its Check of clusters. -/
import Derived.Test.YtnmefomipldalaaClD
import Derived.Test.YtnmefomipldalaaSpSlice
import Derived.Test.YtnmefomipldalaaPartsR
import Derived.Test.YtnmefomipldalaaSortedR
import Derived.Deep.RegionHeld3
namespace Go.Proofs.Ytnmefomipldalaa
open Go.RowKit

set_option maxRecDepth 100000 in
set_option maxHeartbeats 4000000 in
theorem refCheckC_any (A : Option Addr) (n c : Nat) (l : List Cl) (m p : Int) (w : World) (hr : Rd w 4 A n (cellsC l)) (hn : n ≤ 1000000) :
    Calls Try.prog 14 #[.slice A n c, .int .i64 m, .int .i64 p] w fun e w' => e = .returned (.bool (checkC l m p)) ∧ Below w.heap.size w w' := by
  have hlen : l.length = n := by have := hr.1; rw [cellsC_len] at this; omega
  have HL := Lib.hid hlen
  clear hlen
  obtain ⟨ht, i0, z0, hi0, hz0, hz1, hz2, hz3⟩ := spanSlice
  go_enter Try.func14, Try.ntmps14
  go_wp2
  go_loopw [7, 8, 9] (fun v u i wr => ∃ k : Nat, k ≤ n ∧ i = .int .i64 k ∧ wr.ownsRow w.heap.size 31 2 v k (cellsS ((l.map Prod.fst).take k)) ∧ wr.ownsRow w.heap.size 31 2 u k (cellsS ((l.map Prod.snd).take k)) ∧ (∀ b, v.ownBlock = some b → u.ownBlock ≠ some b) ∧ Below w.heap.size w wr) (fun _ _ i _ => n - (intOf i).toNat)
  case atStart => exact ⟨0, Nat.zero_le _, rfl, ⟨rfl, .inl ⟨rfl, rfl⟩⟩, ⟨rfl, .inl ⟨rfl, rfl⟩⟩, fun b h => by simp [Value.ownBlock] at h, Below.refl _ _⟩
  case round =>
    obtain ⟨k, hk, rfl, hv, hu, hne, hb⟩ := hrel
    by_cases hlt : k < n
    · obtain ⟨s, hsk⟩ : ∃ s, l[k]? = some s := ⟨_, List.getElem?_eq_getElem (by rw [HL.out]; exact hlt)⟩
      obtain ⟨ad, rfl, hab, c1, c2, c3, c4⟩ := hr.clus hsk
      obtain ⟨⟨s1, s2⟩, s3, s4⟩ := s
      simp only at c1 c2 c3 c4
      have HS := Lib.hid hsk
      clear hsk
      have HKB := Lib.hid (show ∀ w', Below w.heap.size w w' → w'.cell? (ad.add (k * 4)) = some (.int .i64 s1) ∧ w'.cell? ⟨(ad.add (k * 4)).block, (ad.add (k * 4)).off + 1, none⟩ = some (.int .i64 s2) ∧ w'.cell? ⟨(ad.add (k * 4)).block, (ad.add (k * 4)).off + 2, none⟩ = some (.int .i64 s3) ∧ w'.cell? ⟨(ad.add (k * 4)).block, (ad.add (k * 4)).off + 3, none⟩ = some (.int .i64 s4) from
        fun w' h => ⟨cell_below h c1, cell_below h c2, cell_below h c3, cell_below h c4⟩)
      have hsz := hb.size
      have HNE := Lib.hid (show u8.ownBlock = none ∨ u8.ownBlock ≠ u7.ownBlock by
        rcases h : u8.ownBlock with _ | b
        · exact .inl rfl
        · exact .inr (fun e => hne b e.symm h))
      have HA2 := Lib.hid (show ((wr.alloc (.cells #[.int .i64 s1, .int .i64 s2] 31)).alloc (.cells #[.int .i64 s3, .int .i64 s4] 31)).heap[wr.heap.size + 1]? = some (.cells #[.int .i64 s3, .int .i64 s4] 31) by have := heap_alloc_new (wr.alloc (.cells #[.int .i64 s1, .int .i64 s2] 31)) (.cells #[.int .i64 s3, .int .i64 s4] 31); simpa using this)
      have HA1 := Lib.hid (show ((wr.alloc (.cells #[.int .i64 s3, .int .i64 s4] 31)).alloc (.cells #[.int .i64 s1, .int .i64 s2] 31)).heap[wr.heap.size + 1]? = some (.cells #[.int .i64 s1, .int .i64 s2] 31) by have := heap_alloc_new (wr.alloc (.cells #[.int .i64 s3, .int .i64 s4] 31)) (.cells #[.int .i64 s1, .int .i64 s2] 31); simpa using this)
      clear c1 c2 c3 c4
      go_wp2
      go_region_held3 (fun w' => w'.cell? (ad.add (k * 4)) = some (.int .i64 s1) ∧ w'.cell? ⟨(ad.add (k * 4)).block, (ad.add (k * 4)).off + 1, none⟩ = some (.int .i64 s2) ∧ w'.cell? ⟨(ad.add (k * 4)).block, (ad.add (k * 4)).off + 2, none⟩ = some (.int .i64 s3) ∧ w'.cell? ⟨(ad.add (k * 4)).block, (ad.add (k * 4)).off + 3, none⟩ = some (.int .i64 s4))
        (first
          | exact HKB.out _ hb
          | exact HKB.out _ hb.drew
          | exact HKB.out _ (hb.alloc hsz (.cells #[.int .i64 s1, .int .i64 s2] 31)).drew
          | exact HKB.out _ (hb.alloc hsz (.cells #[.int .i64 s3, .int .i64 s4] 31)).drew
          | exact HKB.out _ ((hb.alloc hsz (.cells #[.int .i64 s1, .int .i64 s2] 31)).alloc (by simp; omega) (.cells #[.int .i64 s3, .int .i64 s4] 31)).drew
          | exact HKB.out _ ((hb.alloc hsz (.cells #[.int .i64 s3, .int .i64 s4] 31)).alloc (by simp; omega) (.cells #[.int .i64 s1, .int .i64 s2] 31)).drew
          | exact HKB.out _ hB1
          | exact HKB.out _ (hB1.alloc hB1.size (.cells #[.int .i64 s3, .int .i64 s4] 31))
          | exact HKB.out _ hB2
          | fail)
        (first
          | (refine step_append_lies _ (by rfl) _ _ _ (by rfl) w.heap.size 31 i0 _ 2 16 ht hi0 hz0 hz1 hz2 hz3 (by omega) u8 k _ (by rfl) hu2 _ 1 1 [.int .i64 s3, .int .i64 s4] (by rfl) (by rfl) hn2.out (oneInt2 _ _ _) (by omega) (by unfold maxLen; omega) (by omega) (by first | exact hsz1 | (simp; omega)) _ rfl ?_; intro g2 cp2 w2 hown2 hgr2 hat2 hlt2; have hB2 : Below w.heap.size w w2 := (by first | exact hB1.grown hgr2 hsz1 (fun k hk => (hu.lt k hk).1) | exact (hB1.alloc hsz1 (.cells #[.int .i64 s3, .int .i64 s4] 31)).grown hgr2 (by simp; omega) (fun k hk => (hu.lt k hk).1)); have hV2 := (by first | exact hown1.kept hgr2 (.inr (fun e => hD1 e.symm)) | exact (hown1.alloc (.cells #[.int .i64 s3, .int .i64 s4] 31)).kept hgr2 (.inr (fun e => hD1 e.symm))); have hD2 : g1 ≠ g2 := (by rcases hat2 with h | h; (intro e; exact hD1 (by rw [e]; exact h)); (first | omega | (simp at h; omega))))
          | (refine step_append_lies _ (by rfl) _ _ _ (by rfl) w.heap.size 31 i0 _ 2 16 ht hi0 hz0 hz1 hz2 hz3 (by omega) u7 k _ (by rfl) ((hv.alloc (.cells #[.int .i64 s1, .int .i64 s2] 31)).drew) ⟨wr.heap.size, 0, none⟩ 1 1 [.int .i64 s1, .int .i64 s2] (by rfl) (by rfl) (World.news_of_block (cs := #[.int .i64 s1, .int .i64 s2]) (t := 31) (fr := (0, 0)) (heap_alloc_new wr _)) (oneInt2 _ _ _) (by omega) (by unfold maxLen; omega) (by omega) (by simp; omega) (wr.heap.size + 1) (by simp) ?_; intro g1 cp1 w1 hown1 hgr1 hat1 hlt1; have hB1 := ((hb.alloc hsz (.cells #[.int .i64 s1, .int .i64 s2] 31)).drew).grown hgr1 (by simp; omega) (fun k hk => (hv.lt k hk).1); have hu2 := (((hu.alloc (.cells #[.int .i64 s1, .int .i64 s2] 31)).drew).kept hgr1 HNE.out).alloc (.cells #[.int .i64 s3, .int .i64 s4] 31); have hn2 := Lib.hid (World.news_of_block (w := w1.alloc (.cells #[.int .i64 s3, .int .i64 s4] 31)) (cs := #[.int .i64 s3, .int .i64 s4]) (t := 31) (fr := (0, 0)) (heap_alloc_new w1 _)); have hsz1 := hB1.size; have hD1 : u8.ownBlock ≠ some g1 := (by rcases hat1 with h | h; exact hne _ h; (intro e; have := (hu.lt _ e).2; omega)))
          | (refine step_append_lies _ (by rfl) _ _ _ (by rfl) w.heap.size 31 i0 _ 2 16 ht hi0 hz0 hz1 hz2 hz3 (by omega) u7 k _ (by rfl) (((hv.alloc (.cells #[.int .i64 s1, .int .i64 s2] 31)).alloc (.cells #[.int .i64 s3, .int .i64 s4] 31)).drew) ⟨wr.heap.size, 0, none⟩ 1 1 [.int .i64 s1, .int .i64 s2] (by rfl) (by rfl) (World.news_of_block (cs := #[.int .i64 s1, .int .i64 s2]) (t := 31) (fr := (0, 0)) (blk_alloc (heap_alloc_new wr _) _)) (oneInt2 _ _ _) (by omega) (by unfold maxLen; omega) (by omega) (by simp; omega) (wr.heap.size + 2) (by simp) ?_; intro g1 cp1 w1 hown1 hgr1 hat1 hlt1; have hB1 := (((hb.alloc hsz (.cells #[.int .i64 s1, .int .i64 s2] 31)).alloc (by simp; omega) (.cells #[.int .i64 s3, .int .i64 s4] 31)).drew).grown hgr1 (by simp; omega) (fun k hk => (hv.lt k hk).1); have hu2 := (((hu.alloc (.cells #[.int .i64 s1, .int .i64 s2] 31)).alloc (.cells #[.int .i64 s3, .int .i64 s4] 31)).drew).kept hgr1 HNE.out; have hn2 := Lib.hid (World.news_of_block (w := w1) (cs := #[.int .i64 s3, .int .i64 s4]) (t := 31) (fr := (0, 0)) (blk_grown (w := ((wr.alloc (.cells #[.int .i64 s1, .int .i64 s2] 31)).alloc (.cells #[.int .i64 s3, .int .i64 s4] 31)).drew) HA2.out hgr1 (fun e => by have := (hv.lt _ e).2; omega))); have hsz1 := hB1.size; have hD1 : u8.ownBlock ≠ some g1 := (by rcases hat1 with h | h; exact hne _ h; (intro e; have := (hu.lt _ e).2; omega)))
          | (refine step_append_lies _ (by rfl) _ _ _ (by rfl) w.heap.size 31 i0 _ 2 16 ht hi0 hz0 hz1 hz2 hz3 (by omega) u7 k _ (by rfl) (((hv.alloc (.cells #[.int .i64 s3, .int .i64 s4] 31)).alloc (.cells #[.int .i64 s1, .int .i64 s2] 31)).drew) ⟨wr.heap.size + 1, 0, none⟩ 1 1 [.int .i64 s1, .int .i64 s2] (by rfl) (by rfl) (World.news_of_block (cs := #[.int .i64 s1, .int .i64 s2]) (t := 31) (fr := (0, 0)) HA1.out) (oneInt2 _ _ _) (by omega) (by unfold maxLen; omega) (by omega) (by simp; omega) (wr.heap.size + 2) (by simp) ?_; intro g1 cp1 w1 hown1 hgr1 hat1 hlt1; have hB1 := (((hb.alloc hsz (.cells #[.int .i64 s3, .int .i64 s4] 31)).alloc (by simp; omega) (.cells #[.int .i64 s1, .int .i64 s2] 31)).drew).grown hgr1 (by simp; omega) (fun k hk => (hv.lt k hk).1); have hu2 := (((hu.alloc (.cells #[.int .i64 s3, .int .i64 s4] 31)).alloc (.cells #[.int .i64 s1, .int .i64 s2] 31)).drew).kept hgr1 HNE.out; have hn2 := Lib.hid (World.news_of_block (w := w1) (cs := #[.int .i64 s3, .int .i64 s4]) (t := 31) (fr := (0, 0)) (blk_grown (w := ((wr.alloc (.cells #[.int .i64 s3, .int .i64 s4] 31)).alloc (.cells #[.int .i64 s1, .int .i64 s2] 31)).drew) (blk_alloc (heap_alloc_new wr _) _) hgr1 (fun e => by have := (hv.lt _ e).2; omega))); have hsz1 := hB1.size; have hD1 : u8.ownBlock ≠ some g1 := (by rcases hat1 with h | h; exact hne _ h; (intro e; have := (hu.lt _ e).2; omega)))
          | fail)
      all_goals
        have hT1 := Lib.hid (show cellsS ((l.map Prod.fst).take (k + 1)) = cellsS ((l.map Prod.fst).take k) ++ [.int .i64 s1, .int .i64 s2] by rw [List.take_add_one, List.getElem?_map, HS.out]; simp [cellsS, encS])
        have hT2 := Lib.hid (show cellsS ((l.map Prod.snd).take (k + 1)) = cellsS ((l.map Prod.snd).take k) ++ [.int .i64 s3, .int .i64 s4] by rw [List.take_add_one, List.getElem?_map, HS.out]; simp [cellsS, encS])
        clear hat1 hat2
        go_wp2
        go_roundw
        case rel => exact ⟨k + 1, by omega, by go_num, by rw [hT1.out]; exact hV2, by rw [hT2.out]; exact hown2, fun b hb1 hb2 => hD2 (by simp [Value.ownBlock] at hb1 hb2; omega), hB2⟩
        case measure => simp [intOf]; omega
    · have HK := Lib.hid (show k = n by omega)
      have HT1 := Lib.hid (show (l.map Prod.fst).take k = l.map Prod.fst by rw [List.take_of_length_le (by simp; rw [HL.out]; omega)])
      have HT2 := Lib.hid (show (l.map Prod.snd).take k = l.map Prod.snd by rw [List.take_of_length_le (by simp; rw [HL.out]; omega)])
      rw [HT1.out] at hv
      rw [HT2.out] at hu
      obtain ⟨A1, c1, rfl, hc1⟩ := own_form hv
      obtain ⟨A2, c2, rfl, hc2⟩ := own_form hu
      have hr1 := Rd.of_own hv
      have hr2 := Rd.of_own hu
      clear hv hu hne
      have hkm : k ≤ maxLen := by unfold maxLen; omega
      have HKM := Lib.hid hkm
      cases hp1 : partsS (l.map Prod.fst) m with
      | false =>
        have HC := Lib.hid (show checkC l m p = false by unfold checkC; rw [hp1]; rfl)
        have C := Lib.hid (refParts_any A1 k c1 (l.map Prod.fst) m _ hr1 HKM.out)
        rw [hp1] at C
        clear hp1
        go_wp2_with fail
        refine C.out.mono ?_
        rintro e w1 ⟨rfl, hb1⟩
        have hb2 := hb.trans (hb1.mono hb.size)
        go_wp2
        go_ret
        exact ⟨retB (by simp [HC.out]), hb2⟩
      | true =>
        have HC := Lib.hid (show checkC l m p = partsS (sortR (l.map Prod.snd)) p by unfold checkC; rw [hp1]; rfl)
        have C := Lib.hid (refParts_any A1 k c1 (l.map Prod.fst) m _ hr1 HKM.out)
        rw [hp1] at C
        clear hp1
        go_wp2_with fail
        refine C.out.mono ?_
        rintro e w1 ⟨rfl, hb1⟩
        have hb2 := hb.trans (hb1.mono hb.size)
        have hr3 := hr2.below hb1
        clear hr2 hr1 C hb1
        go_wp2_with fail
        refine (refSorted_any A2 k c2 (l.map Prod.snd) _ hr3 (by omega)).mono ?_
        rintro e w2 ⟨v, rfl, hv, hb1⟩
        have hb3 := hb2.trans (hb1.mono hb2.size)
        obtain ⟨A3, c3, rfl, hc3⟩ := own_form hv
        have hr4 := Rd.of_own hv
        clear hv hb1 hb2
        go_wp2_with fail
        refine (refParts_any A3 k c3 (sortR (l.map Prod.snd)) p _ hr4 HKM.out).mono ?_
        rintro e w3 ⟨rfl, hb1⟩
        rw [← HC.out]
        have hb4 := hb3.trans (hb1.mono hb3.size)
        go_wp2
        go_ret
        exact ⟨rfl, hb4⟩
end Go.Proofs.Ytnmefomipldalaa
