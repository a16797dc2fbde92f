/- Clusters of an index: the reference's, and the project's. -/
import Derived.Test.YtpllgonjhljjkaaIdxC1
import Derived.Test.YtpllgonjhljjkaaIdxP3
import Derived.Test.YtpllgonjhljjkaaOutsP
import Derived.Deep.RegionHeld3
namespace Go.Proofs.Ytpllgonjhljjkaa
open Go.RowKit

/-- What Clusters hands back. -/
def ClusGives (w : World) (a b : List Int) (l : List Cl) (e : Ending) (w' : World) : Prop :=
  (checkC l a.length b.length = false ∧ e = .returned (.tuple #[.slice none 0 0, .int .i64 13]) ∧ Below w.heap.size w w') ∨
  (checkC l a.length b.length = true ∧ ∃ v, e = .returned (.tuple #[v, .int .i64 0]) ∧ w'.ownsRow w.heap.size 50 4 v l.length (cellsC (l.map (clU a b))) ∧ Below w.heap.size w w')

theorem cl_nat {l : List Cl} {n m : Int} (h : checkC l n m = true) {k : Nat} {c : Cl} (hk : l[k]? = some c) : ∃ p q r s : Nat, c = (((p : Int), (q : Int)), ((r : Int), (s : Int))) ∧ p < q ∧ (q : Int) ≤ n ∧ r < s ∧ (s : Int) ≤ m := by
  obtain ⟨h1, h2⟩ := check_bd h c (List.mem_of_getElem? hk)
  obtain ⟨⟨a, b⟩, d, e⟩ := c
  simp only at h1 h2
  refine ⟨a.toNat, b.toNat, d.toNat, e.toNat, ?_, by omega, by omega, by omega, by omega⟩
  rw [Int.toNat_of_nonneg (by omega), Int.toNat_of_nonneg (by omega), Int.toNat_of_nonneg (by omega), Int.toNat_of_nonneg (by omega)]

set_option maxRecDepth 100000 in
set_option maxHeartbeats 4000000 in
theorem refClusters_any (A : Option Addr) (n c x y : Nat) (l : List Cl) (a b : List Int) (w : World) (hr : Rd w 4 A n (cellsC l)) (hn : n ≤ 1000000) (ha : Good a) (hb : Good b) (hx : IdrAt w x a) (hy : IdrAt w y b) :
    Calls Try.prog 28 #[.pointer (some ⟨x, 0, none⟩), .slice A n c, .pointer (some ⟨y, 0, none⟩)] w (ClusGives w a b l) := by
  have hlen : l.length = n := by have := hr.1; rw [cellsC_len] at this; omega
  have HL := Lib.hid hlen
  have HGA := Lib.hid ha
  have HGB := Lib.hid hb
  have HX := Lib.hid hx
  have HY := Lib.hid hy
  have hla := good_len ha
  have hlb := good_len hb
  clear hlen ha hb hx hy
  have CC := refCheckC_any A n c l a.length b.length w hr hn
  cases hc : checkC l a.length b.length with
  | false =>
    rw [hc] at CC
    have HCC := Lib.hid CC
    have HC := Lib.hid hc
    clear CC hc
    go_enter Try.func28, Try.ntmps28
    go_wp2_with fail
    refine (refCodesX_any x a _ HX.out).mono ?_
    rintro e w' ⟨rfl, rfl⟩
    go_wp2_with fail
    refine (refCodesX_any y b _ HY.out).mono ?_
    rintro e w' ⟨rfl, rfl⟩
    go_wp2_with fail
    refine HCC.out.mono ?_
    rintro e w1 ⟨rfl, hb1⟩
    go_wp2
    go_ret2
    exact .inl ⟨HC.out, rfl, hb1⟩
  | true =>
    rw [hc] at CC
    have HCC := Lib.hid CC
    have HC := Lib.hid hc
    clear CC hc
    go_enter Try.func28, Try.ntmps28
    go_wp2_with fail
    refine (refCodesX_any x a _ HX.out).mono ?_
    rintro e w' ⟨rfl, rfl⟩
    go_wp2_with fail
    refine (refCodesX_any y b _ HY.out).mono ?_
    rintro e w' ⟨rfl, rfl⟩
    go_wp2_with fail
    refine HCC.out.mono ?_
    rintro e w1 ⟨rfl, hb1⟩
    go_wp2_with fail
    go_loopw [8, 9] (fun v i wr => ∃ k : Nat, k ≤ n ∧ i = .int .i64 k ∧ wr.ownsRow w.heap.size 50 4 v k (cellsC ((l.map (clU a b)).take k)) ∧ Below w.heap.size w wr) (fun _ i _ => n - (intOf i).toNat)
    case atStart => exact ⟨0, Nat.zero_le _, rfl, ⟨rfl, .inl ⟨rfl, rfl⟩⟩, hb1⟩
    case round =>
      obtain ⟨k, hk, rfl, hown, hbr⟩ := hrel
      by_cases hlt : k < n
      · obtain ⟨s, hsk⟩ : ∃ s, l[k]? = some s := ⟨_, List.getElem?_eq_getElem (by rw [HL.out]; exact hlt)⟩
        obtain ⟨ad, rfl, hab, c1, c2, c3, c4⟩ := hr.clus hsk
        obtain ⟨p, q, r, t, rfl, h1, h2, h3, h4⟩ := cl_nat HC.out hsk
        have HT := Lib.hid (show cellsC ((l.map (clU a b)).take (k + 1)) = cellsC ((l.map (clU a b)).take k) ++ [.int .i64 (pre a p), .int .i64 (pre a q), .int .i64 (pre b r), .int .i64 (pre b t)] by
          rw [List.take_add_one, List.getElem?_map, hsk]
          simp [cellsC, encC, clU, spU])
        clear hsk
        simp only at c1 c2 c3 c4
        have hsz := hbr.size
        have hql : q ≤ a.length := by omega
        have htl : t ≤ b.length := by omega
        have HXR := Lib.hid (HX.out.below hbr)
        have HYR := Lib.hid (HY.out.below hbr)
        have HXD := Lib.hid (show IdrAt wr.drew x a from HXR.out)
        have HKB := Lib.hid (show ∀ w', Below w.heap.size w w' → w'.cell? (ad.add (k * 4)) = some (.int .i64 p) ∧ w'.cell? ⟨(ad.add (k * 4)).block, (ad.add (k * 4)).off + 1, none⟩ = some (.int .i64 q) ∧ w'.cell? ⟨(ad.add (k * 4)).block, (ad.add (k * 4)).off + 2, none⟩ = some (.int .i64 r) ∧ w'.cell? ⟨(ad.add (k * 4)).block, (ad.add (k * 4)).off + 3, none⟩ = some (.int .i64 t) from
          fun w' h => ⟨cell_below h c1, cell_below h c2, cell_below h c3, cell_below h c4⟩)
        clear c1 c2 c3 c4
        go_wp2
        go_region_held3 (fun w' => w'.cell? (ad.add (k * 4)) = some (.int .i64 p) ∧ w'.cell? ⟨(ad.add (k * 4)).block, (ad.add (k * 4)).off + 1, none⟩ = some (.int .i64 q) ∧ w'.cell? ⟨(ad.add (k * 4)).block, (ad.add (k * 4)).off + 2, none⟩ = some (.int .i64 r) ∧ w'.cell? ⟨(ad.add (k * 4)).block, (ad.add (k * 4)).off + 3, none⟩ = some (.int .i64 t))
          (first
            | exact HKB.out _ hbr
            | exact HKB.out _ hbr.drew
            | exact HKB.out _ (hbr.trans (hbA.mono hsz))
            | exact HKB.out _ (hbr.trans (hbB.mono hsz))
            | exact HKB.out _ ((hbr.trans (hbB.mono hsz)).alloc (Nat.le_trans hsz hbB.size) (.cells #[.int .i64 (pre a p), .int .i64 (pre a q), .int .i64 (pre b r), .int .i64 (pre b t)] 50))
            | exact HKB.out _ hbC
            | fail)
          (first
            | (go_at_call 54; (with_reducible refine (refUnitsOf_any y b w3 r t HGB.out (HYR.out.below hbA) h3 htl).mono ?_); rintro e w4 ⟨rfl, hb4⟩; have hbB := below_self hbA hb4)
            | (go_at_call 54; (with_reducible refine (refUnitsOf_any x a wr.drew p q HGA.out HXD.out h1 hql).mono ?_); rintro e w3 ⟨rfl, hb3⟩; have hbA := below_of_drew hb3)
            | (refine step_appR rfl _ _ _ rfl clusSlice (by decide) u8 k _ rfl ((own_below hown hbB).alloc (.cells #[.int .i64 (pre a p), .int .i64 (pre a q), .int .i64 (pre b r), .int .i64 (pre b t)] 50)) _ 1 1 [.int .i64 (pre a p), .int .i64 (pre a q), .int .i64 (pre b r), .int .i64 (pre b t)] rfl (rd_blk 4 (heap_alloc_new w4 (.cells #[.int .i64 (pre a p), .int .i64 (pre a q), .int .i64 (pre b r), .int .i64 (pre b t)] 50)) rfl) (oneInt4 _ _ _ _ _) (by omega) (by unfold maxLen; omega) (Nat.le_trans hsz (Nat.le_trans hbB.size (by simp))) _ rfl ?_; intro v1 w5 hown5 hgr5 hat5; have hbC := ((hbr.trans (hbB.mono hsz)).alloc (Nat.le_trans hsz hbB.size) (.cells #[.int .i64 (pre a p), .int .i64 (pre a q), .int .i64 (pre b r), .int .i64 (pre b t)] 50)).grown hgr5 (Nat.le_trans hsz (Nat.le_trans hbB.size (by simp))) (fun k h => (hown.lt k h).1))
            | fail)
        clear hat5
        go_wp2
        go_roundw
        case rel => exact ⟨k + 1, by omega, by go_num, by rw [HT.out]; exact hown5, hbC⟩
        case measure => simp [intOf]; omega
      · obtain rfl : k = n := by omega
        have HT := Lib.hid (show (l.map (clU a b)).take k = l.map (clU a b) by rw [List.take_of_length_le (by rw [List.length_map, HL.out]; omega)])
        rw [HT.out] at hown
        go_wp2
        go_ret2
        exact .inr ⟨HC.out, _, rfl, by rw [HL.out]; exact hown, hbr⟩
end Go.Proofs.Ytpllgonjhljjkaa
