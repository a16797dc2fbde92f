/- The project's Clusters of an index. -/
import Derived.Test.YtpllgonjhljjkaaIdxC2
namespace Go.Proofs.Ytpllgonjhljjkaa
open Go.RowKit

set_option maxRecDepth 100000 in
theorem prClusters_nil (A : Option Addr) (n c x : Nat) (a : List Int) (w : World) (hx : IdxAt w x a) :
    Calls Try.prog 27 #[.pointer (some ⟨x, 0, none⟩), .slice A n c, .pointer none] w fun e w' => e = .returned (.tuple #[.slice none 0 0, .int .i64 1]) ∧ w = w' := by
  have HX := Lib.hid hx
  clear hx
  go_enter Try.func27, Try.ntmps27
  go_wp2_with fail
  refine (prMade_any x a _ HX.out).mono ?_
  rintro e w' ⟨rfl, rfl⟩
  go_wp2
  go_ret2
  exact ⟨rfl, rfl⟩

set_option maxRecDepth 100000 in
set_option maxHeartbeats 4000000 in
theorem prClusters_any (A : Option Addr) (n c x y : Nat) (l : List Cl) (a b : List Int) (w : World) (hr : Rd w 4 A n (cellsC l)) (hn : n ≤ 1000000) (ha : Good a) (hb : Good b) (hx : IdxAt w x a) (hy : IdxAt w y b) :
    Calls Try.prog 27 #[.pointer (some ⟨x, 0, none⟩), .slice A n c, .pointer (some ⟨y, 0, none⟩)] w (ClusGives w a b l) := by
  have hlen : l.length = n := by have := hr.1; rw [cellsC_len] at this; omega
  have hlm : (l.map (clU a b)).length = n := by simpa using hlen
  have HL := Lib.hid hlen
  have HM := Lib.hid hlm
  have HGA := Lib.hid ha
  have HGB := Lib.hid hb
  have HX := Lib.hid hx
  have HY := Lib.hid hy
  have HR := Lib.hid hr
  have hla := good_len ha
  have hlb := good_len hb
  clear hlen hlm ha hb hx hy
  have CC := prCheckC_any A n c l a.length b.length w hr hn
  cases hc : checkC l a.length b.length with
  | false =>
    rw [hc] at CC
    have HCC := Lib.hid CC
    have HC := Lib.hid hc
    clear CC hc
    go_enter Try.func27, Try.ntmps27
    go_wp2_with fail
    refine (prMade_any x a _ HX.out).mono ?_
    rintro e w' ⟨rfl, rfl⟩
    go_wp2_with fail
    refine (prCodes_any x a _ HGA.out HX.out).mono ?_
    rintro e w' ⟨rfl, rfl⟩
    go_wp2_with fail
    refine (prCodes_any y b _ HGB.out HY.out).mono ?_
    rintro e w' ⟨rfl, rfl⟩
    go_wp2_with fail
    refine HCC.out.mono ?_
    rintro e w1 ⟨rfl, hb1⟩
    go_wp2
    go_ret2
    exact .inl ⟨HC.out, rfl, hb1⟩
  | true =>
    rw [hc] at CC
    have HCC := Lib.hid CC
    have HC := Lib.hid hc
    clear CC hc
    go_enter Try.func27, Try.ntmps27
    go_wp2_with fail
    refine (prMade_any x a _ HX.out).mono ?_
    rintro e w' ⟨rfl, rfl⟩
    go_wp2_with fail
    refine (prCodes_any x a _ HGA.out HX.out).mono ?_
    rintro e w' ⟨rfl, rfl⟩
    go_wp2_with fail
    refine (prCodes_any y b _ HGB.out HY.out).mono ?_
    rintro e w' ⟨rfl, rfl⟩
    go_wp2_with fail
    refine HCC.out.mono ?_
    rintro e w1 ⟨rfl, hb1⟩
    go_wp2_with (at_make; refine wpList_mkZ rfl _ _ _ rfl Try.underlying44 clusInfo (z0 := .int .i64 0) (by decide) (by intro j hj; match j, hj with | 0, _ => rfl | 1, _ => rfl | 2, _ => rfl | 3, _ => rfl) (base := w.heap.size) (kl := .i64) (kc := .i64) n n n rfl rfl rfl rfl (by omega) (by unfold maxLen; omega) hb1.size ?_; intro w2 hown hg2)
    have hb2 := hb1.trans ((below_make (w := w1) (w' := w2) hg2).mono hb1.size)
    have HO := Lib.hid (show w2.ownsRow w.heap.size 50 4 (.slice (some ⟨w1.heap.size, 0, none⟩) n n) n (fillC (l.map (clU a b)) 0) by rw [fillC_start, HM.out]; exact hown)
    have hg1 : w.heap.size ≤ w1.heap.size := hb1.size
    have hg12 : w1.heap.size < w2.heap.size := (hown.lt _ rfl).2
    clear hown hg2
    go_loopw [30] (fun i wr => ∃ k : Nat, k ≤ n ∧ i = .int .i64 k ∧ wr.ownsRow w.heap.size 50 4 (.slice (some ⟨w1.heap.size, 0, none⟩) n n) n (fillC (l.map (clU a b)) k) ∧ Below w.heap.size w wr) (fun i _ => n - (intOf i).toNat)
    case atStart => exact ⟨0, Nat.zero_le _, rfl, HO.out, hb2⟩
    case round =>
      obtain ⟨k, hk, rfl, hown, hbr⟩ := hrel
      clear HO
      by_cases hlt : k < n
      · obtain ⟨s, hsk⟩ : ∃ s, l[k]? = some s := ⟨_, List.getElem?_eq_getElem (by rw [HL.out]; exact hlt)⟩
        obtain ⟨ad, rfl, hab, c1, c2, c3, c4⟩ := (HR.out.below hbr).clus hsk
        obtain ⟨p, q, r, t, rfl, h1, h2, h3, h4⟩ := cl_nat HC.out hsk
        have HT := Lib.hid (fillC_step (l := l.map (clU a b)) (k := k) (s := ((pre a p, pre a q), (pre b r, pre b t))) (by rw [List.getElem?_map, hsk]; simp [clU, spU]))
        clear hsk
        simp only at c1 c2 c3 c4
        have hsz := hbr.size
        have hql : q ≤ a.length := by omega
        have htl : t ≤ b.length := by omega
        have hbo := hbr.alloc hsz (.cells #[.int .i64 p, .int .i64 q, .int .i64 r, .int .i64 t] 50)
        have HXR := Lib.hid (HX.out.below hbo)
        have HYR := Lib.hid (HY.out.below hbo)
        have hox := hown.alloc (.cells #[.int .i64 p, .int .i64 q, .int .i64 r, .int .i64 t] 50)
        have hgw : w1.heap.size < wr.heap.size := (hown.lt _ rfl).2
        have f0 : (wr.alloc (.cells #[.int .i64 p, .int .i64 q, .int .i64 r, .int .i64 t] 50)).cell? ⟨wr.heap.size, 0, none⟩ = some (.int .i64 p) := by go_simp
        have f1 : (wr.alloc (.cells #[.int .i64 p, .int .i64 q, .int .i64 r, .int .i64 t] 50)).cell? ⟨wr.heap.size, 1, none⟩ = some (.int .i64 q) := by go_simp
        have f2 : (wr.alloc (.cells #[.int .i64 p, .int .i64 q, .int .i64 r, .int .i64 t] 50)).cell? ⟨wr.heap.size, 2, none⟩ = some (.int .i64 r) := by go_simp
        have f3 : (wr.alloc (.cells #[.int .i64 p, .int .i64 q, .int .i64 r, .int .i64 t] 50)).cell? ⟨wr.heap.size, 3, none⟩ = some (.int .i64 t) := by go_simp
        have hgo : w1.heap.size ≠ wr.heap.size := by omega
        have hbz : w.heap.size ≤ (wr.alloc (.cells #[.int .i64 p, .int .i64 q, .int .i64 r, .int .i64 t] 50)).heap.size := hbo.size
        have HKB := Lib.hid (show ∀ w', (wr.alloc (.cells #[.int .i64 p, .int .i64 q, .int .i64 r, .int .i64 t] 50)).grownBy w' (some w1.heap.size) → w'.cell? ⟨wr.heap.size, 0, none⟩ = some (.int .i64 p) ∧ w'.cell? ⟨wr.heap.size, 1, none⟩ = some (.int .i64 q) ∧ w'.cell? ⟨wr.heap.size, 2, none⟩ = some (.int .i64 r) ∧ w'.cell? ⟨wr.heap.size, 3, none⟩ = some (.int .i64 t) from
          fun w' h => ⟨h.cell f0 (by simp; omega), h.cell f1 (by simp; omega), h.cell f2 (by simp; omega), h.cell f3 (by simp; omega)⟩)
        have HXD := Lib.hid (show IdxAt (wr.alloc (.cells #[.int .i64 p, .int .i64 q, .int .i64 r, .int .i64 t] 50)).drew x a from HXR.out)
        clear hgw hg12 hsz hbr hown
        go_wp2
        clear f0 f1 f2 f3 c1 c2 c3 c4
        go_region_held3 (fun w' => w'.cell? ⟨wr.heap.size, 0, none⟩ = some (.int .i64 p) ∧ w'.cell? ⟨wr.heap.size, 1, none⟩ = some (.int .i64 q) ∧ w'.cell? ⟨wr.heap.size, 2, none⟩ = some (.int .i64 r) ∧ w'.cell? ⟨wr.heap.size, 3, none⟩ = some (.int .i64 t))
          (first
            | exact HKB.out _ (World.grownBy.refl _ _)
            | exact HKB.out _ (grown_of_below' _ (Below.refl _ _).drew)
            | exact HKB.out _ (grown_of_below' _ hbA)
            | exact HKB.out _ (grown_of_below' _ hbB)
            | exact HKB.out _ (grown_set (grown_set (grown_set (grown_set (grown_of_below' _ hbB) _ _) _ _) _ _) _ _)
            | fail)
          (first
            | (go_at_call 47; (with_reducible refine (prStretch_any y b w3 r t HGB.out (HYR.out.below hbA) (by omega) htl).mono ?_); rintro e w4 ⟨rfl, hb4⟩; have hbB := below_self hbA hb4; have hoB := own_below hox hbB; obtain ⟨⟨v0, x0⟩, z0⟩ := own_slot hoB (j := k * 4) (by omega); obtain ⟨⟨v1, x1⟩, z1⟩ := own_slot hoB (j := k * 4 + 1) (by omega); obtain ⟨⟨v2, x2⟩, z2⟩ := own_slot hoB (j := k * 4 + 2) (by omega); obtain ⟨⟨v3, x3⟩, z3⟩ := own_slot hoB (j := k * 4 + 3) (by omega))
            | (go_at_call 47; (with_reducible refine (prStretch_any x a (wr.alloc (.cells #[.int .i64 p, .int .i64 q, .int .i64 r, .int .i64 t] 50)).drew p q HGA.out HXD.out (by omega) hql).mono ?_); rintro e w3 ⟨rfl, hb3⟩; have hbA := below_of_drew hb3)
            | fail)
        have HS := Lib.hid (own_store4 hoB (k * 4) (.int .i64 (pre a p)) (.int .i64 (pre a q)) (.int .i64 (pre b r)) (.int .i64 (pre b t)))
        have hbe := ((((hbo.trans (hbB.mono hbz)).setCell (p := ⟨w1.heap.size, k * 4, none⟩) hg1 (.int .i64 (pre a p))).setCell (p := ⟨w1.heap.size, k * 4 + 1, none⟩) hg1 (.int .i64 (pre a q))).setCell (p := ⟨w1.heap.size, k * 4 + 2, none⟩) hg1 (.int .i64 (pre b r))).setCell (p := ⟨w1.heap.size, k * 4 + 3, none⟩) hg1 (.int .i64 (pre b t))
        clear x0 x1 x2 x3 z0 z1 z2 z3
        go_wp2
        go_roundw
        case rel => exact ⟨k + 1, by omega, by go_num, by rw [← HT.out]; exact HS.out, hbe⟩
        case measure => simp [intOf]; omega
      · obtain rfl : k = n := by omega
        have HT := Lib.hid (show fillC (l.map (clU a b)) k = cellsC (l.map (clU a b)) by rw [← HM.out, fillC_end])
        rw [HT.out] at hown
        go_wp2
        go_ret2
        exact .inr ⟨HC.out, _, rfl, by rw [HL.out]; exact hown, hbr⟩
end Go.Proofs.Ytpllgonjhljjkaa
