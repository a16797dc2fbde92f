/- Texts of one claim, one behind the other. -/
import Derived.Test.YtnmefomipldalaaMgTu6
import Derived.Test.YtnmefomipldalaaMgTu10
import Derived.Test.YtnmefomipldalaaMgTu14
/- cluster's Finest, walked: the sides, each link, the clusters. -/
namespace Go.Proofs.Ytnmefomipldalaa
open Go.RowKit

theorem forest0 (n : Nat) : Forest n (List.range n) id := ⟨List.length_range .., fun i a h => by
  rw [List.getElem?_range (by have := (List.getElem?_eq_some_iff.1 h).1; simpa using this)] at h
  obtain rfl := Option.some.inj h
  exact ⟨Nat.le_refl _, rfl, by simp⟩⟩
theorem sd_new {w W : World} {n b : Nat} (h : SideNew w W n b) : ∃ B : Blk, B.b = b ∧ SdAt W B n sd0 ∧ (w.heap.size ≤ B.b ∧ w.heap.size ≤ B.gA ∧ w.heap.size ≤ B.gE ∧ w.heap.size ≤ B.mB) ∧ Kept w W [] := by
  obtain ⟨gA, gE, m, h1, h2, h3, h4, h5, h6, h7, h8, h9, h10, h11⟩ := h
  refine ⟨⟨b, gA, gE, m⟩, rfl, ⟨⟨_, _, h1, forest0 n, fun i _ hi => ?_⟩, h2, MapAt.none_ h3 n, Part.start n, h8, h9, h10⟩, ⟨h4, h5, h6, h7⟩, h11⟩
  simp [sd0, hi]
/-- A cluster as a link in natural numbers. -/
def ncOf (c : Cl) : NC := ⟨c.1.1.toNat, c.1.2.toNat, c.2.1.toNat, c.2.2.toNat⟩
theorem fitC_nat {n m : Nat} {c : Cl} (h : fitC (n : Int) (m : Int) c = true) : c = (ncOf c).cl ∧ (ncOf c).real ∧ (ncOf c).b ≤ n ∧ (ncOf c).d ≤ m := by
  obtain ⟨⟨x1, x2⟩, ⟨x3, x4⟩⟩ := c
  unfold fitC rightB at h
  simp at h
  obtain ⟨⟨⟨h1, h2⟩, h3⟩, ⟨⟨h4, h5⟩, h6⟩⟩ := h
  unfold ncOf NC.cl NC.real
  simp only [Prod.mk.injEq]
  omega
set_option maxRecDepth 100000 in
set_option maxHeartbeats 2000000 in
theorem prFinest_ok (n m q c : Nat) (A : Option Addr) (l : List Cl) (w : World) (hr : Rd w 4 A q (cellsC l)) (hq : q ≤ 1000000) (hfit : fitB (n : Int) (m : Int) l = true) (hm : m ≠ 0) (hn0 : n ≠ 0) (hcov : ∀ l', List.Perm l' (l.map Prod.snd) → LoSorted l' → covB (m : Int) l' = true) (hne : l ≠ []) :
    Calls Try.prog 16 #[.int .i64 (n : Int), .int .i64 (m : Int), .slice A q c] w fun e w' => ∃ v l', e = .returned (.tuple #[v, .int .i64 0]) ∧ Finest (l.map ncOf ++ fillsOf n (l.map ncOf)) 0 n m l' ∧ w'.ownsRow w.heap.size 33 4 v l'.length (cellsC (l'.map NC.cl)) ∧ Below w.heap.size w w' := by
  have hlen : l.length = q := by have := hr.1; rw [cellsC_len] at this; omega
  have HL := Lib.hid hlen
  have hN : fitN (n : Int) (m : Int) = true := by unfold fitB at hfit; simp at hfit; exact hfit.1
  have hall : ∀ x ∈ l, fitC (n : Int) (m : Int) x = true := by unfold fitB at hfit; simp at hfit; exact fun x hx => hfit.2 _ _ _ _ hx
  have hnm : n ≤ 16777216 ∧ m ≤ 16777216 := by unfold fitN at hN; simp at hN; omega
  have HALL := Lib.hid hall
  have HFIT := Lib.hid hfit
  have HCOV := Lib.hid hcov
  have HNE := Lib.hid hne
  have HR := Lib.hid hr
  clear hall hfit hcov hN hlen hne
  obtain ⟨n1, n2⟩ := hnm
  go_enter Try.func16, Try.ntmps16
  go_wp2_with fail
  refine (fit_any n m A q c l w hr (by unfold maxLen; omega)).mono ?_
  rintro e w1 ⟨rfl, hb1⟩
  rw [HFIT.out]
  go_wp2_with fail
  refine (covered_any m A q c l w1 (HR.out.below hb1) hq).mono ?_
  rintro e w2 ⟨l', hp, hs, rfl, hb2⟩
  rw [HCOV.out l' hp hs]
  clear hp hs hr
  have hb3 := hb1.trans (hb2.mono hb1.size)
  go_wp2_with fail
  refine (newSide_any n q (by omega) (by omega) w2).mono ?_
  rintro e w3 ⟨b1, rfl, hs1⟩
  obtain ⟨B1, rfl, hA, ⟨la, lb, lc, ld⟩, hk1⟩ := sd_new hs1
  clear hs1
  go_wp2_with fail
  refine (newSide_any m q (by omega) (by omega) w3).mono ?_
  rintro e w4 ⟨b2, rfl, hs2⟩
  obtain ⟨B2, rfl, hB, ⟨l5, l6, l7, l8⟩, hk2⟩ := sd_new hs2
  clear hs2
  have hA4 := hA.old hk2
  obtain ⟨a1, a2, a3, a4⟩ := hA.lt
  have hap : BlkApart B1 B2 := ⟨by simp [Blk.wr]; omega, by simp [Blk.wr]; omega⟩
  have HAP := Lib.hid hap
  have hD : LkDone (l.map ncOf ++ fillsOf n (l.map ncOf)) w4 w4 B1 B2 n m (fun _ _ _ _ => False) sd0 sd0 := ⟨both0 n m, sound0 _ _ _, sound0 _ _ _, fun _ _ _ _ h => h.elim, hA4, hB, Kept.refl _ _⟩
  have HD := Lib.hid hD
  have hkk : Kept w w4 [] := (Kept.of_below hb3 []).trans (hk1.trans hk2)
  have HKK := Lib.hid hkk
  have s3 := hb3.size
  have s4 := hk1.size
  have HLO := Lib.hid (show ∀ x ∈ B1.wr ++ B2.wr, w.heap.size ≤ x from fun x hx => by simp [Blk.wr] at hx; omega)
  clear hD hap hA hB hA4 hk1 hk2 hkk
  go_wp2_with fail
  go_loopw [46] (fun i wr => ∃ (k : Nat) (A B : Sd), k ≤ q ∧ i = .int .i64 (k : Int) ∧ LkDone (l.map ncOf ++ fillsOf n (l.map ncOf)) w4 wr B1 B2 n m (fun a b c d => ∃ j x, j < k ∧ l[j]? = some x ∧ ncOf x = ⟨a, b, c, d⟩) A B) (fun i _ => q - (intOf i).toNat)
  case atStart => exact ⟨0, sd0, sd0, Nat.zero_le _, rfl, ⟨HD.out.both, HD.out.sA, HD.out.sB, fun a b c d ⟨j, x, hj, _⟩ => absurd hj (Nat.not_lt_zero _), HD.out.atA, HD.out.atB, HD.out.kept⟩⟩
  case round =>
    obtain ⟨k, A', B', hk, rfl, hD'⟩ := hrel
    have hk9 := (HKK.out.more (T := B1.wr ++ B2.wr) (fun _ h => absurd h (by simp))).trans hD'.kept
    have hbw : Below w.heap.size w wr := ⟨hk9.os, hk9.tape, hk9.output, hk9.size, fun i hi => hk9.block i hi (fun hm => by have := HLO.out i hm; omega)⟩
    clear hk9
    have HD2 := Lib.hid hD'
    by_cases hlt : k < q
    · obtain ⟨x, hx⟩ : ∃ x, l[k]? = some x := ⟨_, List.getElem?_eq_getElem (by rw [HL.out]; exact hlt)⟩
      obtain ⟨ad, rfl, hab, c0, c1, c2, c3⟩ := (HR.out.below hbw).clus hx
      obtain ⟨e1, e2, e3, e4⟩ := fitC_nat (HALL.out x (List.mem_of_getElem? hx))
      have HX := Lib.hid hx
      have hmem : ncOf x ∈ l.map ncOf ++ fillsOf n (l.map ncOf) := List.mem_append_left _ (List.mem_map_of_mem (List.mem_of_getElem? hx))
      obtain ⟨y, hy⟩ : ∃ y, ncOf x = y := ⟨_, rfl⟩
      rw [hy] at e1 e2 e3 e4 hmem
      rw [e1] at c0 c1 c2 c3
      obtain ⟨a, b, cc, d⟩ := y
      obtain ⟨e5, e6⟩ := e2
      simp only [NC.cl] at c0 c1 c2 c3 e5 e6 e3 e4
      have HY := Lib.hid hy
      have hal : Kept wr (wr.alloc (.cells #[.int .i64 (a : Int), .int .i64 (b : Int), .int .i64 (cc : Int), .int .i64 (d : Int)] 33)) [] := Kept.of_below (below_new wr _) []
      have HLK := Lib.hid (link_any B1 B2 n m a b cc d A' B' _ _ (by omega) (by omega) e5 e3 e6 e4 hmem hD'.both hD'.sA hD'.sB hD'.lies HAP.out _ (hD'.atA.old hal) (hD'.atB.old hal))
      have HAL := Lib.hid hal
      clear hal hmem e1 hx hy hD' hbw
      go_wp2_with fail
      refine HLK.out.mono ?_
      rintro e w5 ⟨rfl, A2, B2', hD3⟩
      go_wp2_with fail
      go_roundw
      case rel =>
        refine ⟨k + 1, A2, B2', by omega, by go_num, ⟨hD3.both, hD3.sA, hD3.sB, fun a' b' c' d' hh => ?_, hD3.atA, hD3.atB, (HD2.out.kept.trans (HAL.out.more (fun _ h => absurd h (by simp)))).trans hD3.kept⟩⟩
        obtain ⟨j, x', hj, hx', hn'⟩ := hh
        apply hD3.lies
        by_cases hjk : j = k
        · right
          subst hjk
          rw [HX.out] at hx'
          obtain rfl := Option.some.inj hx'
          rw [HY.out] at hn'
          injection hn' with q1 q2 q3 q4
          exact ⟨q1.symm, q2.symm, q3.symm, q4.symm⟩
        · exact .inl ⟨j, x', by omega, hx', hn'⟩
      case measure => simp [intOf]; omega
    · have hkq : k = q := by omega
      have hK : ∀ x ∈ l.map ncOf, x.real ∧ x.b ≤ n ∧ x.d ≤ m := fun x hx => by
        obtain ⟨z, hz, rfl⟩ := List.mem_map.1 hx
        exact (fitC_nat (HALL.out z hz)).2
      have hfin := finest_end hK (fun h => HNE.out (List.map_eq_nil_iff.1 h)) hD'.both hD'.sA (fun x hx => by
        obtain ⟨z, hz, rfl⟩ := List.mem_map.1 hx
        obtain ⟨j, hj⟩ := List.getElem?_of_mem hz
        exact hD'.lies _ _ _ _ ⟨j, z, by rw [hkq, ← HL.out]; exact (List.getElem?_eq_some_iff.1 hj).1, hj, rfl⟩)
      have HFIN := Lib.hid hfin
      have HB := Lib.hid hbw
      have HCL := Lib.hid (clusters_any B1 n m A' (by omega) hD'.both.okA wr hD'.atA)
      clear hD' hK hfin hbw
      go_wp2_with fail
      refine HCL.out.mono ?_
      rintro e w5 ⟨v, rfl, hown, hb5⟩
      have hb6 := HB.out.trans (hb5.mono HB.out.size)
      go_wp2_with fail
      exact bodyPost_ret (v := .tuple #[v, .int .i64 0]) (by simp [results, go_sem]) rfl ⟨v, _, rfl, HFIN.out, own_base hown HB.out.size, hb6⟩
end Go.Proofs.Ytnmefomipldalaa
/- cluster's Finest of nothing, walked. -/
namespace Go.Proofs.Ytnmefomipldalaa
open Go.RowKit

set_option maxRecDepth 100000 in
set_option maxHeartbeats 1000000 in
theorem prFinest_zero (c : Nat) (A : Option Addr) (w : World) :
    Calls Try.prog 16 #[.int .i64 0, .int .i64 0, .slice A 0 c] w fun e w' => ∃ v, e = .returned (.tuple #[v, .int .i64 0]) ∧ w'.ownsRow w.heap.size 33 4 v 0 [] ∧ Below w.heap.size w w' := by
  have HR := Lib.hid (show ∀ W, Rd W 4 A 0 (cellsC []) from fun W => Rd.nil_)
  go_enter Try.func16, Try.ntmps16
  go_wp2_with fail
  refine (fit_any 0 0 A 0 c [] w (HR.out _) (by unfold maxLen; omega)).mono ?_
  rintro e w1 ⟨rfl, hb1⟩
  rw [show fitB 0 0 [] = true from rfl]
  go_wp2_with fail
  refine (covered_any 0 A 0 c [] w1 (HR.out _) (by omega)).mono ?_
  rintro e w2 ⟨l', hp, hs, rfl, hb2⟩
  have hl' : l' = [] := List.perm_nil.1 hp
  rw [hl', show covB 0 [] = true from rfl]
  clear hp hs hl'
  have hb3 := hb1.trans (hb2.mono hb1.size)
  go_wp2_with fail
  refine (newSide_any 0 0 (by omega) (by omega) w2).mono ?_
  rintro e w3 ⟨b1, rfl, hs1⟩
  obtain ⟨B1, rfl, hA, ⟨la, lb, lc, ld⟩, hk1⟩ := sd_new hs1
  clear hs1
  go_wp2_with fail
  refine (newSide_any 0 0 (by omega) (by omega) w3).mono ?_
  rintro e w4 ⟨b2, rfl, hs2⟩
  obtain ⟨B2, rfl, hB, _, hk2⟩ := sd_new hs2
  clear hs2
  have hA4 := hA.old hk2
  have hkk : Kept w w4 [] := (Kept.of_below hb3 []).trans (hk1.trans hk2)
  have hbw : Below w.heap.size w w4 := ⟨hkk.os, hkk.tape, hkk.output, hkk.size, fun i hi => hkk.block i hi (by simp)⟩
  have HCL := Lib.hid (clusters_any B1 0 0 sd0 (by omega) (ok0 0 0) w4 hA4)
  have HB := Lib.hid hbw
  clear hA hB hA4 hk1 hk2 hkk hbw
  go_wp2_with fail
  refine wp_loop_rounds 1 ?_
  rw [rounds_succ]
  go_wp2_with fail
  refine HCL.out.mono ?_
  rintro e w5 ⟨v, rfl, hown, hb5⟩
  have hb6 := HB.out.trans (hb5.mono HB.out.size)
  go_wp2_with fail
  exact bodyPost_ret (v := .tuple #[v, .int .i64 0]) (by simp [results, go_sem]) rfl ⟨v, rfl, own_base hown HB.out.size, hb6⟩
end Go.Proofs.Ytnmefomipldalaa
