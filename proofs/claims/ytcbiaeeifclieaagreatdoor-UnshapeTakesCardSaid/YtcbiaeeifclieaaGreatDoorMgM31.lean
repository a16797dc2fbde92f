/- Texts of one claim, one behind the other. -/
import Derived.Test.YtcbiaeeifclieaaGreatDoorMgM13
import Derived.Test.YtcbiaeeifclieaaGreatDoorMgM15
import Derived.Test.YtcbiaeeifclieaaGreatDoorMgM29
/- cluster's Finest, walked: the sides, each link, the clusters. -/
namespace Go.Proofs.YtcbiaeeifclieaaGreatDoor
open Go.RowKit

theorem forest0 (n : Nat) : Forest n (List.range n) id := ⟨List.length_range .., fun i a h => by
  rw [List.getElem?_range (by have := (List.getElem?_eq_some_iff.1 h).1; simpa using this)] at h
  obtain rfl := Option.some.inj h
  exact ⟨Nat.le_refl _, rfl, by simp⟩⟩
theorem sd_new {w W : World} {n b : Nat} (h : SideNew w W n b) : ∃ B : Blk, B.b = b ∧ SdAt W B n sd0 ∧ (w.heap.size ≤ B.b ∧ w.heap.size ≤ B.gA ∧ w.heap.size ≤ B.gE ∧ w.heap.size ≤ B.mB) ∧ Kept w W [] := by
  obtain ⟨gA, gE, m, h1, h2, h3, h4, h5, h6, h7, h8, h9, h10, h11⟩ := h
  refine ⟨⟨b, gA, gE, m⟩, rfl, ⟨⟨_, _, h1, forest0 n, fun i _ hi => ?_⟩, h2, MapAt.none_ h3 n, Part.start n, h8, h9, h10⟩, ⟨h4, h5, h6, h7⟩, h11⟩
  simp [sd0, hi]
/-- A cluster as a link in natural numbers. -/
def ncOf (c : Cl) : NC := ⟨c.1.1.toNat, c.1.2.toNat, c.2.1.toNat, c.2.2.toNat⟩
theorem fitC_nat {n m : Nat} {c : Cl} (h : fitC (n : Int) (m : Int) c = true) : c = (ncOf c).cl ∧ (ncOf c).real ∧ (ncOf c).b ≤ n ∧ (ncOf c).d ≤ m := by
  obtain ⟨⟨x1, x2⟩, ⟨x3, x4⟩⟩ := c
  unfold fitC rightB at h
  simp at h
  obtain ⟨⟨⟨h1, h2⟩, h3⟩, ⟨⟨h4, h5⟩, h6⟩⟩ := h
  unfold ncOf NC.cl NC.real
  simp only [Prod.mk.injEq]
  omega
set_option maxRecDepth 100000 in
set_option maxHeartbeats 2000000 in
theorem prFinest_ok (n m q c : Nat) (A : Option Addr) (l : List Cl) (w : World) (hr : Rd w 4 A q (cellsC l)) (hq : q ≤ 1000000) (hfit : fitB (n : Int) (m : Int) l = true) (hm : m ≠ 0) (hn0 : n ≠ 0) (hcov : ∀ l', List.Perm l' (l.map Prod.snd) → LoSorted l' → covB (m : Int) l' = true) (hne : l ≠ []) :
    Calls Tryz.prog 43 #[.int .i64 (n : Int), .int .i64 (m : Int), .slice A q c] w fun e w' => ∃ v l', e = .returned (.tuple #[v, .int .i64 0]) ∧ Finest (l.map ncOf ++ fillsOf n (l.map ncOf)) 0 n m l' ∧ w'.ownsRow w.heap.size 41 4 v l'.length (cellsC (l'.map NC.cl)) ∧ Below w.heap.size w w' := by
  have hlen : l.length = q := by have := hr.1; rw [cellsC_len] at this; omega
  have HL := Lib.hid hlen
  have hN : fitN (n : Int) (m : Int) = true := by unfold fitB at hfit; simp at hfit; exact hfit.1
  have hall : ∀ x ∈ l, fitC (n : Int) (m : Int) x = true := by unfold fitB at hfit; simp at hfit; exact fun x hx => hfit.2 _ _ _ _ hx
  have hnm : n ≤ 16777216 ∧ m ≤ 16777216 := by unfold fitN at hN; simp at hN; omega
  have HALL := Lib.hid hall
  have HFIT := Lib.hid hfit
  have HCOV := Lib.hid hcov
  have HNE := Lib.hid hne
  have HR := Lib.hid hr
  clear hall hfit hcov hN hlen hne
  obtain ⟨n1, n2⟩ := hnm
  go_enter Tryz.func43, Tryz.ntmps43
  go_wp2_with fail
  refine (fit_any n m A q c l w hr (by unfold maxLen; omega)).mono ?_
  rintro e w1 ⟨rfl, hb1⟩
  rw [HFIT.out]
  go_wp2_with fail
  refine (covered_any m A q c l w1 (HR.out.below hb1) hq).mono ?_
  rintro e w2 ⟨l', hp, hs, rfl, hb2⟩
  rw [HCOV.out l' hp hs]
  clear hp hs hr
  have hb3 := hb1.trans (hb2.mono hb1.size)
  go_wp2_with fail
  refine (newSide_any n q (by omega) (by omega) w2).mono ?_
  rintro e w3 ⟨b1, rfl, hs1⟩
  obtain ⟨B1, rfl, hA, ⟨la, lb, lc, ld⟩, hk1⟩ := sd_new hs1
  clear hs1
  go_wp2_with fail
  refine (newSide_any m q (by omega) (by omega) w3).mono ?_
  rintro e w4 ⟨b2, rfl, hs2⟩
  obtain ⟨B2, rfl, hB, ⟨l5, l6, l7, l8⟩, hk2⟩ := sd_new hs2
  clear hs2
  have hA4 := hA.old hk2
  obtain ⟨a1, a2, a3, a4⟩ := hA.lt
  have hap : BlkApart B1 B2 := ⟨by simp [Blk.wr]; omega, by simp [Blk.wr]; omega⟩
  have HAP := Lib.hid hap
  have hD : LkDone (l.map ncOf ++ fillsOf n (l.map ncOf)) w4 w4 B1 B2 n m (fun _ _ _ _ => False) sd0 sd0 := ⟨both0 n m, sound0 _ _ _, sound0 _ _ _, fun _ _ _ _ h => h.elim, hA4, hB, Kept.refl _ _⟩
  have HD := Lib.hid hD
  have hkk : Kept w w4 [] := (Kept.of_below hb3 []).trans (hk1.trans hk2)
  have HKK := Lib.hid hkk
  have s3 := hb3.size
  have s4 := hk1.size
  have HLO := Lib.hid (show ∀ x ∈ B1.wr ++ B2.wr, w.heap.size ≤ x from fun x hx => by simp [Blk.wr] at hx; omega)
  clear hD hap hA hB hA4 hk1 hk2 hkk
  go_wp2_with fail
  go_loopw [46] (fun i wr => ∃ (k : Nat) (A B : Sd), k ≤ q ∧ i = .int .i64 (k : Int) ∧ LkDone (l.map ncOf ++ fillsOf n (l.map ncOf)) w4 wr B1 B2 n m (fun a b c d => ∃ j x, j < k ∧ l[j]? = some x ∧ ncOf x = ⟨a, b, c, d⟩) A B) (fun i _ => q - (intOf i).toNat)
  case atStart => exact ⟨0, sd0, sd0, Nat.zero_le _, rfl, ⟨HD.out.both, HD.out.sA, HD.out.sB, fun a b c d ⟨j, x, hj, _⟩ => absurd hj (Nat.not_lt_zero _), HD.out.atA, HD.out.atB, HD.out.kept⟩⟩
  case round =>
    obtain ⟨k, A', B', hk, rfl, hD'⟩ := hrel
    have hk9 := (HKK.out.more (T := B1.wr ++ B2.wr) (fun _ h => absurd h (by simp))).trans hD'.kept
    have hbw : Below w.heap.size w wr := ⟨hk9.os, hk9.tape, hk9.output, hk9.size, fun i hi => hk9.block i hi (fun hm => by have := HLO.out i hm; omega)⟩
    clear hk9
    have HD2 := Lib.hid hD'
    by_cases hlt : k < q
    · obtain ⟨x, hx⟩ : ∃ x, l[k]? = some x := ⟨_, List.getElem?_eq_getElem (by rw [HL.out]; exact hlt)⟩
      obtain ⟨ad, rfl, hab, c0, c1, c2, c3⟩ := (HR.out.below hbw).clus hx
      obtain ⟨e1, e2, e3, e4⟩ := fitC_nat (HALL.out x (List.mem_of_getElem? hx))
      have HX := Lib.hid hx
      have hmem : ncOf x ∈ l.map ncOf ++ fillsOf n (l.map ncOf) := List.mem_append_left _ (List.mem_map_of_mem (List.mem_of_getElem? hx))
      obtain ⟨y, hy⟩ : ∃ y, ncOf x = y := ⟨_, rfl⟩
      rw [hy] at e1 e2 e3 e4 hmem
      rw [e1] at c0 c1 c2 c3
      obtain ⟨a, b, cc, d⟩ := y
      obtain ⟨e5, e6⟩ := e2
      simp only [NC.cl] at c0 c1 c2 c3 e5 e6 e3 e4
      have HY := Lib.hid hy
      have hal : Kept wr (wr.alloc (.cells #[.int .i64 (a : Int), .int .i64 (b : Int), .int .i64 (cc : Int), .int .i64 (d : Int)] 41)) [] := Kept.of_below (below_new wr _) []
      have HLK := Lib.hid (link_any B1 B2 n m a b cc d A' B' _ _ (by omega) (by omega) e5 e3 e6 e4 hmem hD'.both hD'.sA hD'.sB hD'.lies HAP.out _ (hD'.atA.old hal) (hD'.atB.old hal))
      have HAL := Lib.hid hal
      clear hal hmem e1 hx hy hD' hbw
      go_wp2_with fail
      refine HLK.out.mono ?_
      rintro e w5 ⟨rfl, A2, B2', hD3⟩
      go_wp2_with fail
      go_roundw
      case rel =>
        refine ⟨k + 1, A2, B2', by omega, by go_num, ⟨hD3.both, hD3.sA, hD3.sB, fun a' b' c' d' hh => ?_, hD3.atA, hD3.atB, (HD2.out.kept.trans (HAL.out.more (fun _ h => absurd h (by simp)))).trans hD3.kept⟩⟩
        obtain ⟨j, x', hj, hx', hn'⟩ := hh
        apply hD3.lies
        by_cases hjk : j = k
        · right
          subst hjk
          rw [HX.out] at hx'
          obtain rfl := Option.some.inj hx'
          rw [HY.out] at hn'
          injection hn' with q1 q2 q3 q4
          exact ⟨q1.symm, q2.symm, q3.symm, q4.symm⟩
        · exact .inl ⟨j, x', by omega, hx', hn'⟩
      case measure => simp [intOf]; omega
    · have hkq : k = q := by omega
      have hK : ∀ x ∈ l.map ncOf, x.real ∧ x.b ≤ n ∧ x.d ≤ m := fun x hx => by
        obtain ⟨z, hz, rfl⟩ := List.mem_map.1 hx
        exact (fitC_nat (HALL.out z hz)).2
      have hfin := finest_end hK (fun h => HNE.out (List.map_eq_nil_iff.1 h)) hD'.both hD'.sA (fun x hx => by
        obtain ⟨z, hz, rfl⟩ := List.mem_map.1 hx
        obtain ⟨j, hj⟩ := List.getElem?_of_mem hz
        exact hD'.lies _ _ _ _ ⟨j, z, by rw [hkq, ← HL.out]; exact (List.getElem?_eq_some_iff.1 hj).1, hj, rfl⟩)
      have HFIN := Lib.hid hfin
      have HB := Lib.hid hbw
      have HCL := Lib.hid (clusters_any B1 n m A' (by omega) hD'.both.okA wr hD'.atA)
      clear hD' hK hfin hbw
      go_wp2_with fail
      refine HCL.out.mono ?_
      rintro e w5 ⟨v, rfl, hown, hb5⟩
      have hb6 := HB.out.trans (hb5.mono HB.out.size)
      go_wp2_with fail
      exact bodyPost_ret (v := .tuple #[v, .int .i64 0]) (by simp [results, go_sem]) rfl ⟨v, _, rfl, HFIN.out, own_base hown HB.out.size, hb6⟩
end Go.Proofs.YtcbiaeeifclieaaGreatDoor
/- cluster's Finest of nothing, walked. -/
namespace Go.Proofs.YtcbiaeeifclieaaGreatDoor
open Go.RowKit

set_option maxRecDepth 100000 in
set_option maxHeartbeats 1000000 in
theorem prFinest_zero (c : Nat) (A : Option Addr) (w : World) :
    Calls Tryz.prog 43 #[.int .i64 0, .int .i64 0, .slice A 0 c] w fun e w' => ∃ v, e = .returned (.tuple #[v, .int .i64 0]) ∧ w'.ownsRow w.heap.size 41 4 v 0 [] ∧ Below w.heap.size w w' := by
  have HR := Lib.hid (show ∀ W, Rd W 4 A 0 (cellsC []) from fun W => Rd.nil_)
  go_enter Tryz.func43, Tryz.ntmps43
  go_wp2_with fail
  refine (fit_any 0 0 A 0 c [] w (HR.out _) (by unfold maxLen; omega)).mono ?_
  rintro e w1 ⟨rfl, hb1⟩
  rw [show fitB 0 0 [] = true from rfl]
  go_wp2_with fail
  refine (covered_any 0 A 0 c [] w1 (HR.out _) (by omega)).mono ?_
  rintro e w2 ⟨l', hp, hs, rfl, hb2⟩
  have hl' : l' = [] := List.perm_nil.1 hp
  rw [hl', show covB 0 [] = true from rfl]
  clear hp hs hl'
  have hb3 := hb1.trans (hb2.mono hb1.size)
  go_wp2_with fail
  refine (newSide_any 0 0 (by omega) (by omega) w2).mono ?_
  rintro e w3 ⟨b1, rfl, hs1⟩
  obtain ⟨B1, rfl, hA, ⟨la, lb, lc, ld⟩, hk1⟩ := sd_new hs1
  clear hs1
  go_wp2_with fail
  refine (newSide_any 0 0 (by omega) (by omega) w3).mono ?_
  rintro e w4 ⟨b2, rfl, hs2⟩
  obtain ⟨B2, rfl, hB, _, hk2⟩ := sd_new hs2
  clear hs2
  have hA4 := hA.old hk2
  have hkk : Kept w w4 [] := (Kept.of_below hb3 []).trans (hk1.trans hk2)
  have hbw : Below w.heap.size w w4 := ⟨hkk.os, hkk.tape, hkk.output, hkk.size, fun i hi => hkk.block i hi (by simp)⟩
  have HCL := Lib.hid (clusters_any B1 0 0 sd0 (by omega) (ok0 0 0) w4 hA4)
  have HB := Lib.hid hbw
  clear hA hB hA4 hk1 hk2 hkk hbw
  go_wp2_with fail
  refine wp_loop_rounds 1 ?_
  rw [rounds_succ]
  go_wp2_with fail
  refine HCL.out.mono ?_
  rintro e w5 ⟨v, rfl, hown, hb5⟩
  have hb6 := HB.out.trans (hb5.mono HB.out.size)
  go_wp2_with fail
  exact bodyPost_ret (v := .tuple #[v, .int .i64 0]) (by simp [results, go_sem]) rfl ⟨v, rfl, own_base hown HB.out.size, hb6⟩
end Go.Proofs.YtcbiaeeifclieaaGreatDoor
/- cluster's Finest, whatever comes in: one contract. -/
namespace Go.Proofs.YtcbiaeeifclieaaGreatDoor
open Go.RowKit

/-- Each place below m lies in a link's Out. -/
def CovP (m : Int) (l : List Cl) : Prop := ∀ j, 0 ≤ j → j < m → ∃ s ∈ l.map Prod.snd, s.1 ≤ j ∧ j < s.2
open Classical in
/-- What is wrong with links, as a number. -/
noncomputable def finE (n m : Int) (l : List Cl) : Int := if fitB n m l = false then 1 else if m = 0 ∧ n ≠ 0 then 8 else if n = 0 ∧ m ≠ 0 then 13 else if CovP m l then 0 else 13
/-- The finest map, or none where there is no place. -/
def FinIs (n m : Nat) (l : List Cl) (l' : List NC) : Prop := (n = 0 → l' = []) ∧ (n ≠ 0 → Finest (l.map ncOf ++ fillsOf n (l.map ncOf)) 0 n m l')
theorem FinIs.only {n m : Nat} {l : List Cl} {a b : List NC} (h : FinIs n m l a) (k : FinIs n m l b) : a = b := by
  by_cases hn : n = 0
  · rw [h.1 hn, k.1 hn]
  · exact Finest.only (h.2 hn) (k.2 hn)
theorem fit_real {n m : Int} {l : List Cl} (h : fitB n m l = true) : ∀ x ∈ l, fitC n m x = true := by
  unfold fitB at h; simp at h; exact fun x hx => h.2 _ _ _ _ hx
theorem fit_outs {n m : Int} {l : List Cl} (h : fitB n m l = true) : ∀ s ∈ l.map Prod.snd, s.1 < s.2 ∧ s.2 ≤ m := by
  intro s hs
  obtain ⟨x, hx, rfl⟩ := List.mem_map.1 hs
  have := fit_real h x hx
  unfold fitC rightB at this
  simp at this
  omega
/-- What Finest answers. -/
def FinAns (w w' : World) (n m : Int) (l : List Cl) (e : Ending) : Prop :=
  (finE n m l ≠ 0 ∧ e = .returned (.tuple #[.slice none 0 0, .int .i64 (finE n m l)])) ∨
  (finE n m l = 0 ∧ 0 ≤ n ∧ n ≤ 16777216 ∧ 0 ≤ m ∧ m ≤ 16777216 ∧ fitB n m l = true ∧ CovP m l ∧ ∃ (v : Value) (l' : List NC), e = .returned (.tuple #[v, .int .i64 0]) ∧ FinIs n.toNat m.toNat l l' ∧ w'.ownsRow w.heap.size 41 4 v l'.length (cellsC (l'.map NC.cl)))
open Classical in
theorem prFinest_all (n m : Int) (q c : Nat) (A : Option Addr) (l : List Cl) (w : World) (hr : Rd w 4 A q (cellsC l)) (hq : q ≤ 1000000) :
    Calls Tryz.prog 43 #[.int .i64 n, .int .i64 m, .slice A q c] w fun e w' => FinAns w w' n m l e ∧ Below w.heap.size w w' := by
  have hlen : l.length = q := by have := hr.1; rw [cellsC_len] at this; omega
  cases hfit : fitB n m l with
  | false =>
    have hE : finE n m l = 1 := if_pos hfit
    refine (prFinest_unfit n m q c A l w hr (by unfold maxLen; omega) hfit).mono ?_
    rintro e w' ⟨rfl, hb⟩
    exact ⟨.inl ⟨by omega, by rw [hE]⟩, hb⟩
  | true =>
    obtain ⟨n1, n2, m1, m2⟩ := fit_nums hfit
    have hE : finE n m l = if m = 0 ∧ n ≠ 0 then 8 else if n = 0 ∧ m ≠ 0 then 13 else if CovP m l then 0 else 13 := by unfold finE; rw [if_neg (by rw [hfit]; simp)]; try simp only []
    by_cases h1 : m = 0 ∧ n ≠ 0
    · rw [if_pos h1] at hE
      refine (prFinest_removed n m q c A l w hr (by unfold maxLen; omega) hfit h1.1 h1.2).mono ?_
      rintro e w' ⟨rfl, hb⟩
      exact ⟨.inl ⟨by omega, by rw [hE]⟩, hb⟩
    rw [if_neg h1] at hE
    by_cases h2 : n = 0 ∧ m ≠ 0
    · rw [if_pos h2] at hE
      refine (prFinest_none n m q c A l w hr (by unfold maxLen; omega) hfit h2.1 h2.2).mono ?_
      rintro e w' ⟨rfl, hb⟩
      exact ⟨.inl ⟨by omega, by rw [hE]⟩, hb⟩
    rw [if_neg h2] at hE
    by_cases h3 : CovP m l
    · rw [if_pos h3] at hE
      by_cases hn : n = 0
      · have hm : m = 0 := by omega
        subst hn hm
        have hl : l = [] := by
          cases l with
          | nil => rfl
          | cons x l =>
            have := fit_real hfit x (List.mem_cons_self ..)
            unfold fitC rightB at this
            simp at this
            omega
        subst hl
        have hq0 : q = 0 := by simpa using hlen.symm
        subst hq0
        refine (prFinest_zero c A w).mono ?_
        rintro e w' ⟨v, rfl, hown, hb⟩
        exact ⟨.inr ⟨hE, n1, n2, m1, m2, hfit, h3, v, [], rfl, ⟨fun _ => rfl, fun h => absurd rfl h⟩, hown⟩, hb⟩
      · obtain ⟨N, rfl⟩ := Int.eq_ofNat_of_zero_le n1
        obtain ⟨M, rfl⟩ := Int.eq_ofNat_of_zero_le m1
        have hne : l ≠ [] := by
          rintro rfl
          obtain ⟨s, hs, _⟩ := h3 0 (by omega) (by omega)
          simp at hs
        refine (prFinest_ok N M q c A l w hr hq hfit (by omega) (by omega) (fun l' hp hs => (covB_iff hp hs (fit_outs hfit) m1).2 h3) hne).mono ?_
        rintro e w' ⟨v, l', rfl, hf, hown, hb⟩
        exact ⟨.inr ⟨hE, n1, n2, m1, m2, hfit, h3, v, l', rfl, ⟨fun h => absurd h (by omega), fun _ => by simpa using hf⟩, hown⟩, hb⟩
    · rw [if_neg h3] at hE
      refine (prFinest_open n m q c A l w hr hq hfit (by omega) (fun l' hp hs => by
        cases h : covB m l' with
        | false => rfl
        | true => exact absurd ((covB_iff hp hs (fit_outs hfit) m1).1 h) h3)).mono ?_
      rintro e w' ⟨rfl, hb⟩
      exact ⟨.inl ⟨by omega, by rw [hE]⟩, hb⟩
end Go.Proofs.YtcbiaeeifclieaaGreatDoor
/- The finest map is a map, and no link is cut: mathematics. -/
namespace Go.Proofs.YtcbiaeeifclieaaGreatDoor

theorem tiles_parts : ∀ {l : List NC} {s n : Nat}, Tiles s l n → partsFrom (s : Int) ((l.map NC.cl).map Prod.fst) (n : Int) = true
  | [], s, n, h => by have h' : s = n := h; subst h'; simp [partsFrom]
  | x :: l, s, n, ⟨h1, h2, h3⟩ => by
    simp only [List.map_cons]
    rw [partsFrom_yes (by simp [rightB, NC.cl]; omega) (by simp [NC.cl]; omega)]
    exact tiles_parts h3
theorem cover_parts {m : Int} : ∀ (l : List Sp) (e : Int), LoSorted l → l.Pairwise (fun a b => a.2 ≤ b.1 ∨ b.2 ≤ a.1) → (∀ s ∈ l, 0 ≤ s.1 ∧ s.1 < s.2 ∧ s.2 ≤ m ∧ e ≤ s.1) → e ≤ m → (∀ j, e ≤ j → j < m → ∃ s ∈ l, s.1 ≤ j ∧ j < s.2) → partsFrom e l m = true
  | [], e, _, _, _, he, hc => by
    have : e = m := by
      by_cases h : e < m
      · obtain ⟨s, hs, _⟩ := hc e (Int.le_refl _) h
        simp at hs
      · omega
    simp [partsFrom, this]
  | a :: l, e, hs, hd, hr, he, hc => by
    unfold LoSorted at hs
    rw [List.pairwise_cons] at hs hd
    have ha := hr a (List.mem_cons_self ..)
    have hae : a.1 = e := by
      obtain ⟨s, hm, h1, h2⟩ := hc e (Int.le_refl _) (by omega)
      rcases List.mem_cons.1 hm with rfl | hm
      · omega
      · have := hs.1 s hm
        omega
    rw [partsFrom_yes (by simp [rightB]; omega) (by simp [hae])]
    refine cover_parts l a.2 hs.2 hd.2 (fun s h => ?_) (by omega) (fun j h1 h2 => ?_)
    · have h1 := hr s (List.mem_cons_of_mem _ h)
      have h2 := hs.1 s h
      have h3 := hd.1 s h
      omega
    · obtain ⟨s, hm, h3, h4⟩ := hc j (by omega) h2
      rcases List.mem_cons.1 hm with rfl | hm
      · omega
      · exact ⟨s, hm, h3, h4⟩
theorem Tiles.apart : ∀ {l : List NC} {s n : Nat}, Tiles s l n → l.Pairwise fun x y => x.b ≤ y.a
  | [], _, _, _ => List.Pairwise.nil
  | x :: l, s, n, ⟨h1, h2, h3⟩ => List.pairwise_cons.2 ⟨fun y hy => (Tiles.from_ h3 y hy).1, h3.apart⟩
theorem Finest.out_one {L : List NC} {n m : Nat} {l : List NC} (hf : Finest L 0 n m l) {x y : NC} (hx : x ∈ l) (hy : y ∈ l) {j : Nat} (h1 : x.c ≤ j) (h2 : j < x.d) (h3 : y.c ≤ j) (h4 : j < y.d) : x = y := by
  have tx := Tiles.from_ hf.tiles x hx
  have ty := Tiles.from_ hf.tiles y hy
  have ox := hf.out x hx
  have e1 := (hf.tog x.a (Nat.zero_le _) (by omega) (true, j) (show j < m by omega)).2 ⟨x, hx, ⟨Nat.le_refl _, tx.2.1⟩, ⟨h1, h2⟩⟩
  have e2 := (hf.tog y.a (Nat.zero_le _) (by omega) (true, j) (show j < m by omega)).2 ⟨y, hy, ⟨Nat.le_refl _, ty.2.1⟩, ⟨h3, h4⟩⟩
  obtain ⟨z, hz, k1, k2⟩ := (hf.tog x.a (Nat.zero_le _) (by omega) (false, y.a) (show 0 ≤ y.a ∧ y.a < n by omega)).1 (.trans _ _ _ e1 (.symm _ _ e2))
  have k1' : z.a ≤ x.a ∧ x.a < z.b := k1
  have k2' : z.a ≤ y.a ∧ y.a < z.b := k2
  rw [Tiles.one hf.tiles x hx z hz x.a (Nat.le_refl _) tx.2.1 k1'.1 k1'.2, Tiles.one hf.tiles y hy z hz y.a (Nat.le_refl _) ty.2.1 k2'.1 k2'.2]
theorem Finest.out_all {L : List NC} {n m : Nat} {l : List NC} (hf : Finest L 0 n m l) {y : NC} (hy : y ∈ L) (hr : y.real) (hb : y.b ≤ n) {j : Nat} (h1 : y.c ≤ j) (h2 : j < y.d) (hj : j < m) : ∃ x ∈ l, x.c ≤ j ∧ j < x.d := by
  have hr' : y.a < y.b ∧ y.c < y.d := hr
  obtain ⟨x, hx, _, h⟩ := (hf.tog y.a (Nat.zero_le _) (by omega) (true, j) hj).1 (.link y _ _ hy (show y.a ≤ y.a ∧ y.a < y.b by omega) (show y.c ≤ j ∧ j < y.d from ⟨h1, h2⟩))
  exact ⟨x, hx, h⟩
/-- The finest map is a map. -/
theorem Finest.check {L : List NC} {n m : Nat} {l : List NC} (hf : Finest L 0 n m l) (hc : ∀ j, j < m → ∃ y ∈ L, y.real ∧ y.b ≤ n ∧ y.c ≤ j ∧ j < y.d) : checkC (l.map NC.cl) (n : Int) (m : Int) = true := by
  unfold checkC
  rw [Bool.and_eq_true]
  refine ⟨tiles_parts hf.tiles, ?_⟩
  have hp := sortR_perm ((l.map NC.cl).map Prod.snd)
  have hmem : ∀ s, s ∈ sortR ((l.map NC.cl).map Prod.snd) ↔ ∃ x ∈ l, s = ((x.c : Int), (x.d : Int)) := fun s => by
    rw [hp.mem_iff]
    simp [NC.cl, eq_comm]
  refine cover_parts _ 0 (sortR_sorted _) ?_ (fun s hs => ?_) (by omega) (fun j h1 h2 => ?_)
  · refine (hp.pairwise_iff (fun {a b} h => h.symm)).2 ?_
    rw [List.map_map, List.pairwise_map]
    refine List.Pairwise.imp_of_mem ?_ hf.tiles.apart
    intro x y hx hy hxy
    have ox := hf.out x hx
    have oy := hf.out y hy
    simp only [Function.comp, NC.cl]
    by_cases h : x.d ≤ y.c ∨ y.d ≤ x.c
    · omega
    · have e := hf.out_one hx hy (j := max x.c y.c) (by omega) (by omega) (by omega) (by omega)
      have := (Tiles.from_ hf.tiles x hx)
      rw [← e] at hxy
      omega
  · obtain ⟨x, hx, rfl⟩ := (hmem s).1 hs
    have := hf.out x hx
    simp only
    omega
  · obtain ⟨y, hy, hr, hb, h3, h4⟩ := hc j.toNat (by omega)
    obtain ⟨x, hx, h5, h6⟩ := hf.out_all hy hr hb h3 h4 (by omega)
    exact ⟨_, (hmem _).2 ⟨x, hx, rfl⟩, by simp only; omega, by simp only; omega⟩
/-- No link is cut. -/
theorem Finest.holds {L : List NC} {n m : Nat} {l : List NC} (hf : Finest L 0 n m l) {y : NC} (hy : y ∈ L) (hr : y.real) (hb : y.b ≤ n) (hd : y.d ≤ m) : ∃ x ∈ l, x.a ≤ y.a ∧ y.b ≤ x.b ∧ x.c ≤ y.c ∧ y.d ≤ x.d := by
  have hr' : y.a < y.b ∧ y.c < y.d := hr
  have key : ∀ q : Pl, y.has q → (if q.1 = true then q.2 < m else 0 ≤ q.2 ∧ q.2 < n) → ∃ x ∈ l, x.has (false, y.a) ∧ x.has q := fun q hq hin =>
    (hf.tog y.a (Nat.zero_le _) (by omega) q hin).1 (.link y _ _ hy (show y.a ≤ y.a ∧ y.a < y.b by omega) hq)
  obtain ⟨x, hx, h1, h2⟩ := key (false, y.a) (show y.a ≤ y.a ∧ y.a < y.b by omega) (show 0 ≤ y.a ∧ y.a < n by omega)
  have h1' : x.a ≤ y.a ∧ y.a < x.b := h1
  have all : ∀ q : Pl, y.has q → (if q.1 = true then q.2 < m else 0 ≤ q.2 ∧ q.2 < n) → x.has q := fun q hq hin => by
    obtain ⟨z, hz, k1, k2⟩ := key q hq hin
    have k1' : z.a ≤ y.a ∧ y.a < z.b := k1
    rwa [Tiles.one hf.tiles x hx z hz y.a h1'.1 h1'.2 k1'.1 k1'.2]
  have b1 : x.a ≤ y.b - 1 ∧ y.b - 1 < x.b := all (false, y.b - 1) (show y.a ≤ y.b - 1 ∧ y.b - 1 < y.b by omega) (show 0 ≤ y.b - 1 ∧ y.b - 1 < n by omega)
  have c1 : x.c ≤ y.c ∧ y.c < x.d := all (true, y.c) (show y.c ≤ y.c ∧ y.c < y.d by omega) (show y.c < m by omega)
  have d1 : x.c ≤ y.d - 1 ∧ y.d - 1 < x.d := all (true, y.d - 1) (show y.c ≤ y.d - 1 ∧ y.d - 1 < y.d by omega) (show y.d - 1 < m by omega)
  exact ⟨x, hx, by omega, by omega, by omega, by omega⟩
/-- A cluster around a link. -/
def insB (c x : Cl) : Bool := decide (c.1.1 ≤ x.1.1) && decide (x.1.2 ≤ c.1.2) && decide (c.2.1 ≤ x.2.1) && decide (x.2.2 ≤ c.2.2)
theorem finIs_check {n m : Nat} {l : List Cl} {l' : List NC} (h : FinIs n m l l') (hfit : fitB (n : Int) (m : Int) l = true) (hc : CovP (m : Int) l) : checkC (l'.map NC.cl) (n : Int) (m : Int) = true := by
  have hcov : ∀ j, j < m → ∃ y ∈ l.map ncOf, y.real ∧ y.b ≤ n ∧ y.c ≤ j ∧ j < y.d := fun j hj => by
    obtain ⟨s, hs, h1, h2⟩ := hc (j : Int) (by omega) (by omega)
    obtain ⟨x, hx, rfl⟩ := List.mem_map.1 hs
    obtain ⟨e, hr, hb, hd⟩ := fitC_nat (fit_real hfit x hx)
    rw [e] at h1 h2
    simp only [NC.cl] at h1 h2
    exact ⟨ncOf x, List.mem_map.2 ⟨x, hx, rfl⟩, hr, hb, by omega, by omega⟩
  by_cases hn : n = 0
  · rw [h.1 hn]
    have hm : m = 0 := by
      by_cases hm : m = 0
      · exact hm
      · obtain ⟨y, _, hr, hb, _⟩ := hcov 0 (by omega)
        have hr' : y.a < y.b ∧ y.c < y.d := hr
        omega
    subst hn hm
    rfl
  · exact (h.2 hn).check fun j hj => by
      obtain ⟨y, hy, h⟩ := hcov j hj
      exact ⟨y, List.mem_append_left _ hy, h⟩
theorem finIs_holds {n m : Nat} {l : List Cl} {l' : List NC} (h : FinIs n m l l') (hfit : fitB (n : Int) (m : Int) l = true) {x : Cl} (hx : x ∈ l) : (l'.map NC.cl).any (fun c => insB c x) = true := by
  obtain ⟨e, hr, hb, hd⟩ := fitC_nat (fit_real hfit x hx)
  have hr' : (ncOf x).a < (ncOf x).b ∧ (ncOf x).c < (ncOf x).d := hr
  obtain ⟨y, hy, h1, h2, h3, h4⟩ := (h.2 (by omega)).holds (List.mem_append_left _ (List.mem_map.2 ⟨x, hx, rfl⟩)) hr hb hd
  rw [List.any_eq_true]
  refine ⟨y.cl, List.mem_map.2 ⟨y, hy, rfl⟩, ?_⟩
  rw [e]
  simp [insB, NC.cl]
  omega
theorem tiles_len : ∀ {l : List NC} {s n : Nat}, Tiles s l n → l.length + s ≤ n
  | [], s, n, h => by have h' : s = n := h; simp; omega
  | x :: l, s, n, ⟨h1, h2, h3⟩ => by have := tiles_len h3; simp only [List.length_cons]; omega
theorem finIs_len {n m : Nat} {l : List Cl} {l' : List NC} (h : FinIs n m l l') : l'.length ≤ n := by
  by_cases hn : n = 0
  · rw [h.1 hn]; exact Nat.zero_le _
  · have := tiles_len (h.2 hn).tiles; omega
end Go.Proofs.YtcbiaeeifclieaaGreatDoor
