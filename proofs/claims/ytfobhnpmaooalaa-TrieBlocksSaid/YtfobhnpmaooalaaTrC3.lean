/- The project's Count, and the reference's. -/
import Derived.Test.YtfobhnpmaooalaaTrC2
namespace Go.Proofs.Ytfobhnpmaooalaa
open Go.RowKit

def whA (wh : List Nat) : Array Value := (wh.map fun (q : Nat) => Value.int .u16 (q : Int)).toArray
theorem loadWh {w : World} {b : Nat} {wh : List Nat} (hl : wh.length = 8704) (hc : ∀ j q : Nat, wh[j]? = some q → w.cell? ⟨b, j, none⟩ = some (.int .u16 q)) : (loadVar 57 ⟨b, 0, none⟩).run Try.prog w = .ok (.agg (whA wh)) w := by
  have hl2 : (loadCells ⟨b, 0, none⟩ (wh.map fun (q : Nat) => Value.int .u16 (q : Int)).length).run Try.prog w = .ok (wh.map fun (q : Nat) => Value.int .u16 (q : Int)).toArray w :=
    run_loadCells_list (P := Try.prog) w ⟨b, 0, none⟩ (wh.map fun (q : Nat) => Value.int .u16 (q : Int)) (fun j v hv => by
      rw [List.getElem?_map] at hv
      cases hx : wh[j]? with
      | none => rw [hx] at hv; cases hv
      | some x => rw [hx] at hv; cases hv; rw [addNew]; exact hc j x hx)
  rw [List.length_map, hl] at hl2
  have ha := Try.isAgg57 w
  simp [loadVar, Sem.run_bind, ha, hl2, whA]
theorem idxWh {wh : List Nat} {j q : Nat} (hj : j < 8704) (h : wh[j]? = some q) (w : World) : (Instr.index 57 (.agg (whA wh)) (.int .i64 (j : Int))).run Try.prog w = .ok (.int .u16 q) w :=
  run_indexA (e := 56) (i := (Try.prog.info? 56).getD default) Try.underlying57 (by kernel_rfl) (by kernel_rfl) (by kernel_rfl) hj (by rw [whA, List.getElem?_toArray, List.getElem?_map, h]; rfl) w
set_option maxRecDepth 100000 in
set_option maxHeartbeats 4000000 in
theorem prCount_any (b nb : Nat) (l : List Rg) (z v : Int) (w : World) (hT : TabAt w b l z nb) (hl : riseB (-1) l = true) :
    Calls Try.prog 16 #[.pointer (some ⟨b, 0, none⟩), .int .i64 v] w fun e w' => e = .returned (.int .i64 (refCount l z v)) ∧ Below w.heap.size w w' := by
  have HT := Lib.hid hT
  obtain ⟨cs, bl, wh, gB, capB, h1, h2, h3, h4, h5, h6, h7, h8, h9⟩ := hT
  have hlens : ∀ x ∈ bl, x.length = 128 := fun x hx => by
    obtain ⟨j, _, rfl⟩ := h6.real x hx
    exact blkAt_len _ _ _
  have HCT := Lib.hid (prCounts_any b gB capB v bl w (h1.cell h3) h7 hlens h6.few h6.some_ h8)
  have HW := Lib.hid (show ∀ w', Below w.heap.size w w' → (loadVar 57 ⟨b, 0, none⟩).run Try.prog w' = .ok (.agg (whA wh)) w' from fun w' hb => loadWh h6.len fun j q hq => (h1.below hb).cell (h5 j q hq))
  have HIX := Lib.hid (show ∀ (j q : Nat), j < 8704 → wh[j]? = some q → ∀ w, (Instr.index 57 (.agg (whA wh)) (.int .i64 (j : Int))).run Try.prog w = .ok (.int .u16 q) w from fun j q hj h w => idxWh hj h w)
  have HS := Lib.hid h6
  have HFIN := Lib.hid (fun (j : Nat) => count_fin (z := z) (v := v) (j := j) hl)
  have HBL := Lib.hid (fun (j : Nat) => cntF_blk l z v j)
  have HBD := Lib.hid (fun (k : Nat) => cntF_bd (getG l z) v k)
  obtain ⟨R, hR⟩ : ∃ R, refCount l z v = R := ⟨_, rfl⟩
  obtain ⟨F, hF⟩ : ∃ F : Nat → Int, cntF (getG l z) v = F := ⟨_, rfl⟩
  rw [hR] at HFIN ⊢
  rw [hF] at HFIN HBL HBD
  have HF0 := Lib.hid (show F (128 * 0) = 0 by rw [← hF]; rfl)
  have hnn : bl.length ≤ 8704 := h6.few
  clear h1 h2 h3 h4 h5 h6 h7 h8 h9 hlens hl hR hF
  go_enter Try.func16, Try.ntmps16
  go_wp2_with fail
  refine (prMade_any b nb l z w HT.out).mono ?_
  rintro e w1 ⟨rfl, rfl⟩
  go_wp2_with fail
  refine HCT.out.mono ?_
  rintro e w2 ⟨gn, cap, rfl, hcap, hcn⟩
  have hb := hcn.2
  have HCN := Lib.hid hcn
  clear HCT hcn
  go_wp2_with (first
    | ((with_reducible refine wpList_loadV rfl 57 _ rfl ⟨b, 0, none⟩ (.agg (whA wh)) ?_ (HW.out _ hb) ?_); rfl)
    | fail)
  go_loopw [5, 22] (fun s i wr => ∃ (k : Nat) (c : Int), k ≤ 8704 ∧ i = .int .i64 k ∧ s = .int .i64 c ∧ F (128 * k) = c ∧ wr = w2) (fun _ i _ => 8704 - (intOf i).toNat)
  case atStart => exact ⟨0, 0, by omega, rfl, rfl, HF0.out, rfl⟩
  case round =>
    obtain ⟨k, c, hk, rfl, rfl, hc, rfl⟩ := hrel
    have HC := Lib.hid hc
    have hcb := HBD.out (128 * k)
    rw [hc] at hcb
    obtain ⟨hc0, hc1⟩ := hcb
    have hc2 : c ≤ 1114112 := by omega
    clear hc hc1
    by_cases hlt : k < 8704
    · obtain ⟨q, hq1, hq2⟩ := HS.out.at_ k hlt
      have hidx := HIX.out k q hlt hq1
      have hqn := (List.getElem?_eq_some_iff.1 hq2).1
      have hcell := HCN.out.1.cellAt q (by omega)
      rw [List.getElem?_map, rowC_end hq2] at hcell
      simp only [Option.map_some] at hcell
      have HNX := Lib.hid (HBL.out k)
      rw [HC.out] at HNX
      have hbd := cntL_bd v (blkAt l z k)
      rw [blkAt_len] at hbd
      obtain ⟨x, hx⟩ : ∃ x, cntL v (blkAt l z k) = x := ⟨_, rfl⟩
      rw [hx] at hcell HNX hbd
      obtain ⟨hx0, hx1⟩ := hbd
      clear hq1 hq2 hx
      go_wp2
      go_roundw
      case rel => exact ⟨k + 1, c + x, by omega, by go_num, by go_num, HNX.out, trivial⟩
      case measure => simp [intOf]; omega
    · have hke : k = 8704 := by omega
      have HE := Lib.hid ((HC.out.symm.trans (HFIN.out k hke)))
      clear hke
      go_wp2
      go_ret
      exact ⟨retI HE.out, hb⟩

theorem cnt_bd {v : Int} : ∀ (l : List Rg) (p n all : Int), Srt l → (∀ s ∈ l, p ≤ s.1 ∧ s.2.1 ≤ 1114111) → 0 ≤ n → n ≤ all → all ≤ p → p ≤ 1114112 →
    0 ≤ (l.foldl (refCnt v) (n, all)).1 ∧ (l.foldl (refCnt v) (n, all)).1 ≤ (l.foldl (refCnt v) (n, all)).2 ∧ (l.foldl (refCnt v) (n, all)).2 ≤ 1114112
  | [], p, n, all, _, _, h1, h2, h3, h4 => ⟨h1, h2, by show all ≤ 1114112; omega⟩
  | r :: l, p, n, all, hs, hb, h1, h2, h3, h4 => by
    have hr := hb r (by simp)
    have hle := hs.2 r (by simp)
    rw [List.foldl_cons]
    refine cnt_bd l (r.2.1 + 1) _ _ hs.tail (fun s hs' => ?_) ?_ ?_ ?_ (by omega)
    · have := (List.pairwise_cons.1 hs.1).1 s hs'
      have := hb s (by simp [hs'])
      omega
    · simp only; split <;> omega
    · simp only; split <;> omega
    · simp only; omega
theorem cnt_next {l : List Rg} {v : Int} {k : Nat} {r : Rg} (h : l[k]? = some r) : (l.take (k + 1)).foldl (refCnt v) (0, 0) = refCnt v ((l.take k).foldl (refCnt v) (0, 0)) r := by
  rw [List.take_add_one, h, List.foldl_append]
  rfl
set_option maxRecDepth 100000 in
set_option maxHeartbeats 4000000 in
theorem refCount_any (A : Option Addr) (n c : Nat) (l : List Rg) (z v : Int) (w : World) (hr : Rd w 3 A n (cellsG l)) (hn : n ≤ 4096) (hl : riseB (-1) l = true) :
    Calls Try.prog 17 #[.slice A n c, .int .i64 z, .int .i64 v] w fun e w' => e = .returned (.int .i64 (refCount l z v)) ∧ Below w.heap.size w w' := by
  have HL := Lib.hid hr.lenG
  have HR := Lib.hid hr
  have HBD := Lib.hid (show ∀ (k : Nat) (a b : Int), (l.take k).foldl (refCnt v) (0, 0) = (a, b) → 0 ≤ a ∧ a ≤ b ∧ b ≤ 1114112 from fun k a b h => by
    obtain ⟨s1, s2⟩ := srt_of_rise hl
    have := cnt_bd (v := v) (l.take k) 0 0 0 (s1.take k) (fun s hs => by have := s2 s (List.mem_of_mem_take hs); omega) (by omega) (by omega) (by omega) (by omega)
    rw [h] at this
    exact this)
  have HRG := Lib.hid (show ∀ s ∈ l, 0 ≤ s.1 ∧ s.1 ≤ s.2.1 ∧ s.2.1 ≤ 1114111 from fun s hs => by
    obtain ⟨s1, s2⟩ := srt_of_rise hl
    have := s2 s hs
    have := s1.2 s hs
    omega)
  have HFIN := Lib.hid (show ∀ (k : Nat) (a b : Int), ¬ k < n → (l.take k).foldl (refCnt v) (0, 0) = (a, b) → refCount l z v = if v = z then a + 1114111 + 1 - b else a from fun k a b hk h => by
    rw [List.take_of_length_le (by rw [HL.out]; omega)] at h
    unfold refCount
    rw [h])
  obtain ⟨R, hR⟩ : ∃ R, refCount l z v = R := ⟨_, rfl⟩
  rw [hR] at HFIN ⊢
  clear hr hl hR
  go_enter Try.func17, Try.ntmps17
  go_wp2
  go_loopw [7, 8, 9] (fun s t i wr => ∃ (k : Nat) (a b : Int), k ≤ n ∧ i = .int .i64 k ∧ s = .int .i64 a ∧ t = .int .i64 b ∧ (l.take k).foldl (refCnt v) (0, 0) = (a, b) ∧ Below w.heap.size w wr) (fun _ _ i _ => n - (intOf i).toNat)
  case atStart => exact ⟨0, 0, 0, Nat.zero_le _, rfl, rfl, rfl, rfl, Below.refl _ _⟩
  case round =>
    obtain ⟨k, a, b, hk, rfl, rfl, rfl, hst, hb⟩ := hrel
    obtain ⟨ha0, hab, hb1⟩ := HBD.out k a b hst
    have HST := Lib.hid hst
    clear hst
    by_cases hlt : k < n
    · obtain ⟨r, hrk⟩ : ∃ r, l[k]? = some r := ⟨_, List.getElem?_eq_getElem (by rw [HL.out]; exact hlt)⟩
      have HX := Lib.hid (show (l.take (k + 1)).foldl (refCnt v) (0, 0) = refCnt v (a, b) r by rw [cnt_next hrk, HST.out])
      have hrr := HRG.out r (List.mem_of_getElem? hrk)
      obtain ⟨ad, rfl, had, c1, c2, c3⟩ := (HR.out.below hb).rg hrk
      obtain ⟨lo, hi, y⟩ := r
      simp only at c1 c2 c3 hrr
      obtain ⟨hr0, hr1, hr2⟩ := hrr
      clear hrk
      by_cases h1 : y = v
      · have HN := Lib.hid (show (l.take (k + 1)).foldl (refCnt v) (0, 0) = (a + hi - lo + 1, b + hi - lo + 1) by rw [HX.out, refCnt, if_pos h1])
        have g1 : (y == v) = true := by simp [h1]
        clear h1
        go_wp2
        go_quiet (fail)
        have d1 : (wr.drewN nq).cell? (ad.add (k * 3)) = some (.int .i64 lo) := c1
        have d2 : (wr.drewN nq).cell? ⟨(ad.add (k * 3)).block, (ad.add (k * 3)).off + 1, none⟩ = some (.int .i64 hi) := c2
        have hbq := below_drewN hb nq
        generalize wr.drewN nq = wq at *
        go_wp2
        go_quiet (fail)
        go_wp2
        go_roundw
        case rel => exact ⟨k + 1, _, _, by omega, by go_num, rfl, rfl, HN.out, below_drewN hbq _⟩
        case measure => simp [intOf]; omega
      · have HN := Lib.hid (show (l.take (k + 1)).foldl (refCnt v) (0, 0) = (a, b + hi - lo + 1) by rw [HX.out, refCnt, if_neg h1])
        have g1 : (y == v) = false := by simp [h1]
        clear h1
        go_wp2
        go_quiet (fail)
        go_wp2
        go_roundw
        case rel => exact ⟨k + 1, _, _, by omega, by go_num, rfl, rfl, HN.out, below_drewN hb _⟩
        case measure => simp [intOf]; omega
    · have HF := Lib.hid (HFIN.out k a b hlt HST.out)
      by_cases h1 : v = z
      · have HE := Lib.hid (HF.out.trans (if_pos h1))
        have g1 : (v == z) = true := by simp [h1]
        clear h1
        go_wp2
        go_ret
        exact ⟨retI HE.out.symm, hb⟩
      · have HE := Lib.hid (HF.out.trans (if_neg h1))
        have g1 : (v == z) = false := by simp [h1]
        clear h1
        go_wp2
        go_ret
        exact ⟨retI HE.out.symm, hb⟩
end Go.Proofs.Ytfobhnpmaooalaa
