/- naskhlaw30.RunsParts. -/
import Derived.Test.YtaiefneimjdmhaaRuAw
import Derived.Test.YtaiefneimjdmhaaPartsP
import Derived.Test.YtaiefneimjdmhaaSpSlice
import Derived.Test.YtaiefneimjdmhaaRuO
import Derived.Deep.Cut
import Derived.Deep.DeepCutAuto
import Derived.BigQuiet
namespace Go.Proofs.Ytaiefneimjdmhaa
open Go.RowKit
def spG (r : Rg) : Sp := (r.1, r.2.1)
theorem cellsS_take {L : List Rg} {i : Nat} {r : Rg} (h : L[i]? = some r) : cellsS ((L.take (i + 1)).map spG) = cellsS ((L.take i).map spG) ++ [.int .i64 r.1, .int .i64 r.2.1] := by
  rw [List.take_add_one, h, List.map_append]
  simp [cellsS, encS, spG]
set_option maxRecDepth 100000 in
set_option maxHeartbeats 2000000 in
theorem runsParts_any (A : Option Addr) (n c : Nat) (ls : List Int) (w : World) (hr : Rd w 1 A n (ls.map (Value.int .i64))) (hn : n ≤ maxLen) :
    Calls Try.prog 9 #[.slice A n c] w fun e w' => e = .returned (.bool true) ∧ Below w.heap.size w w' := by
  unfold maxLen at hn
  have HAW := Lib.hid awakeRu_any
  by_cases hn3 : 300 < n
  · have g1 : (300 : Int) < (n : Int) := by omega
    clear hr
    go_enter Try.func9, Try.ntmps9
    go_wp2_with (first
      | (go_at_call 21; refine (HAW.out _).mono ?_; rintro e w1 ⟨rfl, hb1⟩)
      | fail)
    go_ret
    exact ⟨rfl, hb1⟩
  · have g1 : ¬ (300 : Int) < (n : Int) := by omega
    have hl : ls.length = n := by simpa using hr.len1
    have HL := Lib.hid hl
    have HR := Lib.hid hr
    have hlk := log_ok ls n
    have hql := logR_len ls n
    have H1 := Lib.hid (ruLogical_any A n c ls w hr (by omega))
    obtain ⟨L, hL⟩ : ∃ L, logR ls n = L := ⟨_, rfl⟩
    rw [hL] at H1 hlk hql
    obtain ⟨q, hq⟩ : ∃ q, L.length = q := ⟨_, rfl⟩
    rw [hq] at H1 hql
    have HQ := Lib.hid hq
    have HLK := Lib.hid hlk
    clear hr hL hq hl hlk
    go_enter Try.func9, Try.ntmps9
    go_wp2_with (first
      | (go_at_call 23; refine H1.out.mono ?_; rintro e w1 ⟨v1, rfl, hv1, hb1⟩; obtain ⟨A1, c1, he1, _⟩ := own_form hv1; subst he1; have HR1 := Lib.hid (Rd.of_own hv1); have HB1 := Lib.hid hb1; clear hv1 hb1)
      | fail)
    rename World => W1
    go_loopw [4, 17] (fun v t ws => ∃ i : Nat, i ≤ q ∧ t = .int .i64 (i : Int) ∧ ws.ownsRow W1.heap.size 36 2 v i (cellsS ((L.take i).map spG)) ∧ Below W1.heap.size W1 ws) (fun _ t _ => q - (intOf t).toNat)
    case atStart => exact ⟨0, Nat.zero_le _, rfl, ⟨rfl, .inl ⟨rfl, rfl⟩⟩, Below.refl _ _⟩
    case round =>
      obtain ⟨i, hi, rfl, hO, hB⟩ := hrel
      have HO := Lib.hid hO
      have HB := Lib.hid hB
      have hsz := hB.size
      clear hO hB
      by_cases hlt : i < q
      · obtain ⟨r, hrr⟩ : ∃ r, L[i]? = some r := ⟨_, List.getElem?_eq_getElem (by rw [HQ.out]; exact hlt)⟩
        have HRR := Lib.hid hrr
        have HCT := Lib.hid (cellsS_take hrr)
        have hpm := (parts_mem HLK.out.parts).2 (r.1, r.2.1) (List.mem_map.2 ⟨r, List.mem_of_getElem? hrr, rfl⟩)
        have hlv := HLK.out.lev r (List.mem_of_getElem? hrr)
        obtain ⟨ad, rfl, hab, d0, d1, d2⟩ := HR1.out.rg hrr
        have c0 := cell_below HB.out d0
        have c1' := cell_below HB.out d1
        have c2 := cell_below HB.out d2
        obtain ⟨lo, hh, lev⟩ := r
        simp only at c0 c1' c2 hpm hlv HCT
        obtain ⟨hpr, hp0, hp1⟩ := hpm
        have hpr' : 0 ≤ lo ∧ lo < hh := by simpa [rightB] using hpr
        obtain ⟨lo, rfl⟩ : ∃ k : Nat, lo = (k : Int) := ⟨lo.toNat, by omega⟩
        obtain ⟨hh, rfl⟩ : ∃ k : Nat, hh = (k : Int) := ⟨hh.toNat, by omega⟩
        have hll : lo < hh := by omega
        have hhn : hh ≤ n := by omega
        have HLV := Lib.hid (show ∀ p : Nat, lo ≤ p → p < hh → ls[p]? = some lev by
          intro p h1 h2
          have h3 := hlv p (by omega) (by omega)
          rw [List.getD_eq_getElem?_getD, List.getElem?_eq_getElem (by rw [HL.out]; omega)] at h3
          rw [List.getElem?_eq_getElem (by rw [HL.out]; omega)]
          exact congrArg some h3)
        obtain ⟨bx, hbx⟩ : ∃ bx, wr.heap.size = bx := ⟨_, rfl⟩
        obtain ⟨WA, hWA⟩ : ∃ WA, wr.alloc (.cells #[.int .i64 (lo : Int), .int .i64 (hh : Int), .int .i64 lev] 38) = WA := ⟨_, rfl⟩
        have HXA := Lib.hid (show WA.heap[bx]? = some (.cells #[.int .i64 (lo : Int), .int .i64 (hh : Int), .int .i64 lev] 38 (0, 0)) by rw [← hWA, ← hbx]; exact heap_alloc_new wr _)
        have HOA := Lib.hid (show WA.ownsRow W1.heap.size 36 2 u4 i (cellsS ((L.take i).map spG)) by rw [← hWA]; exact HO.out.alloc _)
        have HBA := Lib.hid (show Below W1.heap.size W1 WA by rw [← hWA]; exact HB.out.alloc hsz _)
        have n0 := hp_cell (j := 0) HXA.out rfl
        have n1 := hp_cell (j := 1) HXA.out rfl
        have HNE := Lib.hid (show u4.ownBlock ≠ some bx from fun e => by have := (HO.out.lt _ e).2; omega)
        have hin : (i : Int) < (q : Int) := by omega
        have hi0 : (0 : Int) ≤ (i : Int) := by omega
        have hi5 : (q : Int) ≤ 300 := by omega
        have hszA := HBA.out.size
        clear hrr d0 d1 d2 hpr hp0 hp1 hpr' hlv
        go_upto_region 9 with (first
          | (at_builtin; refine wpList_app rfl _ _ _ rfl spanSlice (by decide) _ i _ rfl (HOA.out.alloc _) ⟨WA.heap.size, 0, none⟩ 1 1 [.int .i64 (lo : Int), .int .i64 (hh : Int)] rfl rfl (cells_new WA [.int .i64 (lo : Int), .int .i64 (hh : Int)] 36) (oneInt2 _ _ _) (by omega) (by unfold maxLen; omega) (Nat.le_trans hszA (by simp)) ?_; intro v3 w3 hown3 hg3 hat3)
          | fail)
        have HO3 := Lib.hid (show w3.ownsRow W1.heap.size 36 2 v3 (i + 1) (cellsS ((L.take (i + 1)).map spG)) by rw [HCT.out]; exact hown3)
        have HB3 := Lib.hid (below_app (HBA.out.alloc hszA _) hg3 (HOA.out.alloc _) (Nat.le_trans hszA (by simp)))
        have HX3 := Lib.hid (blk_grown (blk_alloc HXA.out _) hg3 HNE.out)
        have HAD := Lib.hid HR1.out
        clear hown3 hg3 hat3 n0 n1 c0 c1' c2
        have x0 := hp_cell (j := 0) HX3.out rfl
        have x1 := hp_cell (j := 1) HX3.out rfl
        have x2 := hp_cell (j := 2) HX3.out rfl
        go_cut [39] (fun s39 wx => s39 = .bool false ∧ ∃ nq, wx = w3.drewN nq)
        case first =>
          by_cases h0 : i = 0
          · have g0 : decide ((0 : Int) < (i : Int)) = false := decide_eq_false (by omega)
            have g1' : decide (0 < i) = false := decide_eq_false (by omega)
            clear h0
            go_quiet (fail)
            go_wp2
            go_meet
            exact ⟨rfl, nq, rfl⟩
          · obtain ⟨j, hj⟩ : ∃ j, i = j + 1 := ⟨i - 1, by omega⟩
            obtain ⟨s, hs⟩ : ∃ s, L[j]? = some s := ⟨_, List.getElem?_eq_getElem (by rw [HQ.out]; omega)⟩
            have hun := HLK.out.unlike j s _ hs (by rw [← hj]; exact HRR.out)
            obtain ⟨_, e9, _, _, _, y2⟩ := (HAD.out.below (HB3.out.mono (Nat.le_refl _))).rg hs
            obtain rfl := Option.some.inj e9
            have gs : (s.2.2 == lev) = false := beq_eq_false_iff_ne.2 hun
            have g0 : decide ((0 : Int) < (i : Int)) = true := decide_eq_true (by omega)
            have g1' : decide (0 < i) = true := decide_eq_true (by omega)
            have g2 : (i : Int) - 1 = (j : Int) := by omega
            have g3 : (0 : Int) ≤ (j : Int) := by omega
            have g4 : (j : Int) < (q : Int) := by omega
            obtain ⟨s0, s1, s2⟩ := s
            simp only at y2 gs
            clear h0 hj hs hun
            go_quiet (fail)
            go_wp2
            go_meet
            exact ⟨rfl, nq, rfl⟩
        case rest =>
          obtain ⟨rfl, nq, hwc⟩ := hcut
          have hb9 : Below w3.heap.size w3 wc := by rw [hwc]; exact drewBelow nq
          have HOc := Lib.hid (own_below HO3.out hb9)
          have HBc := Lib.hid (HB3.out.trans (hb9.mono HB3.out.size))
          have HXc := Lib.hid ((hb9.block bx (hp_lt HX3.out)).trans HX3.out)
          clear x0 x1 x2 hwc hb9
          have x0 := hp_cell (j := 0) HXc.out rfl
          have x1 := hp_cell (j := 1) HXc.out rfl
          have x2 := hp_cell (j := 2) HXc.out rfl
          obtain ⟨m, hm⟩ : ∃ m : Nat, (hh : Int) - (lo : Int) = (m : Int) := ⟨hh - lo, by omega⟩
          have HM := Lib.hid hm
          have hmn : m ≤ 300 := by omega
          go_wp2_with fail
          rename World => WC
          go_loopw [47] (fun t ws => ∃ k z : Nat, k ≤ m ∧ t = .int .i64 (k : Int) ∧ ws = WC.drewN z) (fun t _ => m - (intOf t).toNat)
          case atStart => exact ⟨0, 0, Nat.zero_le _, rfl, rfl⟩
          case round =>
            obtain ⟨k, z, hk, rfl, rfl⟩ := hrel
            by_cases hkm : k < m
            · obtain ⟨p, hp⟩ : ∃ p : Nat, (lo : Int) + (k : Int) = (p : Int) := ⟨lo + k, by omega⟩
              have hpl := HLV.out p (by omega) (by have := HM.out; omega)
              have hpn : p < n := by have := HM.out; omega
              obtain ⟨ad2, rfl, _, hcell⟩ := (HR.out.below (HB1.out.trans (HBc.out.mono HB1.out.size))).at_ hpn
              have cp := hcell (.int .i64 lev) (by rw [List.getElem?_map, hpl]; rfl)
              have g1' : decide ((p : Int) < 0) = false := decide_eq_false (by omega)
              have g2 : decide ((n : Int) ≤ (p : Int)) = false := decide_eq_false (by omega)
              have g2' : decide (n ≤ p) = false := decide_eq_false (by omega)
              have g3 : (lev != lev) = false := by simp
              have g4 : (p : Int) < (n : Int) := by omega
              have g5 : (0 : Int) ≤ (p : Int) := by omega
              have g6 : (k : Int) < (m : Int) := by omega
              have g7 : (n : Int) ≤ 300 := by omega
              clear hpl hcell
              go_wp2_with fail
              go_quiet (fail)
              go_wp2
              go_roundw
              case rel => exact ⟨k + 1, z + nq, by omega, by go_num, by first | rfl | trivial⟩
              case measure => simp [intOf]; omega
            · obtain rfl : k = m := by omega
              have g6 : ¬ (k : Int) < (k : Int) := by omega
              have HO9 := Lib.hid (own_below HOc.out (drewBelow z))
              have HB9 := Lib.hid (HBc.out.trans ((drewBelow z).mono HBc.out.size))
              clear x0 x1 x2
              go_wp2
              go_roundw
              case rel => exact ⟨i + 1, by omega, by go_num, HO9.out, HB9.out⟩
              case measure => simp [intOf]; omega
      · obtain rfl : i = q := by omega
        have HZ := Lib.hid (show L.take i = L from List.take_of_length_le (by rw [HQ.out]; exact Nat.le_refl _))
        rw [HZ.out] at HO
        have hpt : partsS (L.map spG) n = true := HLK.out.parts
        obtain ⟨A9, c9, rfl, _⟩ := own_form HO.out
        have HP := Lib.hid (prParts_any A9 i c9 (L.map spG) n wr (Rd.of_own HO.out) (by unfold maxLen; omega))
        rw [hpt] at HP
        have g6 : ¬ (i : Int) < (i : Int) := by omega
        clear hpt
        go_wp2_with (first
          | (go_at_call 29; refine HP.out.mono ?_; rintro e w7 ⟨rfl, hb7⟩; have HB7 := Lib.hid (HB1.out.trans ((HB.out.trans (hb7.mono hsz)).mono HB1.out.size)); clear hb7)
          | (go_at_call 21; refine (HAW.out _).mono ?_; rintro e w8 ⟨rfl, hb8⟩; have HB8 := Lib.hid (below_self HB7.out hb8); clear hb8)
          | fail)
        go_ret
        exact ⟨rfl, HB8.out⟩
end Go.Proofs.Ytaiefneimjdmhaa
