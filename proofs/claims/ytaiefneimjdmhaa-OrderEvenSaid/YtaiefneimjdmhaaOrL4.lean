/- naskhlaw29.OrderEven. -/
import Derived.Test.YtaiefneimjdmhaaOrAw
import Derived.Test.YtaiefneimjdmhaaRpI
namespace Go.Proofs.Ytaiefneimjdmhaa
open Go.RowKit
/-- Levels made even. -/
def evnL (ls : List Int) : List Int := ls.map fun x => 2 * x.tmod 60
theorem evnL_len (ls : List Int) : (evnL ls).length = ls.length := by simp [evnL]
theorem tmod60 (x : Int) : -60 < x.tmod 60 ∧ x.tmod 60 < 60 := by
  have h1 := Int.tmod_lt_of_pos x (show (0 : Int) < 60 by omega)
  have h2 := Int.tmod_lt_of_pos (-x) (show (0 : Int) < 60 by omega)
  rw [Int.neg_tmod] at h2
  omega
theorem visI_even (ls : List Int) : visI (evnL ls) = (List.range ls.length).map fun i => ((i : Nat) : Int) := by
  unfold visI
  rw [vis_even, evnL_len]
  intro x hx
  obtain ⟨y, _, rfl⟩ := List.mem_map.1 hx
  have := tmod60 y
  unfold heldF
  omega
theorem visI_odd {v : Int} (hv : v % 2 = 1) (h0 : 0 ≤ v) (h1 : v ≤ 126) (m : Nat) : visI (List.replicate m v) = ((List.range m).reverse).map fun i => ((i : Nat) : Int) := by
  unfold visI
  rw [vis_odd hv h0 h1]
set_option maxRecDepth 100000 in
set_option maxHeartbeats 1000000 in
theorem orderEven_any (A : Option Addr) (n c : Nat) (ls : List Int) (a b : Int) (w : World) (hr : Rd w 1 A n (ls.map (Value.int .i64))) (hn : n ≤ maxLen) (ha : 0 ≤ a ∧ a ≤ 255) (hb : 0 ≤ b ∧ b ≤ 255) :
    Calls Try.prog 6 #[.slice A n c, .int .u8 a, .int .u8 b] w fun e w' => e = .returned (.bool true) ∧ Below w.heap.size w w' := by
  unfold maxLen at hn
  have HAW := Lib.hid awakeOr_any
  by_cases hn3 : 200 < n
  · have g1 : (200 : Int) < (n : Int) := by omega
    clear hr
    go_enter Try.func6, Try.ntmps6
    go_wp2_with (first
      | (go_at_call 10; refine (HAW.out _).mono ?_; rintro e w1 ⟨rfl, hb1⟩)
      | fail)
    go_ret
    exact ⟨rfl, hb1⟩
  · have g1 : ¬ (200 : Int) < (n : Int) := by omega
    have hl : ls.length = n := by simpa using hr.len1
    have HL := Lib.hid hl
    have HR := Lib.hid hr
    clear hr hl
    go_enter Try.func6, Try.ntmps6
    go_wp2_with fail
    go_loopw [7, 23] (fun v i wr => ∃ k : Nat, k ≤ n ∧ i = .int .i64 (k : Int) ∧ wr.ownsRow w.heap.size 3 1 v k ((evnL (ls.take k)).map (Value.int .i64)) ∧ Below w.heap.size w wr) (fun _ i _ => n - (intOf i).toNat)
    case atStart => exact ⟨0, Nat.zero_le _, rfl, ⟨rfl, .inl ⟨rfl, rfl⟩⟩, Below.refl _ _⟩
    case round =>
      obtain ⟨k, hk, rfl, hO, hB⟩ := hrel
      have HO := Lib.hid hO
      have HB := Lib.hid hB
      clear hO hB
      by_cases hlt : k < n
      · obtain ⟨x, hx⟩ : ∃ x, ls[k]? = some x := ⟨_, List.getElem?_eq_getElem (by rw [HL.out]; exact hlt)⟩
        obtain ⟨ad, rfl, hab, hcell⟩ := (HR.out.below HB.out).at_ hlt
        have cx : wr.cell? (ad.add k) = some (.int .i64 x) := hcell _ (by rw [List.getElem?_map, hx]; rfl)
        obtain ⟨r, hrx⟩ : ∃ r, x.tmod 60 = r := ⟨_, rfl⟩
        have hr60 := tmod60 x
        rw [hrx] at hr60
        have HN := Lib.hid (show evnL (ls.take (k + 1)) = evnL (ls.take k) ++ [2 * r] by unfold evnL; rw [List.take_add_one, hx, List.map_append]; simp [hrx])
        have hw1 : IntKind.i64.wrap r = r := by rw [IntKind.wrap_i64]; omega
        have hw2 : IntKind.i64.wrap (2 * r) = 2 * r := by rw [IntKind.wrap_i64]; omega
        have hkn : (k : Int) < (n : Int) := by omega
        have hk0 : (0 : Int) ≤ (k : Int) := by omega
        have hk5 : (k : Int) ≤ 200 := by omega
        have hsz := HB.out.size
        clear hx hcell
        go_wp2_with (first
          | (at_builtin; refine wpList_app rfl _ _ _ rfl intSliceM (by decide) _ k _ rfl (HO.out.alloc _) ⟨wr.heap.size, 0, none⟩ 1 1 [.int .i64 (2 * r)] rfl rfl (cells_new wr [.int .i64 (2 * r)] 3) (oneInt _ _) (by omega) (by unfold maxLen; omega) (Nat.le_trans hsz (by simp)) ?_; intro v1 w3 hown3 hg3 hat3)
          | fail)
        have HO3 : Hid (w3.ownsRow w.heap.size 3 1 v1 (k + 1) ((evnL (ls.take (k + 1))).map (Value.int .i64))) := Lib.hid (by rw [HN.out, List.map_append]; exact hown3)
        have HB3 := Lib.hid (below_app (HB.out.alloc hsz _) hg3 (HO.out.alloc _) (Nat.le_trans hsz (by simp)))
        clear hown3 hg3 hat3
        go_roundw
        case rel => exact ⟨k + 1, by omega, by go_num, HO3.out, HB3.out⟩
        case measure => simp [intOf]; omega
      · obtain rfl : k = n := by omega
        have HT := Lib.hid (show ls.take k = ls from List.take_of_length_le (by rw [HL.out]; exact Nat.le_refl _))
        rw [HT.out] at HO
        obtain ⟨A1, c1, rfl, hc1⟩ := own_form HO.out
        have hV := orVis_any A1 k c1 (evnL ls) wr (Rd.of_own HO.out) (by omega)
        rw [visI_even, HL.out] at hV
        have HV := Lib.hid hV
        obtain ⟨m, hm⟩ : ∃ m : Nat, a.tmod 100 = (m : Int) := ⟨(a.tmod 100).toNat, by rw [Int.tmod_eq_emod_of_nonneg ha.1]; omega⟩
        obtain ⟨q, hq⟩ : ∃ q : Nat, b.tmod 60 = (q : Int) := ⟨(b.tmod 60).toNat, by rw [Int.tmod_eq_emod_of_nonneg hb.1]; omega⟩
        have hm100 : m ≤ 100 := by rw [Int.tmod_eq_emod_of_nonneg ha.1] at hm; omega
        have hq60 : q < 60 := by rw [Int.tmod_eq_emod_of_nonneg hb.1] at hq; omega
        obtain ⟨v, hv⟩ : ∃ v : Int, 2 * (q : Int) + 1 = v := ⟨_, rfl⟩
        have HVO := Lib.hid (visI_odd (v := v) (by omega) (by omega) (by omega) m)
        have u1 : IntKind.u8.wrap (m : Int) = (m : Int) := by rw [IntKind.wrap_u8]; omega
        have u2 : IntKind.u8.wrap (q : Int) = (q : Int) := by rw [IntKind.wrap_u8]; omega
        have u3 : IntKind.i64.wrap (m : Int) = (m : Int) := by rw [IntKind.wrap_i64]; omega
        have u4 : IntKind.i64.wrap (q : Int) = (q : Int) := by rw [IntKind.wrap_i64]; omega
        have u5 : IntKind.i64.wrap (2 * (q : Int)) = 2 * (q : Int) := by rw [IntKind.wrap_i64]; omega
        have u6 : IntKind.i64.wrap v = v := by rw [IntKind.wrap_i64]; omega
        clear hV hc1 HO
        go_wp2_with (first
          | (go_at_call 11; refine HV.out.mono ?_; rintro e w3 ⟨v3, rfl, hv3, hb3⟩; obtain ⟨A3, c3, he3, _⟩ := own_form hv3; subst he3; have HV3 := Lib.hid (Rd.of_own hv3); have HB3 := Lib.hid (HB.out.trans (hb3.mono HB.out.size)); clear hv3 hb3)
          | fail)
        go_loopw [37] (fun i ws => ∃ j : Nat, j ≤ k ∧ i = .int .i64 (j : Int) ∧ ws = w3) (fun i _ => k - (intOf i).toNat)
        case atStart => exact ⟨0, Nat.zero_le _, rfl, rfl⟩
        case round =>
          obtain ⟨j, hj, rfl, rfl⟩ := hrel
          by_cases hjk : j < k
          · obtain ⟨ad, rfl, _, hcell⟩ := HV3.out.at_ hjk
            have cj := hcell (.int .i64 (j : Int)) (by rw [List.getElem?_map, List.getElem?_map, List.getElem?_range hjk]; rfl)
            have g5 : ((j : Int) != (j : Int)) = false := by simp
            have j1 : (j : Int) < (k : Int) := by omega
            have j2 : (0 : Int) ≤ (j : Int) := by omega
            have j3 : (j : Int) ≤ 200 := by omega
            clear hcell
            go_wp2
            go_roundw
            case rel => exact ⟨j + 1, by omega, by go_num, by first | rfl | trivial⟩
            case measure => simp [intOf]; omega
          · have j1 : ¬ (j : Int) < (k : Int) := by omega
            have HRP := Lib.hid (fun (W : World) => repeatI_any v W.heap.size 1 m hm100 (W.alloc (.cells #[.int .i64 v] 3)) (by have h9 := cells_new W [.int .i64 v] 3 0 _ rfl; rw [addNew] at h9; exact h9))
            have HRL : Hid (∀ (W : World) (g : Nat), W.heap[g]? = some (.cells (List.replicate m (.int .i64 v)).toArray 3 (0, 0)) → Calls Try.prog 11 #[.slice (some ⟨g, 0, none⟩) m m] W fun e w' => ∃ v5, e = .returned v5 ∧ w'.ownsRow W.heap.size 3 1 v5 m ((((List.range m).reverse).map fun i => ((i : Nat) : Int)).map (Value.int .i64)) ∧ Below W.heap.size W w') := Lib.hid (fun W g h => by
              have h9 := orVis_any (some ⟨g, 0, none⟩) m m (List.replicate m v) W (by rw [List.map_replicate]; exact rd_blk 1 h (by simp)) (by omega)
              rw [HVO.out] at h9
              exact h9)
            have g6 : ((m : Int) != (m : Int)) = false := by simp
            clear HV HR HL HT
            go_wp2_with (first
              | (go_at_call 20; refine (HRP.out _).mono ?_; rintro e w4 ⟨g4, rfl, hg4, hge4, hb4⟩; have HG4 := Lib.hid hg4; have HB4 := Lib.hid (HB3.out.trans ((below_self (below_new wr _) hb4).mono HB3.out.size)); clear hg4 hb4)
              | (go_at_call 11; refine (HRL.out w4 g4 HG4.out).mono ?_; rintro e w5 ⟨v5, rfl, hv5, hb5⟩; obtain ⟨A5, c5, he5, _⟩ := own_form hv5; subst he5; have HV5 := Lib.hid (Rd.of_own hv5); have HB5 := Lib.hid (HB4.out.trans (hb5.mono HB4.out.size)); clear hv5 hb5)
              | fail)
            go_loopw [65] (fun i ws => ∃ p : Nat, p ≤ m ∧ i = .int .i64 (p : Int) ∧ ws = w5) (fun i _ => m - (intOf i).toNat)
            case atStart => exact ⟨0, Nat.zero_le _, rfl, rfl⟩
            case round =>
              obtain ⟨p, hp, rfl, rfl⟩ := hrel
              by_cases hpm : p < m
              · obtain ⟨ad, rfl, _, hcell⟩ := HV5.out.at_ hpm
                obtain ⟨z, hz⟩ : ∃ z : Int, (m : Int) - 1 - (p : Int) = z := ⟨_, rfl⟩
                have cj := hcell (.int .i64 z) (by rw [List.getElem?_map, List.getElem?_map, List.getElem?_reverse (by simpa using hpm), List.length_range, List.getElem?_range (by omega)]; simp only [Option.map_some]; congr 2; omega)
                have g5 : (z != z) = false := by simp
                have w1 : IntKind.i64.wrap z = z := by rw [IntKind.wrap_i64]; omega
                have j1 : (p : Int) < (m : Int) := by omega
                have j2 : (0 : Int) ≤ (p : Int) := by omega
                have j3 : (m : Int) ≤ 100 := by omega
                clear hcell
                go_wp2
                go_roundw
                case rel => exact ⟨p + 1, by omega, by go_num, by first | rfl | trivial⟩
                case measure => simp [intOf]; omega
              · have j1 : ¬ (p : Int) < (m : Int) := by omega
                go_wp2_with (first
                  | (go_at_call 10; refine (HAW.out _).mono ?_; rintro e w7 ⟨rfl, hb7⟩; have HB7 := Lib.hid (HB5.out.trans (hb7.mono HB5.out.size)); clear hb7)
                  | fail)
                go_ret
                exact ⟨rfl, HB7.out⟩
end Go.Proofs.Ytaiefneimjdmhaa
