/- The reference's Held, places, odd, turn, walked. -/
import Derived.Test.YtbnjflkafdkcpaaOrD
import Derived.Test.YtbnjflkafdkcpaaStL
import Derived.Test.YtbnjflkafdkcpaaMem3
import Derived.Test.YtbnjflkafdkcpaaSpBlk
namespace Go.Proofs.Ytbnjflkafdkcpaa
open Go.RowKit

set_option maxRecDepth 100000 in
set_option maxHeartbeats 2000000 in
theorem roPlaces_any (n : Nat) (w : World) (hn : n ≤ 100000) :
    Calls Try.prog 33 #[.int .i64 n] w fun e w' => ∃ v, e = .returned v ∧ w'.ownsRow w.heap.size 3 1 v n ((List.range n).map fun i => .int .i64 ((i : Nat) : Int)) ∧ Below w.heap.size w w' := by
  go_enter Try.func33, Try.ntmps33
  go_wp2
  go_loopw [3, 4] (fun v i wr => ∃ k : Nat, k ≤ n ∧ i = .int .i64 (k : Int) ∧ wr.ownsRow w.heap.size 3 1 v k ((List.range k).map fun i => .int .i64 ((i : Nat) : Int)) ∧ Below w.heap.size w wr) (fun _ i _ => n - (intOf i).toNat)
  case atStart => exact ⟨0, Nat.zero_le _, rfl, ⟨rfl, .inl ⟨rfl, rfl⟩⟩, Below.refl _ _⟩
  case round =>
    obtain ⟨k, hk, rfl, hO, hb⟩ := hrel
    have HO := Lib.hid hO
    have HB := Lib.hid hb
    clear hO hb
    by_cases hlt : k < n
    · have hkn : (k : Int) < (n : Int) := by omega
      have hk5 : (k : Int) ≤ 100000 := by omega
      have hsz := HB.out.size
      go_wp2_with (first
        | (at_builtin; refine wpList_app rfl _ _ _ rfl intSliceM (by decide) _ k _ rfl (HO.out.alloc _) ⟨wr.heap.size, 0, none⟩ 1 1 [.int .i64 (k : Int)] rfl rfl (cells_new wr [.int .i64 (k : Int)] 3) (oneInt _ _) (by omega) (by unfold maxLen; omega) (Nat.le_trans hsz (by simp)) ?_; intro v1 w3 hown3 hg3 hat3)
        | fail)
      have HO3 : Hid (w3.ownsRow w.heap.size 3 1 v1 (k + 1) ((List.range (k + 1)).map fun i => .int .i64 ((i : Nat) : Int))) := Lib.hid (by rw [List.range_succ, List.map_append]; exact hown3)
      have HB3 := Lib.hid (below_app (HB.out.alloc hsz _) hg3 (HO.out.alloc _) (Nat.le_trans hsz (by simp)))
      clear hown3 hg3 hat3
      go_roundw
      case rel => exact ⟨k + 1, by omega, by go_num, HO3.out, HB3.out⟩
      case measure => simp [intOf]; omega
    · obtain rfl : k = n := by omega
      go_wp2
      go_ret
      exact ⟨_, rfl, HO.out, HB.out⟩
set_option maxRecDepth 100000 in
set_option maxHeartbeats 2000000 in
theorem roHeld_any (A : Option Addr) (n c : Nat) (ls : List Int) (w : World) (hr : Rd w 1 A n (ls.map (Value.int .i64))) (hn : n ≤ 100000) :
    Calls Try.prog 32 #[.slice A n c] w fun e w' => ∃ v, e = .returned v ∧ w'.ownsRow w.heap.size 3 1 v n ((ls.map heldF).map (Value.int .i64)) ∧ Below w.heap.size w w' := by
  have hl : ls.length = n := by simpa using hr.len1
  have HL := Lib.hid hl
  have HR := Lib.hid hr
  clear hl hr
  go_enter Try.func32, Try.ntmps32
  go_wp2
  go_loopw [3, 4] (fun v i wr => ∃ k : Nat, k ≤ n ∧ i = .int .i64 (k : Int) ∧ wr.ownsRow w.heap.size 3 1 v k (((ls.map heldF).take k).map (Value.int .i64)) ∧ Below w.heap.size w wr) (fun _ i _ => n - (intOf i).toNat)
  case atStart => exact ⟨0, Nat.zero_le _, rfl, ⟨rfl, .inl ⟨rfl, rfl⟩⟩, Below.refl _ _⟩
  case round =>
    obtain ⟨k, hk, rfl, hO, hb⟩ := hrel
    have HO := Lib.hid hO
    have HB := Lib.hid hb
    clear hO hb
    by_cases hlt : k < n
    · obtain ⟨x, hx⟩ : ∃ x, ls[k]? = some x := ⟨_, List.getElem?_eq_getElem (by rw [HL.out]; exact hlt)⟩
      obtain ⟨ad, rfl, hab, hcell⟩ := (HR.out.below HB.out).at_ hlt
      have cx : wr.cell? (ad.add k) = some (.int .i64 x) := hcell _ (by rw [List.getElem?_map, hx]; rfl)
      have hkn : (k : Int) < (n : Int) := by omega
      have hk0 : (0 : Int) ≤ (k : Int) := by omega
      have hk5 : (k : Int) ≤ 100000 := by omega
      have hsz := HB.out.size
      have HN := Lib.hid (show (ls.map heldF).take (k + 1) = (ls.map heldF).take k ++ [heldF x] by rw [List.take_add_one, List.getElem?_map, hx]; rfl)
      clear hx hcell
      by_cases h0 : x < 0
      · have hh : heldF x = 0 := by unfold heldF; omega
        rw [hh] at HN
        go_wp2_with (first
          | (at_builtin; refine wpList_app rfl _ _ _ rfl intSliceM (by decide) _ k _ rfl (HO.out.alloc _) ⟨wr.heap.size, 0, none⟩ 1 1 [.int .i64 0] rfl rfl (cells_new wr [.int .i64 0] 3) (oneInt _ _) (by omega) (by unfold maxLen; omega) (Nat.le_trans hsz (by simp)) ?_; intro v1 w3 hown3 hg3 hat3)
          | fail)
        have HO3 : Hid (w3.ownsRow w.heap.size 3 1 v1 (k + 1) (((ls.map heldF).take (k + 1)).map (Value.int .i64))) := Lib.hid (by rw [HN.out, List.map_append]; exact hown3)
        have HB3 := Lib.hid (below_app (HB.out.alloc hsz _) hg3 (HO.out.alloc _) (Nat.le_trans hsz (by simp)))
        clear hown3 hg3 hat3
        go_roundw
        case rel => exact ⟨k + 1, by omega, by go_num, HO3.out, HB3.out⟩
        case measure => simp [intOf]; omega
      · by_cases h1 : 126 < x
        · have hh : heldF x = 126 := by unfold heldF; omega
          rw [hh] at HN
          go_wp2_with (first
            | (at_builtin; refine wpList_app rfl _ _ _ rfl intSliceM (by decide) _ k _ rfl (HO.out.alloc _) ⟨wr.heap.size, 0, none⟩ 1 1 [.int .i64 126] rfl rfl (cells_new wr [.int .i64 126] 3) (oneInt _ _) (by omega) (by unfold maxLen; omega) (Nat.le_trans hsz (by simp)) ?_; intro v1 w3 hown3 hg3 hat3)
            | fail)
          have HO3 : Hid (w3.ownsRow w.heap.size 3 1 v1 (k + 1) (((ls.map heldF).take (k + 1)).map (Value.int .i64))) := Lib.hid (by rw [HN.out, List.map_append]; exact hown3)
          have HB3 := Lib.hid (below_app (HB.out.alloc hsz _) hg3 (HO.out.alloc _) (Nat.le_trans hsz (by simp)))
          clear hown3 hg3 hat3
          go_roundw
          case rel => exact ⟨k + 1, by omega, by go_num, HO3.out, HB3.out⟩
          case measure => simp [intOf]; omega
        · have hh : heldF x = x := by unfold heldF; omega
          rw [hh] at HN
          go_wp2_with (first
            | (at_builtin; refine wpList_app rfl _ _ _ rfl intSliceM (by decide) _ k _ rfl (HO.out.alloc _) ⟨wr.heap.size, 0, none⟩ 1 1 [.int .i64 x] rfl rfl (cells_new wr [.int .i64 x] 3) (oneInt _ _) (by omega) (by unfold maxLen; omega) (Nat.le_trans hsz (by simp)) ?_; intro v1 w3 hown3 hg3 hat3)
            | fail)
          have HO3 : Hid (w3.ownsRow w.heap.size 3 1 v1 (k + 1) (((ls.map heldF).take (k + 1)).map (Value.int .i64))) := Lib.hid (by rw [HN.out, List.map_append]; exact hown3)
          have HB3 := Lib.hid (below_app (HB.out.alloc hsz _) hg3 (HO.out.alloc _) (Nat.le_trans hsz (by simp)))
          clear hown3 hg3 hat3
          go_roundw
          case rel => exact ⟨k + 1, by omega, by go_num, HO3.out, HB3.out⟩
          case measure => simp [intOf]; omega
    · obtain rfl : k = n := by omega
      have HT := Lib.hid (show (ls.map heldF).take k = ls.map heldF from List.take_of_length_le (by rw [List.length_map, HL.out]; exact Nat.le_refl _))
      rw [HT.out] at HO
      go_wp2
      go_ret
      exact ⟨_, rfl, HO.out, HB.out⟩
theorem odd_next {ls : List Int} {v x : Int} {k : Nat} (h : ls[k]? = some x) (hd : ¬ (x % 2 = 1 ∧ x ≤ v)) : oddB (ls.drop k) v = oddB (ls.drop (k + 1)) v := by
  rw [List.drop_eq_getElem_cons (List.getElem?_eq_some_iff.1 h).1, (List.getElem?_eq_some_iff.1 h).2]
  unfold oddB
  rw [List.any_cons, decide_eq_false hd, Bool.false_or]
theorem odd_here {ls : List Int} {v x : Int} {k : Nat} (h : ls[k]? = some x) (hd : x % 2 = 1 ∧ x ≤ v) : oddB (ls.drop k) v = true := by
  rw [List.drop_eq_getElem_cons (List.getElem?_eq_some_iff.1 h).1, (List.getElem?_eq_some_iff.1 h).2]
  unfold oddB
  rw [List.any_cons, decide_eq_true hd, Bool.true_or]
set_option maxRecDepth 100000 in
set_option maxHeartbeats 2000000 in
theorem roOdd_any (A : Option Addr) (n c : Nat) (ls : List Int) (v : Int) (b : Bool) (hb : oddB ls v = b) (w : World) (hr : Rd w 1 A n (ls.map (Value.int .i64))) (hn : n ≤ 100000) (hp : ∀ x ∈ ls, 0 ≤ x) :
    Calls Try.prog 34 #[.slice A n c, .int .i64 v] w fun e w' => e = .returned (.bool b) ∧ ∃ q, w' = w.drewN q := by
  have hl : ls.length = n := by simpa using hr.len1
  have HL := Lib.hid hl
  have HR := Lib.hid hr
  have HV := Lib.hid hb
  have HP := Lib.hid hp
  clear hl hr hb hp
  go_enter Try.func34, Try.ntmps34
  go_wp2
  go_loopw [5] (fun j wr => ∃ k q : Nat, k ≤ n ∧ j = .int .i64 (k : Int) ∧ oddB (ls.drop k) v = b ∧ wr = w.drewN q) (fun j _ => n - (intOf j).toNat)
  case atStart => exact ⟨0, 0, Nat.zero_le _, rfl, HV.out, rfl⟩
  case round =>
    obtain ⟨k, q, hk, rfl, he, rfl⟩ := hrel
    have HE := Lib.hid he
    clear he
    by_cases hlt : k < n
    · obtain ⟨x, hx⟩ : ∃ x, ls[k]? = some x := ⟨_, List.getElem?_eq_getElem (by rw [HL.out]; exact hlt)⟩
      obtain ⟨ad, rfl, hab, hcell⟩ := HR.out.at_ hlt
      have cx : w.cell? (ad.add k) = some (.int .i64 x) := hcell _ (by rw [List.getElem?_map, hx]; rfl)
      have hx0 := HP.out x (List.mem_of_getElem? hx)
      have HX := Lib.hid hx
      have hkn : (k : Int) < (n : Int) := by omega
      have hk0 : (0 : Int) ≤ (k : Int) := by omega
      have hk5 : (k : Int) ≤ 100000 := by omega
      have htm : Int.tmod x 2 = x % 2 := Int.tmod_eq_emod_of_nonneg hx0
      clear hx hcell
      by_cases h1 : x % 2 = 1
      · rw [h1] at htm
        by_cases h2 : x ≤ v
        · have d2 : decide (x ≤ v) = true := decide_eq_true h2
          obtain rfl : true = b := (odd_here HX.out ⟨h1, h2⟩).symm.trans HE.out
          clear h1 h2
          go_wp2
          go_ret
          exact ⟨rfl, q, rfl⟩
        · have d2 : decide (x ≤ v) = false := decide_eq_false h2
          have HN := Lib.hid ((odd_next HX.out (fun h => h2 h.2)).symm.trans HE.out)
          clear h1 h2
          go_wp2
          go_roundw
          case rel => exact ⟨k + 1, q, by omega, by go_num, HN.out, rfl⟩
          case measure => simp [intOf]; omega
      · have h10 : x % 2 = 0 := by omega
        rw [h10] at htm
        have HN := Lib.hid ((odd_next (v := v) HX.out (fun h => h1 h.1)).symm.trans HE.out)
        clear h1 h10
        go_wp2
        go_roundw
        case rel => exact ⟨k + 1, q, by omega, by go_num, HN.out, rfl⟩
        case measure => simp [intOf]; omega
    · have hkn : ¬ (k : Int) < (n : Int) := by omega
      have he := HE.out
      rw [List.drop_eq_nil_of_le (by rw [HL.out]; omega)] at he
      obtain rfl : false = b := he
      go_wp2
      go_ret
      exact ⟨rfl, q, rfl⟩
end Go.Proofs.Ytbnjflkafdkcpaa
