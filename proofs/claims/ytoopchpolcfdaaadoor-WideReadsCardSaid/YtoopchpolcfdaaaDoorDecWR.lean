/- The reference's Decode of units hands back decW of the units. -/
import Derived.Test.YtoopchpolcfdaaaDoorDecW2
namespace Go.Proofs.YtoopchpolcfdaaaDoor
open Go.RowKit

theorem drop_cons {us : List Int} {k : Nat} {x : Int} (h : us[k]? = some x) : us.drop k = x :: us.drop (k + 1) := by
  obtain ⟨hk, rfl⟩ := List.getElem?_eq_some_iff.1 h
  exact List.drop_eq_getElem_cons hk
theorem decW_solo {us : List Int} {k : Nat} {x : Int} (h : us[k]? = some x) (hs : x < 55296 ∨ 56320 ≤ x ∨ us.length ≤ k + 1 ∨ ∃ y, us[k + 1]? = some y ∧ (y < 56320 ∨ 57343 < y)) : decW (us.drop k) = soloW x :: decW (us.drop (k + 1)) := by
  rw [drop_cons h]
  match hr : us.drop (k + 1) with
  | [] => simp [decW]
  | y :: r =>
    have hy : us[k + 1]? = some y := by
      have : (us.drop (k + 1))[0]? = some y := by rw [hr]; rfl
      simpa using this
    have ho : opensW x y = false := by
      refine decide_eq_false ?_
      rcases hs with hs | hs | hs | ⟨z, hz, hs⟩
      · omega
      · omega
      · rw [List.getElem?_eq_none hs] at hy; cases hy
      · rw [hy] at hz; injection hz with hz; subst hz; omega
    simp [decW, ho]
theorem decW_pair {us : List Int} {k : Nat} {x y : Int} (h : us[k]? = some x) (h' : us[k + 1]? = some y) (hs : 55296 ≤ x ∧ x < 56320 ∧ 56320 ≤ y ∧ y ≤ 57343) : decW (us.drop k) = pairW x y :: decW (us.drop (k + 2)) := by
  rw [drop_cons h, drop_cons h']
  have ho : opensW x y = true := decide_eq_true hs
  simp [decW, ho]

set_option maxHeartbeats 2000000 in
theorem refDecode_any (A : Option Addr) (n c : Nat) (us : List Int) (w : World) (hr : Rd w 1 A n (us.map (Value.int .u16))) (hu : ∀ x ∈ us, Unit16 x) (hm : n ≤ 16777216) :
    Calls Tryd.prog 17 #[.slice A n c] w fun e w' => ∃ v, e = .returned v ∧ w'.ownsRow w.heap.size 3 1 v (decW us).length ((decW us).map (Value.int .i64)) ∧ Below w.heap.size w w' := by
  have hlen : us.length = n := by simpa using hr.len1
  have HL := Lib.hid hlen
  clear hlen
  go_enter Tryd.func17, Tryd.ntmps17
  go_wp2
  go_loopw [3, 4] (fun v i wr => ∃ (k : Nat) (acc : List Int), k ≤ n ∧ i = .int .i64 k ∧ wr.ownsRow w.heap.size 3 1 v acc.length (acc.map (Value.int .i64)) ∧ acc.length ≤ k ∧ decW us = acc ++ decW (us.drop k) ∧ Below w.heap.size w wr) (fun _ i _ => n - (intOf i).toNat)
  case atStart => exact ⟨0, [], Nat.zero_le _, rfl, ⟨rfl, .inl ⟨rfl, rfl⟩⟩, Nat.le_refl _, by simp, Below.refl _ _⟩
  case round =>
    obtain ⟨k, acc, hk, rfl, hown, hle, hd, hb⟩ := hrel
    have HD := Lib.hid hd
    clear hd
    by_cases hlt : k < n
    · obtain ⟨x, hxk⟩ : ∃ x, us[k]? = some x := ⟨_, List.getElem?_eq_getElem (by rw [HL.out]; exact hlt)⟩
      obtain ⟨hx0, hx1⟩ := unit_at hu hxk
      obtain ⟨ad, rfl, hab, hcells⟩ := hr.2 (by omega)
      have hcx : wr.cell? (ad.add k) = some (.int .u16 x) := (hb.cell (by rw [blockAdd]; exact hab)).trans (hcells k _ (by rw [List.getElem?_map, hxk]; rfl))
      have HX := Lib.hid hxk
      clear hxk
      by_cases h1 : x < 55296
      · have HS := Lib.hid (soloW_n (x := x) (by omega))
        have HDD := Lib.hid (decW_solo HX.out (.inl h1))
        go_wp2_with (at_builtin; refine wpList_app rfl _ _ _ rfl intSlice (by decide) u3 acc.length _ rfl (hown.alloc _) ⟨wr.heap.size, 0, none⟩ 1 1 [.int .i64 (x)] rfl rfl (cell_one_new _ _ _) (oneInt _ _) (by omega) (by unfold maxLen; omega) (Nat.le_trans hb.size (by simp)) ?_; intro v1 w1 hown1 hg1 hat1)
        have hgr := below_app (hb.alloc hb.size _) hg1 (hown.alloc _) (Nat.le_trans hb.size (by simp))
        go_roundw
        case rel => exact ⟨k + 1, acc ++ [x], by omega, by go_num, by simpa using hown1, by simp; omega, by rw [HD.out, HDD.out, HS.out]; simp, hgr⟩
        case measure => simp [intOf]; omega
      by_cases h2 : 57343 < x
      · have HS := Lib.hid (soloW_n (x := x) (by omega))
        have HDD := Lib.hid (decW_solo HX.out (.inr (.inl (by omega))))
        go_wp2_with (at_builtin; refine wpList_app rfl _ _ _ rfl intSlice (by decide) u3 acc.length _ rfl (hown.alloc _) ⟨wr.heap.size, 0, none⟩ 1 1 [.int .i64 (x)] rfl rfl (cell_one_new _ _ _) (oneInt _ _) (by omega) (by unfold maxLen; omega) (Nat.le_trans hb.size (by simp)) ?_; intro v1 w1 hown1 hg1 hat1)
        have hgr := below_app (hb.alloc hb.size _) hg1 (hown.alloc _) (Nat.le_trans hb.size (by simp))
        go_roundw
        case rel => exact ⟨k + 1, acc ++ [x], by omega, by go_num, by simpa using hown1, by simp; omega, by rw [HD.out, HDD.out, HS.out]; simp, hgr⟩
        case measure => simp [intOf]; omega
      by_cases h3 : 56320 ≤ x
      · have HS := Lib.hid (soloW_p (x := x) (by omega) (by omega))
        have HDD := Lib.hid (decW_solo HX.out (.inr (.inl (by omega))))
        go_wp2_with (at_builtin; refine wpList_app rfl _ _ _ rfl intSlice (by decide) u3 acc.length _ rfl (hown.alloc _) ⟨wr.heap.size, 0, none⟩ 1 1 [.int .i64 (1114112 + x)] rfl rfl (cell_one_new _ _ _) (oneInt _ _) (by omega) (by unfold maxLen; omega) (Nat.le_trans hb.size (by simp)) ?_; intro v1 w1 hown1 hg1 hat1)
        have hgr := below_app (hb.alloc hb.size _) hg1 (hown.alloc _) (Nat.le_trans hb.size (by simp))
        go_roundw
        case rel => exact ⟨k + 1, acc ++ [1114112 + x], by omega, by go_num, by simpa using hown1, by simp; omega, by rw [HD.out, HDD.out, HS.out]; simp, hgr⟩
        case measure => simp [intOf]; omega
      by_cases h4 : k + 1 < n
      · obtain ⟨y, hyk⟩ : ∃ y, us[k + 1]? = some y := ⟨_, List.getElem?_eq_getElem (by rw [HL.out]; exact h4)⟩
        obtain ⟨hy0, hy1⟩ := unit_at hu hyk
        have hcy : wr.cell? ⟨ad.block, ad.off + (k + 1), none⟩ = some (.int .u16 y) := (hb.cell (p := ⟨ad.block, ad.off + (k + 1), none⟩) hab).trans (hcells (k + 1) _ (by rw [List.getElem?_map, hyk]; rfl))
        have HY := Lib.hid hyk
        clear hyk
        by_cases h5 : y < 56320
        · have HS := Lib.hid (soloW_p (x := x) (by omega) (by omega))
          have HDD := Lib.hid (decW_solo HX.out (.inr (.inr (.inr ⟨y, HY.out, .inl h5⟩))))
          go_wp2_with (at_builtin; refine wpList_app rfl _ _ _ rfl intSlice (by decide) u3 acc.length _ rfl (hown.alloc _) ⟨wr.heap.size, 0, none⟩ 1 1 [.int .i64 (1114112 + x)] rfl rfl (cell_one_new _ _ _) (oneInt _ _) (by omega) (by unfold maxLen; omega) (Nat.le_trans hb.size (by simp)) ?_; intro v1 w1 hown1 hg1 hat1)
          have hgr := below_app (hb.alloc hb.size _) hg1 (hown.alloc _) (Nat.le_trans hb.size (by simp))
          go_roundw
          case rel => exact ⟨k + 1, acc ++ [1114112 + x], by omega, by go_num, by simpa using hown1, by simp; omega, by rw [HD.out, HDD.out, HS.out]; simp, hgr⟩
          case measure => simp [intOf]; omega
        by_cases h6 : 57343 < y
        · have HS := Lib.hid (soloW_p (x := x) (by omega) (by omega))
          have HDD := Lib.hid (decW_solo HX.out (.inr (.inr (.inr ⟨y, HY.out, .inr h6⟩))))
          go_wp2_with (at_builtin; refine wpList_app rfl _ _ _ rfl intSlice (by decide) u3 acc.length _ rfl (hown.alloc _) ⟨wr.heap.size, 0, none⟩ 1 1 [.int .i64 (1114112 + x)] rfl rfl (cell_one_new _ _ _) (oneInt _ _) (by omega) (by unfold maxLen; omega) (Nat.le_trans hb.size (by simp)) ?_; intro v1 w1 hown1 hg1 hat1)
          have hgr := below_app (hb.alloc hb.size _) hg1 (hown.alloc _) (Nat.le_trans hb.size (by simp))
          go_roundw
          case rel => exact ⟨k + 1, acc ++ [1114112 + x], by omega, by go_num, by simpa using hown1, by simp; omega, by rw [HD.out, HDD.out, HS.out]; simp, hgr⟩
          case measure => simp [intOf]; omega
        have HS := Lib.hid (show pairW x y = 65536 + (x - 55296) * 1024 + y - 56320 from rfl)
        have HDD := Lib.hid (decW_pair HX.out HY.out ⟨by omega, by omega, by omega, by omega⟩)
        go_wp2_with (at_builtin; refine wpList_app rfl _ _ _ rfl intSlice (by decide) u3 acc.length _ rfl (hown.alloc _) ⟨wr.heap.size, 0, none⟩ 1 1 [.int .i64 (65536 + (x - 55296) * 1024 + y - 56320)] rfl rfl (cell_one_new _ _ _) (oneInt _ _) (by omega) (by unfold maxLen; omega) (Nat.le_trans hb.size (by simp)) ?_; intro v1 w1 hown1 hg1 hat1)
        have hgr := below_app (hb.alloc hb.size _) hg1 (hown.alloc _) (Nat.le_trans hb.size (by simp))
        go_roundw
        case rel => exact ⟨k + 2, acc ++ [65536 + (x - 55296) * 1024 + y - 56320], by omega, by go_num, by simpa using hown1, by simp; omega, by rw [HD.out, HDD.out, HS.out]; simp, hgr⟩
        case measure => simp [intOf]; omega
      · have HS := Lib.hid (soloW_p (x := x) (by omega) (by omega))
        have HDD := Lib.hid (decW_solo HX.out (.inr (.inr (.inl (by rw [HL.out]; omega)))))
        go_wp2_with (at_builtin; refine wpList_app rfl _ _ _ rfl intSlice (by decide) u3 acc.length _ rfl (hown.alloc _) ⟨wr.heap.size, 0, none⟩ 1 1 [.int .i64 (1114112 + x)] rfl rfl (cell_one_new _ _ _) (oneInt _ _) (by omega) (by unfold maxLen; omega) (Nat.le_trans hb.size (by simp)) ?_; intro v1 w1 hown1 hg1 hat1)
        have hgr := below_app (hb.alloc hb.size _) hg1 (hown.alloc _) (Nat.le_trans hb.size (by simp))
        go_roundw
        case rel => exact ⟨k + 1, acc ++ [1114112 + x], by omega, by go_num, by simpa using hown1, by simp; omega, by rw [HD.out, HDD.out, HS.out]; simp, hgr⟩
        case measure => simp [intOf]; omega
    · have HN := Lib.hid (show decW us = acc by rw [HD.out, List.drop_eq_nil_of_le (by rw [HL.out]; omega)]; simp [decW])
      go_wp2
      go_ret
      exact ⟨u3, rfl, by rw [HN.out]; exact hown, hb⟩
end Go.Proofs.YtoopchpolcfdaaaDoor
