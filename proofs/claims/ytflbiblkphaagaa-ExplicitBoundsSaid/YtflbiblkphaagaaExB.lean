/- naskhlaw22.ExplicitBounds, walked. -/
import Derived.Test.YtflbiblkphaagaaExA
import Derived.Deep.RegionHeld3
namespace Go.Proofs.Ytflbiblkphaagaa
open Go.RowKit

set_option maxRecDepth 100000 in
set_option maxHeartbeats 4000000 in
theorem explicitBounds_any (A : Option Addr) (n c : Nat) (xs : List Int) (level : Int) (w : World) (hr : Rd w 1 A n (xs.map (Value.int .i64))) (hnc : n ≤ c) (hn : n ≤ maxLen) :
    Calls Try.prog 8 #[.slice A n c, .int .i64 level] w fun e w' => e = .returned (.bool true) ∧ Below w.heap.size w w' := by
  unfold maxLen at hn
  by_cases hs : n ≤ 500
  · have hn500 : (n : Int) ≤ 500 := by omega
    have HLV := Lib.hid (exLevels_any A n c xs level w hr (by omega) hnc)
    obtain ⟨base, hbase⟩ : ∃ base, baseL level = base := ⟨_, rfl⟩
    have hb := base_in level
    rw [hbase] at HLV hb
    have HIN := Lib.hid (fun k => ex_in (xs := xs) hb k)
    have hmm : min (max level 0) 1 = base := hbase
    obtain ⟨l0, hl0⟩ : ∃ l0, (if level < 0 then 0 else level) = l0 := ⟨_, rfl⟩
    have hmi : (if 1 < l0 then 1 else l0) = base := by
      rw [← hmm, ← hl0]
      repeat' split
      all_goals omega
    clear hr hbase hmm hb
    go_enter Try.func8, Try.ntmps8
    go_wp2_with fail
    refine HLV.out.mono ?_
    rintro e w1 ⟨⟨ga, gb, rfl, hra, hrb⟩, hb1⟩
    have HRA := Lib.hid hra
    have HB1 := Lib.hid hb1
    clear hra hrb hb1 hmi hl0
    go_wp2_with fail
    go_loopw [37] (fun i wr => ∃ k : Nat, k ≤ n ∧ i = .int .i64 (k : Int) ∧ wr = w1) (fun i _ => n - (intOf i).toNat)
    case atStart => exact ⟨0, Nat.zero_le _, rfl, rfl⟩
    case round =>
      obtain ⟨k, hk, rfl, rfl⟩ := hrel
      by_cases hlt : k < n
      · obtain ⟨ad, hae, hab, hcell⟩ := HRA.out.at_ hlt
        obtain rfl := Option.some.inj hae
        have cx := hcell _ (by rw [List.getElem?_map, lvL_get hlt]; rfl)
        rw [addNew] at cx
        obtain ⟨x, hx⟩ : ∃ x, (exA xs base k).1 = x := ⟨_, rfl⟩
        have hin := HIN.out k
        rw [hx] at cx hin
        have hd1 : decide (x < base) = false := decide_eq_false (by omega)
        have hd2 : decide ((125 : Int) < x) = false := decide_eq_false (by omega)
        have hkn : (k : Int) < (n : Int) := by omega
        have hk0 : (0 : Int) ≤ (k : Int) := by omega
        clear hcell hx hin
        go_wp2_with fail
        go_roundw
        case rel => exact ⟨k + 1, by omega, by go_num, by first | rfl | trivial⟩
        case measure => simp [intOf]; omega
      · obtain rfl : k = n := by omega
        go_wp2_with fail
        refine (awakeEx_any _).mono ?_
        rintro e w4 ⟨rfl, hb4⟩
        have HB4 := Lib.hid (below_self HB1.out hb4)
        clear hb4
        go_wp2
        go_ret
        exact ⟨rfl, HB4.out⟩
  · have hn500 : (500 : Int) < (n : Int) := by omega
    clear hr
    go_enter Try.func8, Try.ntmps8
    go_wp2_with fail
    refine (awakeEx_any _).mono ?_
    rintro e w4 ⟨rfl, hb4⟩
    have HB4 := Lib.hid hb4
    clear hb4
    go_wp2
    go_ret
    exact ⟨rfl, HB4.out⟩
end Go.Proofs.Ytflbiblkphaagaa
