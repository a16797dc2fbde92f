/- naskhlaw22.ExplicitLevels, walked. -/
import Derived.Test.YtflbiblkphaagaaExA
import Derived.Test.YtflbiblkphaagaaRxL
namespace Go.Proofs.Ytflbiblkphaagaa
open Go.RowKit

set_option maxRecDepth 100000 in
set_option maxHeartbeats 4000000 in
theorem explicitLevels_any (A : Option Addr) (n c : Nat) (xs : List Int) (level : Int) (w : World) (hr : Rd w 1 A n (xs.map (Value.int .i64))) (hnc : n ≤ c) (hn : n ≤ maxLen) :
    Calls Try.prog 7 #[.slice A n c, .int .i64 level] w fun e w' => e = .returned (.bool true) ∧ Below w.heap.size w w' := by
  unfold maxLen at hn
  by_cases hs : n ≤ 300
  · have hn300 : (n : Int) ≤ 300 := by omega
    have hlen : xs.length = n := by simpa using hr.len1
    have HL := Lib.hid hlen
    have HR := Lib.hid hr
    have HLV := Lib.hid (exLevels_any A n c xs level w hr (by omega) hnc)
    have HRV := Lib.hid (fun W (k : Below w.heap.size w W) => rxLevels_any A n c xs level W (hr.below k) (by omega) hnc)
    obtain ⟨la, hla⟩ : ∃ la, lvL xs (baseL level) n = la := ⟨_, rfl⟩
    obtain ⟨lb, hlb⟩ : ∃ lb, clL xs (baseL level) n = lb := ⟨_, rfl⟩
    rw [hla, hlb] at HLV HRV
    clear hr hlen hla hlb
    go_enter Try.func7, Try.ntmps7
    go_wp2_with fail
    refine HLV.out.mono ?_
    rintro e w1 ⟨⟨ga, gb, rfl, hra, hrb⟩, hb1⟩
    have HRA := Lib.hid hra
    have HRB := Lib.hid hrb
    have HB1 := Lib.hid hb1
    clear hra hrb hb1
    go_wp2_with fail
    refine (HRV.out _ HB1.out).mono ?_
    rintro e w2 ⟨⟨V, cv, V', cv', rfl, hrx, hry⟩, hb2⟩
    have HRX := Lib.hid hrx
    have HRY := Lib.hid hry
    have HRA2 := Lib.hid (HRA.out.below hb2)
    have HRB2 := Lib.hid (HRB.out.below hb2)
    have HR2 := Lib.hid ((HR.out.below HB1.out).below hb2)
    have HB2 := Lib.hid (below_self HB1.out hb2)
    clear hrx hry hb2
    go_wp2_with fail
    go_loopw [29] (fun i wr => ∃ k : Nat, k ≤ n ∧ i = .int .i64 (k : Int) ∧ wr = w2) (fun i _ => n - (intOf i).toNat)
    case atStart => exact ⟨0, Nat.zero_le _, rfl, rfl⟩
    case round =>
      obtain ⟨k, hk, rfl, rfl⟩ := hrel
      by_cases hlt : k < n
      · obtain ⟨x, hx⟩ : ∃ x, xs[k]? = some x := ⟨_, List.getElem?_eq_getElem (by rw [HL.out]; exact hlt)⟩
        obtain ⟨ad, rfl, hab, hcell⟩ := HR2.out.at_ hlt
        have cx := hcell _ (by rw [List.getElem?_map, hx]; rfl)
        have hkn : (k : Int) < (n : Int) := by omega
        have hk0 : (0 : Int) ≤ (k : Int) := by omega
        have H1 := Lib.hid (fun W => exLeft_any x W)
        have H2 := Lib.hid (fun W => rxLeft_any x W)
        obtain ⟨v, hv⟩ : ∃ v, leftC x = v := ⟨_, rfl⟩
        rw [hv] at H1 H2
        have hvv : (v != v) = false := by simp
        clear hcell hx hv
        go_wp2_with fail
        refine (H1.out _).mono ?_
        rintro e w3 ⟨rfl, rfl⟩
        go_wp2_with fail
        refine (H2.out _).mono ?_
        rintro e w3 ⟨rfl, rfl⟩
        go_wp2_with fail
        go_roundw
        case rel => exact ⟨k + 1, by omega, by go_num, by first | rfl | trivial⟩
        case measure => simp [intOf]; omega
      · obtain rfl : k = n := by omega
        go_wp2_with fail
        refine (equalInt_b _ _ k k k cv la la _ HRA2.out HRX.out (by unfold maxLen; omega) (by unfold maxLen; omega)).mono ?_
        rintro e w3 ⟨rfl, hb3⟩
        rw [decide_eq_true rfl]
        have HB3 := Lib.hid (below_self HB2.out hb3)
        have HRB3 := Lib.hid (HRB2.out.below hb3)
        have HRY3 := Lib.hid (HRY.out.below hb3)
        clear hb3
        go_wp2_with fail
        refine (equalInt_b _ _ k k k cv' lb lb _ HRB3.out HRY3.out (by unfold maxLen; omega) (by unfold maxLen; omega)).mono ?_
        rintro e w4 ⟨rfl, hb4⟩
        rw [decide_eq_true rfl]
        have HB4 := Lib.hid (below_self HB3.out hb4)
        clear hb4
        go_wp2_with fail
        refine (awakeEx_any _).mono ?_
        rintro e w5 ⟨rfl, hb5⟩
        have HB5 := Lib.hid (below_self HB4.out hb5)
        clear hb5
        go_wp2
        go_ret
        exact ⟨rfl, HB5.out⟩
  · have hn300 : (300 : Int) < (n : Int) := by omega
    clear hr
    go_enter Try.func7, Try.ntmps7
    go_wp2_with fail
    refine (awakeEx_any _).mono ?_
    rintro e w4 ⟨rfl, hb4⟩
    have HB4 := Lib.hid hb4
    clear hb4
    go_wp2
    go_ret
    exact ⟨rfl, HB4.out⟩
end Go.Proofs.Ytflbiblkphaagaa
