/- naskhlaw01.WideReads returns true for every slice of units. -/
import Derived.Test.YtoopchpolcfdaaaDoorAwakeW
import Derived.Test.YtoopchpolcfdaaaDoorDecWR
import Derived.Test.YtoopchpolcfdaaaDoorEqH
import Derived.Test.YtoopchpolcfdaaaDoorCloneH
namespace Go.Proofs.YtoopchpolcfdaaaDoor
open Go.RowKit

theorem oneU16 (us : List Int) : ∀ u ∈ us.map (Value.int .u16), u.oneCell' = true := oneInts _ _

set_option maxHeartbeats 1000000 in
theorem wideReads_any (A : Option Addr) (n c : Nat) (us : List Int) (w : World) (hs : Stretches w) (hr : Rd w 1 A n (us.map (Value.int .u16))) (hu : ∀ x ∈ us, Unit16 x) (hc : n ≤ c) :
    Calls Tryd.prog 3 #[.slice A n c] w fun e w' => e = .returned (.bool true) ∧ Below w.heap.size w w' := by
  have hlen : us.length = n := by simpa using hr.len1
  have HL := Lib.hid hlen
  clear hlen
  by_cases hlt : n ≤ 2000
  · go_enter Tryd.func3, Tryd.ntmps3
    go_wp2_with fail
    refine (cloneU16_any A n c _ w hr (oneU16 us) (by omega)).mono ?_
    rintro e w1 ⟨v, rfl, hown, hb1⟩
    obtain ⟨A1, c1, rfl, hc1⟩ := own_form hown
    have hr1 := hr.below hb1
    have hr2 := Rd.of_own hown
    clear hown
    go_wp2_with fail
    refine (decode_any A n c us w1 hr1 hu (by omega) hc).mono ?_
    rintro e w2 ⟨v, rfl, hown, hb⟩
    obtain ⟨A2, c2, rfl, hc2⟩ := own_form hown
    have hd2 := Rd.of_own hown
    clear hown
    have hr1' := hr1.below hb
    have hr2' := hr2.below hb
    have hb2 := below_self hb1 hb
    clear hb hr1 hr2 hb1
    go_wp2_with fail
    refine (refDecode_any A n c us w2 hr1' hu (by omega)).mono ?_
    rintro e w3 ⟨v, rfl, hown, hb⟩
    obtain ⟨A3, c3, rfl, hc3⟩ := own_form hown
    have hd3 := Rd.of_own hown
    clear hown
    have hd2' := hd2.below hb
    have hr1 := hr1'.below hb
    have hr2 := hr2'.below hb
    have hb3 := below_self hb2 hb
    clear hb hr1' hr2' hd2 hb2
    have hdl : (decW us).length ≤ maxLen := by have h1 := decW_len us; have h2 := HL.out; unfold maxLen; omega
    go_wp2_with fail
    refine (equalInt_b A2 A3 _ _ c2 c3 (decW us) (decW us) w3 hd2' hd3 hdl hdl).mono ?_
    rintro e w4 ⟨rfl, hb⟩
    have hr1' := hr1.below hb
    have hr2' := hr2.below hb
    have hb4 := below_self hb3 hb
    clear hb hr1 hr2 hb3
    simp only [decide_true]
    go_wp2_with fail
    refine (equalU16_b A A1 _ _ c c1 us us w4 hr1' hr2' (by unfold maxLen; omega) (by unfold maxLen; omega)).mono ?_
    rintro e w5 ⟨rfl, hb⟩
    have hb5 := below_self hb4 hb
    clear hb hb4
    simp only [decide_true]
    go_wp2_with fail
    refine (awakeW_any _ (hs.below hb5)).mono ?_
    rintro e w6 ⟨rfl, hb⟩
    have hb6 := below_self hb5 hb
    clear hb hb5
    go_wp2
    go_ret
    exact ⟨rfl, hb6⟩
  · go_enter Tryd.func3, Tryd.ntmps3
    go_wp2_with fail
    refine (awakeW_any _ hs).mono ?_
    rintro e w6 ⟨rfl, hb⟩
    go_wp2
    go_ret
    exact ⟨rfl, hb⟩
end Go.Proofs.YtoopchpolcfdaaaDoor
