/- naskhlaw02.NarrowReads returns true for every slice of bytes. -/
import Derived.Test.YtoopchpolcfdaaaDoorAwakeN
import Derived.Test.YtoopchpolcfdaaaDoorDecNR
import Derived.Test.YtoopchpolcfdaaaDoorEqB
import Derived.Test.YtoopchpolcfdaaaDoorCloneB
namespace Go.Proofs.YtoopchpolcfdaaaDoor
open Go.RowKit

set_option maxHeartbeats 1000000 in
theorem narrowReads_any (A : Option Addr) (n c : Nat) (us : List Int) (w : World) (hs : TabN w) (hr : Rd w 1 A n (us.map (Value.int .u8))) (hu : ∀ x ∈ us, Byte8 x) (hc : n ≤ c) :
    Calls Tryd.prog 8 #[.slice A n c] w fun e w' => e = .returned (.bool true) ∧ Below w.heap.size w w' := by
  have hlen : us.length = n := by simpa using hr.len1
  have HL := Lib.hid hlen
  clear hlen
  by_cases hlt : n ≤ 2000
  · go_enter Tryd.func8, Tryd.ntmps8
    go_wp2_with fail
    refine (cloneU8_any A n c _ w hr (oneInts _ us) (by omega)).mono ?_
    rintro e w1 ⟨v, rfl, hown, hb1⟩
    obtain ⟨A1, c1, rfl, hc1⟩ := own_form hown
    have hr1 := hr.below hb1
    have hr2 := Rd.of_own hown
    clear hown
    go_wp2_with fail
    refine (decodeN_any A n c us w1 (hs.below hb1) hr1 hu (by omega) hc).mono ?_
    rintro e w2 ⟨v, rfl, hown, hb⟩
    obtain ⟨A2, c2, rfl, hc2⟩ := own_form hown
    have hd2 := Rd.of_own hown
    clear hown
    have hr1' := hr1.below hb
    have hr2' := hr2.below hb
    have hb2 := below_self hb1 hb
    clear hb hr1 hr2 hb1
    go_wp2_with fail
    refine (refDecodeN_any A n c us w2 hr1' hu (by omega) hc).mono ?_
    rintro e w3 ⟨v, rfl, hown, hb⟩
    obtain ⟨A3, c3, rfl, hc3⟩ := own_form hown
    have hd3 := Rd.of_own hown
    clear hown
    have hd2' := hd2.below hb
    have hr1 := hr1'.below hb
    have hr2 := hr2'.below hb
    have hb3 := below_self hb2 hb
    clear hb hr1' hr2' hd2 hb2
    have hdl : (decN us).length ≤ maxLen := by have h1 := decN_len us; have h2 := HL.out; unfold maxLen; omega
    go_wp2_with fail
    refine (equalInt_b A2 A3 _ _ c2 c3 (decN us) (decN us) w3 hd2' hd3 hdl hdl).mono ?_
    rintro e w4 ⟨rfl, hb⟩
    have hr1' := hr1.below hb
    have hr2' := hr2.below hb
    have hb4 := below_self hb3 hb
    clear hb hr1 hr2 hb3
    simp only [decide_true]
    go_wp2_with fail
    refine (equalU8_b A A1 _ _ c c1 us us w4 hr1' hr2' (by unfold maxLen; omega) (by unfold maxLen; omega)).mono ?_
    rintro e w5 ⟨rfl, hb⟩
    have hb5 := below_self hb4 hb
    clear hb hb4
    simp only [decide_true]
    go_wp2_with fail
    refine (awakeN_any _ (hs.below hb5)).mono ?_
    rintro e w6 ⟨rfl, hb⟩
    have hb6 := below_self hb5 hb
    clear hb hb5
    go_wp2
    go_ret
    exact ⟨rfl, hb6⟩
  · go_enter Tryd.func8, Tryd.ntmps8
    go_wp2_with fail
    refine (awakeN_any _ hs).mono ?_
    rintro e w6 ⟨rfl, hb⟩
    go_wp2
    go_ret
    exact ⟨rfl, hb⟩
end Go.Proofs.YtoopchpolcfdaaaDoor
