/- naskhlaw01.WideWrites returns true for every slice of numbers. -/
import Derived.Test.YtoopchpolcfdaaaDoorEncWR
import Derived.Test.YtoopchpolcfdaaaDoorSizesW
import Derived.Test.YtoopchpolcfdaaaDoorEqH
namespace Go.Proofs.YtoopchpolcfdaaaDoor
open Go.RowKit

set_option maxHeartbeats 2000000 in
theorem wideWrites_any (A : Option Addr) (n c : Nat) (l : List Int) (w : World) (hs : Stretches w) (hr : Rd w 1 A n (l.map (Value.int .i64))) :
    Calls Tryd.prog 4 #[.slice A n c] w fun e w' => e = .returned (.bool true) ∧ Below w.heap.size w w' := by
  have hlen : l.length = n := by simpa using hr.len1
  have HL := Lib.hid hlen
  clear hlen
  have hel := encW_len l
  rw [HL.out] at hel
  by_cases hlt : n ≤ 2000
  · cases hv : (l.any fun x => sizeW x == 0) with
    | true =>
      have HV := Lib.hid hv
      clear hv
      have C1 := Lib.hid (encode_err A n c l w hs hr (by omega) HV.out)
      go_enter Tryd.func4, Tryd.ntmps4
      go_wp2_with fail
      refine C1.out.mono ?_
      rintro e w1 ⟨rfl, hb1⟩
      go_wp2_with fail
      refine (refEncode_any A n c l w1 (hr.below hb1) (by omega)).mono ?_
      rintro e w2 h
      rcases h with ⟨_, rfl, hb⟩ | ⟨ha, _⟩
      · have hb2 := below_self hb1 hb
        clear hb hb1
        go_wp2_with fail
        refine (equalU16_b none none 0 0 0 0 [] [] _ Rd.nil_ Rd.nil_ (by unfold maxLen; omega) (by unfold maxLen; omega)).mono ?_
        rintro e w3 ⟨rfl, hb⟩
        have hb3 := below_self hb2 hb
        clear hb hb2
        simp only [decide_true]
        go_wp2_with fail
        refine (sizesW_any A n c l _ (hs.below hb3) (hr.below hb3) (by omega)).mono ?_
        rintro e w4 ⟨v, rfl, hown, hb⟩
        obtain ⟨A4, c4, rfl, _⟩ := own_form hown
        have hd4 := Rd.of_own hown
        have hb4 := below_self hb3 hb
        clear hown hb hb3
        go_wp2_with fail
        refine (refSizesW_any A n c l _ (hr.below hb4) (by omega)).mono ?_
        rintro e w5 ⟨v, rfl, hown, hb⟩
        obtain ⟨A5, c5, rfl, _⟩ := own_form hown
        have hd5 := Rd.of_own hown
        have hd4' := hd4.below hb
        have hb5 := below_self hb4 hb
        clear hown hb hb4 hd4
        go_wp2_with fail
        refine (equalInt_b A4 A5 n n c4 c5 _ _ _ hd4' hd5 (by unfold maxLen; omega) (by unfold maxLen; omega)).mono ?_
        rintro e w6 ⟨rfl, hb⟩
        have hb6 := below_self hb5 hb
        clear hb hb5
        simp only [decide_true]
        go_wp2_with fail
        refine (awakeW_any _ (hs.below hb6)).mono ?_
        rintro e w7 ⟨rfl, hb⟩
        have hb7 := below_self hb6 hb
        clear hb hb6
        go_wp2
        go_ret
        exact ⟨rfl, hb7⟩
      · rw [HV.out] at ha; cases ha
    | false =>
      have HV := Lib.hid hv
      clear hv
      have C1 := Lib.hid (encode_ok A n c l w hs hr (by omega) HV.out)
      go_enter Tryd.func4, Tryd.ntmps4
      go_wp2_with fail
      refine C1.out.mono ?_
      rintro e w1 ⟨v, rfl, hown, hb1⟩
      obtain ⟨A1, c1, rfl, _⟩ := own_form hown
      have hd1 := Rd.of_own hown
      clear hown
      go_wp2_with fail
      refine (refEncode_any A n c l w1 (hr.below hb1) (by omega)).mono ?_
      rintro e w2 h
      rcases h with ⟨ha, _⟩ | ⟨_, v, rfl, hown, hb⟩
      · rw [HV.out] at ha; cases ha
      · obtain ⟨A2, c2, rfl, _⟩ := own_form hown
        have hd2 := Rd.of_own hown
        have hd1' := hd1.below hb
        have hb2 := below_self hb1 hb
        clear hb hb1 hown hd1
        go_wp2_with fail
        refine (equalU16_b A1 A2 _ _ c1 c2 _ _ _ hd1' hd2 (by unfold maxLen; omega) (by unfold maxLen; omega)).mono ?_
        rintro e w3 ⟨rfl, hb⟩
        have hb3 := below_self hb2 hb
        clear hb hb2
        simp only [decide_true]
        go_wp2_with fail
        refine (sizesW_any A n c l _ (hs.below hb3) (hr.below hb3) (by omega)).mono ?_
        rintro e w4 ⟨v, rfl, hown, hb⟩
        obtain ⟨A4, c4, rfl, _⟩ := own_form hown
        have hd4 := Rd.of_own hown
        have hb4 := below_self hb3 hb
        clear hown hb hb3
        go_wp2_with fail
        refine (refSizesW_any A n c l _ (hr.below hb4) (by omega)).mono ?_
        rintro e w5 ⟨v, rfl, hown, hb⟩
        obtain ⟨A5, c5, rfl, _⟩ := own_form hown
        have hd5 := Rd.of_own hown
        have hd4' := hd4.below hb
        have hb5 := below_self hb4 hb
        clear hown hb hb4 hd4
        go_wp2_with fail
        refine (equalInt_b A4 A5 n n c4 c5 _ _ _ hd4' hd5 (by unfold maxLen; omega) (by unfold maxLen; omega)).mono ?_
        rintro e w6 ⟨rfl, hb⟩
        have hb6 := below_self hb5 hb
        clear hb hb5
        simp only [decide_true]
        go_wp2_with fail
        refine (awakeW_any _ (hs.below hb6)).mono ?_
        rintro e w7 ⟨rfl, hb⟩
        have hb7 := below_self hb6 hb
        clear hb hb6
        go_wp2
        go_ret
        exact ⟨rfl, hb7⟩
  · go_enter Tryd.func4, Tryd.ntmps4
    go_wp2_with fail
    refine (awakeW_any _ hs).mono ?_
    rintro e w7 ⟨rfl, hb⟩
    go_wp2
    go_ret
    exact ⟨rfl, hb⟩
end Go.Proofs.YtoopchpolcfdaaaDoor
