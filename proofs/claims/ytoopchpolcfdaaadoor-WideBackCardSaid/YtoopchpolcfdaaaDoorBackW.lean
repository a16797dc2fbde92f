/- naskhlaw01.WideBack returns true for every slice of units. -/
import Derived.Test.YtoopchpolcfdaaaDoorEncW2
import Derived.Test.YtoopchpolcfdaaaDoorSizesW
import Derived.Test.YtoopchpolcfdaaaDoorEqH
namespace Go.Proofs.YtoopchpolcfdaaaDoor
open Go.RowKit

theorem units_solo {x : Int} (h : Unit16 x) : unitsW (soloW x) = [x] ∧ sizeW (soloW x) = 1 := by
  obtain ⟨h0, h1⟩ := h
  by_cases hp : 55296 ≤ x ∧ x ≤ 57343
  · rw [soloW_p hp.1 hp.2]
    refine ⟨?_, sizeW_ill (by omega) (by omega)⟩
    unfold unitsW
    rw [if_pos (by omega)]
    congr 1; omega
  · rw [soloW_n hp]
    refine ⟨?_, sizeW_1 h0 (by omega) (by omega)⟩
    unfold unitsW
    rw [if_neg (by omega), if_neg (by omega)]
theorem units_pair {x y : Int} (h : opensW x y = true) : unitsW (pairW x y) = [x, y] ∧ sizeW (pairW x y) = 2 := by
  have h' := of_decide_eq_true h
  obtain ⟨h1, h2, h3, h4⟩ := h'
  refine ⟨?_, sizeW_2 (by unfold pairW; omega) (by unfold pairW; omega)⟩
  unfold unitsW pairW
  rw [if_neg (by omega), if_pos (by omega)]
  congr 1
  · omega
  · congr 1; omega
theorem back_all (us : List Int) (hu : ∀ x ∈ us, Unit16 x) : encW (decW us) = us ∧ ((decW us).any fun x => sizeW x == 0) = false ∧ roomW (decW us) = us.length := by
  fun_induction decW us with
  | case1 => exact ⟨rfl, rfl, rfl⟩
  | case2 x =>
    obtain ⟨e1, e2⟩ := units_solo (hu x (by simp))
    simp [encW, roomW, e1, e2]
  | case3 x y r ho ih =>
    obtain ⟨i1, i2, i3⟩ := ih (fun z hz => hu z (by simp [hz]))
    obtain ⟨e1, e2⟩ := units_pair ho
    simp only [encW, roomW, List.flatMap_cons, List.any_cons, List.map_cons, List.sum_cons, List.length_cons] at *
    refine ⟨by rw [e1, i1]; rfl, by rw [e2, i2]; rfl, by rw [e2, i3]; omega⟩
  | case4 x y r ho ih =>
    obtain ⟨i1, i2, i3⟩ := ih (fun z hz => hu z (List.mem_cons_of_mem _ hz))
    obtain ⟨e1, e2⟩ := units_solo (hu x (by simp))
    simp only [encW, roomW, List.flatMap_cons, List.any_cons, List.map_cons, List.sum_cons, List.length_cons] at *
    refine ⟨by rw [e1, i1]; rfl, by rw [e2, i2]; rfl, by rw [e2, i3]; omega⟩

set_option maxHeartbeats 2000000 in
theorem wideBack_any (A : Option Addr) (n c : Nat) (us : List Int) (w : World) (hs : Stretches w) (hr : Rd w 1 A n (us.map (Value.int .u16))) (hu : ∀ x ∈ us, Unit16 x) (hc : n ≤ c) :
    Calls Tryd.prog 6 #[.slice A n c] w fun e w' => e = .returned (.bool true) ∧ Below w.heap.size w w' := by
  have hlen : us.length = n := by simpa using hr.len1
  have hdl := decW_len us
  rw [hlen] at hdl
  have HL := Lib.hid hlen
  clear hlen
  by_cases hlt : n ≤ 2000
  · have HB := Lib.hid (back_all us hu)
    go_enter Tryd.func6, Tryd.ntmps6
    go_wp2_with fail
    refine (decode_any A n c us w hr hu (by omega) hc).mono ?_
    rintro e w1 ⟨v, rfl, hown, hb1⟩
    obtain ⟨A1, c1, rfl, _⟩ := own_form hown
    have hd1 := Rd.of_own hown
    clear hown
    go_wp2_with fail
    refine (encode_ok A1 _ c1 (decW us) w1 (hs.below hb1) hd1 (by omega) HB.out.2.1).mono ?_
    rintro e w2 ⟨v, rfl, hown, hb⟩
    obtain ⟨A2, c2, rfl, _⟩ := own_form hown
    have hd2 := Rd.of_own hown
    have hb2 := below_self hb1 hb
    have hd1' := hd1.below hb
    have HE := Lib.hid (show (encW (decW us)).length = n by rw [HB.out.1, HL.out])
    clear hown hb hb1 hd1
    have HEl := Lib.hid (show (encW (decW us)).length ≤ maxLen by rw [HE.out]; unfold maxLen; omega)
    go_wp2_with fail
    refine (sizesW_any A1 _ c1 (decW us) w2 (hs.below hb2) hd1' (by omega)).mono ?_
    rintro e w3 ⟨v, rfl, hown, hb⟩
    obtain ⟨A3, c3, rfl, _⟩ := own_form hown
    have hd3 := Rd.of_own hown
    have hb3 := below_self hb2 hb
    have hd2' := hd2.below hb
    clear hown hb hb2 hd2 hd1'
    go_wp2
    go_loop [6, 23] (fun s i => ∃ k : Nat, k ≤ (decW us).length ∧ i = .int .i64 k ∧ s = .int .i64 (roomW ((decW us).take k))) (fun _ i => (decW us).length - (intOf i).toNat)
    case atStart => exact ⟨0, Nat.zero_le _, rfl, rfl⟩
    case round =>
      obtain ⟨k, hk, rfl, rfl⟩ := hrel
      have hrm := roomW_range ((decW us).take k)
      have hln : ((decW us).take k).length ≤ (decW us).length := List.length_take_le' _ _
      by_cases hlt : k < (decW us).length
      · obtain ⟨x, hxk⟩ : ∃ x, (decW us)[k]? = some x := ⟨_, List.getElem?_eq_getElem hlt⟩
        obtain ⟨ad, rfl, _, hcells⟩ := hd3.2 (by omega)
        have hcx : w3.cell? (ad.add k) = some (.int .i64 (sizeW x)) := hcells k _ (by rw [List.getElem?_map, List.getElem?_map, hxk]; rfl)
        have HX := Lib.hid (show roomW ((decW us).take (k + 1)) = roomW ((decW us).take k) + sizeW x by rw [take_snoc' hxk, roomW_snoc])
        have hsr := sizeW_range x
        clear hxk hcells
        go_wp2
        go_round
        case rel => exact ⟨k + 1, by omega, by go_num, by rw [HX.out]⟩
        case measure => simp [intOf]; omega
      · have HN := Lib.hid (show roomW ((decW us).take k) = n by rw [List.take_of_length_le (by omega), HB.out.2.2, HL.out])
        have HNt := Lib.hid (show (roomW ((decW us).take k) == (n : Int)) = true by rw [HN.out]; simp)
        clear hrm
        generalize roomW ((decW us).take k) = z at HNt
        have hnt := HNt.out
        go_wp2_with fail
        refine (equalU16_b A2 A _ n c2 c (encW (decW us)) us w3 hd2' (hr.below hb3) HEl.out (by unfold maxLen; omega)).mono ?_
        rintro e w4 ⟨rfl, hb⟩
        have hb4 := below_self hb3 hb
        clear hb hb3
        rw [show decide (encW (decW us) = us) = true from decide_eq_true HB.out.1]
        go_wp2_with fail
        refine (awakeW_any _ (hs.below hb4)).mono ?_
        rintro e w5 ⟨rfl, hb⟩
        have hb5 := below_self hb4 hb
        clear hb hb4
        go_wp2
        go_ret
        exact ⟨rfl, hb5⟩
  · go_enter Tryd.func6, Tryd.ntmps6
    go_wp2_with fail
    refine (awakeW_any _ hs).mono ?_
    rintro e w7 ⟨rfl, hb⟩
    go_wp2
    go_ret
    exact ⟨rfl, hb⟩
end Go.Proofs.YtoopchpolcfdaaaDoor
