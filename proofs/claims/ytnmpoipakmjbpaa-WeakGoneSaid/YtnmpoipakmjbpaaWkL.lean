/- naskhlaw24: awake, WeakGone. -/
import Derived.Test.YtnmpoipakmjbpaaWkP3
import Derived.Test.YtnmpoipakmjbpaaEq
namespace Go.Proofs.Ytnmpoipakmjbpaa
open Go.RowKit

theorem rd_ownW {w : World} {base n : Nat} {e : TypeId} {v : Value} {l : List Int} (h : w.ownsRow base e 1 v n (l.map (Value.int .i64))) : ∃ A c, v = .slice A n c ∧ n ≤ c ∧ Rd w 1 A n (l.map (Value.int .i64)) := by
  obtain ⟨A, c, rfl, hc⟩ := own_form h
  exact ⟨A, c, rfl, hc, Rd.of_own h⟩
set_option maxRecDepth 100000 in
set_option maxHeartbeats 4000000 in
theorem awakeWk_any (w : World) : Calls Try.prog 20 #[] w fun e w' => e = .returned (.bool true) ∧ Below w.heap.size w w' := by
  obtain ⟨ys, hys⟩ : ∃ ys : List Int, ys = [1, 6, 6] := ⟨_, rfl⟩
  have HB1 := Lib.hid (below_new w (.cells (([2, 3, 8] : List Int).map (Value.int .i64)).toArray 3))
  have HA := Lib.hid (wkAll_any _ 3 3 [2, 3, 8] ys 0 _ (by decide) (by rw [hys]; decide) (rdNewI w [2, 3, 8] 3) (by omega))
  have HY : Hid (∀ W : World, Rd (W.alloc (.cells (([1, 6, 6] : List Int).map (Value.int .i64)).toArray 3)) 1 (some ⟨W.heap.size, 0, none⟩) 3 (ys.map (Value.int .i64))) := Lib.hid (fun W => by rw [hys]; exact rdNewI W [1, 6, 6] 3)
  clear hys
  go_enter Try.func20, Try.ntmps20
  go_wp2_with fail
  refine HA.out.mono ?_
  rintro e w2 ⟨⟨v, rfl, hown⟩, hb2⟩
  obtain ⟨V, cv, rfl, hcv, hrv⟩ := rd_ownW hown
  have HRV := Lib.hid hrv
  have HB2 := Lib.hid (below_self HB1.out hb2)
  clear hown hb2 hrv
  go_wp2_with fail
  have HB3 := Lib.hid (below_self HB2.out (below_new w2 (.cells (([1, 6, 6] : List Int).map (Value.int .i64)).toArray 3)))
  refine (equalInt_b _ _ 3 3 _ 3 ys ys _ (HRV.out.alloc _) (HY.out w2) (by unfold maxLen; omega) (by unfold maxLen; omega)).mono ?_
  rintro e w3 ⟨rfl, hb3⟩
  rw [decide_eq_true rfl]
  have HB5 := Lib.hid (below_self HB3.out hb3)
  clear hb3
  go_wp2_with fail
  go_ret
  exact ⟨rfl, HB5.out⟩
set_option maxRecDepth 100000 in
set_option maxHeartbeats 4000000 in
theorem weakGone_any (A : Option Addr) (n c : Nat) (xs : List Int) (b : Bool) (w : World) (hr : Rd w 1 A n (xs.map (Value.int .i64))) (hn : n ≤ maxLen) :
    Calls Try.prog 6 #[.slice A n c, .bool b] w fun e w' => e = .returned (.bool true) ∧ Below w.heap.size w w' := by
  unfold maxLen at hn
  by_cases hs : n ≤ 300
  · obtain ⟨sos, hsos⟩ : ∃ s : Int, s = if b = true then 1 else 0 := ⟨_, rfl⟩
    have hcar : carF sos = sos := by rw [hsos]; cases b <;> decide
    have hs8 : sos ≠ 8 := by rw [hsos]; cases b <;> decide
    obtain ⟨ys, hys⟩ : ∃ ys, wAll sos xs = ys := ⟨_, rfl⟩
    have HG := Lib.hid (fun x (h : x ∈ ys) => all_gone hs8 (l := xs) (x := x) (by rw [hys]; exact h))
    have hlen : xs.length = n := by simpa using hr.len1
    have HYL := Lib.hid (show ys.length = n by rw [← hys, wAll_len, hlen])
    have HA := Lib.hid (wkAll_any A n c xs ys sos w hcar hys hr (by omega))
    clear hr hys hcar hs8 hlen
    have hmain : Calls Try.prog 6 #[.slice A n c, .bool b] w fun e w' => e = .returned (.bool true) ∧ Below w.heap.size w w' := by
      cases b
      all_goals
        simp only [Bool.false_eq_true, if_false, if_true] at hsos
        subst hsos
        go_enter Try.func6, Try.ntmps6
        go_wp2_with fail
        refine HA.out.mono ?_
        rintro e w2 ⟨⟨v, rfl, hown⟩, hb2⟩
        obtain ⟨V, cv, rfl, hcv, hrv⟩ := rd_ownW hown
        have HRV := Lib.hid hrv
        have HB2 := Lib.hid hb2
        clear hown hb2 hrv
        go_wp2_with fail
        go_loopw [24] (fun i wr => ∃ k : Nat, k ≤ n ∧ i = .int .i64 (k : Int) ∧ wr = w2) (fun i _ => n - (intOf i).toNat)
        case atStart => exact ⟨0, Nat.zero_le _, rfl, rfl⟩
        case round =>
          obtain ⟨k, hk, rfl, rfl⟩ := hrel
          by_cases hlt : k < n
          · obtain ⟨y, hyk⟩ : ∃ y, ys[k]? = some y := ⟨_, List.getElem?_eq_getElem (by rw [HYL.out]; exact hlt)⟩
            obtain ⟨av, rfl, _, hcl⟩ := HRV.out.at_ hlt
            have cy := hcl _ (by rw [List.getElem?_map, hyk]; rfl)
            obtain ⟨g2, g8, g4, g5, g7⟩ := HG.out y (List.mem_of_getElem? hyk)
            have k2 : (y == 2) = false := by simp [g2]
            have k8 : (y == 8) = false := by simp [g8]
            have k4 : (y == 4) = false := by simp [g4]
            have k5 : (y == 5) = false := by simp [g5]
            have k7 : (y == 7) = false := by simp [g7]
            clear hcl hyk g2 g8 g4 g5 g7
            go_wp2_with fail
            go_roundw
            case rel => exact ⟨k + 1, by omega, by go_num, by first | rfl | trivial⟩
            case measure => simp [intOf]; omega
          · have hlt' : ¬ (k : Int) < (n : Int) := by omega
            clear hlt
            go_wp2_with fail
            refine (awakeWk_any _).mono ?_
            rintro e w5 ⟨rfl, hb5⟩
            have HB5 := Lib.hid (below_self HB2.out hb5)
            clear hb5
            go_wp2_with fail
            go_ret
            exact ⟨rfl, HB5.out⟩
    exact hmain
  · clear hr
    go_enter Try.func6, Try.ntmps6
    go_wp2_with fail
    refine (awakeWk_any _).mono ?_
    rintro e w4 ⟨rfl, hb4⟩
    have HB4 := Lib.hid hb4
    clear hb4
    go_wp2_with fail
    go_ret
    exact ⟨rfl, HB4.out⟩
end Go.Proofs.Ytnmpoipakmjbpaa
