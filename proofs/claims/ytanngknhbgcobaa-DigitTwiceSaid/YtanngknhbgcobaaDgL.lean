/- naskhlaw17: awake, DigitTwice, DigitOnly. -/
import Derived.Test.YtanngknhbgcobaaDgP3
import Derived.Test.YtanngknhbgcobaaEq
namespace Go.Proofs.Ytanngknhbgcobaa
open Go.RowKit

theorem rd_ownD {w : World} {base n : Nat} {e : TypeId} {v : Value} {l : List Int} (h : w.ownsRow base e 1 v n (l.map (Value.int .i64))) : ∃ A c, v = .slice A n c ∧ n ≤ c ∧ Rd w 1 A n (l.map (Value.int .i64)) := by
  obtain ⟨A, c, rfl, hc⟩ := own_form h
  exact ⟨A, c, rfl, hc, Rd.of_own h⟩
theorem rdNewD (w : World) (a b c : Int) (t : TypeId) : Rd (w.alloc (.cells #[.int .i64 a, .int .i64 b, .int .i64 c] t)) 1 (some ⟨w.heap.size, 0, none⟩) 3 (([a, b, c] : List Int).map (Value.int .i64)) :=
  Rd.new_ w [.int .i64 a, .int .i64 b, .int .i64 c] t
set_option maxRecDepth 100000 in
set_option maxHeartbeats 4000000 in
theorem awakeDg_any (w : World) : Calls Try.prog 5 #[] w fun e w' => e = .returned (.bool true) ∧ Below w.heap.size w w' := by
  have H1 := Lib.hid dText_awake
  have H2 := Lib.hid dOne_awake
  obtain ⟨xs, hxs⟩ : ∃ xs : List Int, xs = [49, 1575, 49] := ⟨_, rfl⟩
  obtain ⟨ys, hys⟩ : ∃ ys : List Int, ys = [49, 1575, 1633] := ⟨_, rfl⟩
  rw [← hxs, ← hys] at H1
  have HX := Lib.hid hxs
  have HY := Lib.hid hys
  clear hxs hys
  go_enter Try.func5, Try.ntmps5
  go_wp2_with fail
  refine (prNew_any _).mono ?_
  rintro e w1 ⟨⟨b, rfl, hP⟩, hb1⟩
  have HP := Lib.hid hP
  have HB1 := Lib.hid hb1
  clear hP hb1
  go_wp2_with fail
  have hr1 := rdNewD w1 49 1575 49 3
  rw [← HX.out] at hr1
  have HB2 := Lib.hid (below_self HB1.out (below_new w1 (.cells #[.int .i64 49, .int .i64 1575, .int .i64 49] 3)))
  refine (dgText_any b 3 false _ 3 3 xs _ (HP.out.below (below_new w1 _)) hr1 (by omega)).mono ?_
  rintro e w2 ⟨⟨v, rfl, hown⟩, hb2⟩
  rw [H1.out] at hown
  obtain ⟨V, cv, rfl, hcv, hrv⟩ := rd_ownD hown
  have HRV := Lib.hid hrv
  have HB3 := Lib.hid (below_self HB2.out hb2)
  clear hr1 hown hb2 hrv
  go_wp2_with fail
  have hr2 := rdNewD w2 49 1575 1633 3
  rw [← HY.out] at hr2
  have HB4 := Lib.hid (below_self HB3.out (below_new w2 (.cells #[.int .i64 49, .int .i64 1575, .int .i64 1633] 3)))
  refine (equalInt_b _ _ 3 3 _ 3 ys ys _ (HRV.out.alloc _) hr2 (by unfold maxLen; omega) (by unfold maxLen; omega)).mono ?_
  rintro e w3 ⟨rfl, hb3⟩
  rw [decide_eq_true rfl]
  have HB5 := Lib.hid (below_self HB4.out hb3)
  clear hb3 hr2
  go_wp2_with fail
  refine (dgOne_any 53 1781 true true H2.out _).mono ?_
  rintro e w4 ⟨rfl, hb4⟩
  have HB6 := Lib.hid (below_self HB5.out hb4)
  clear hb4
  go_wp2
  go_ret
  exact ⟨rfl, HB6.out⟩
set_option maxRecDepth 100000 in
set_option maxHeartbeats 4000000 in
theorem digitTwice_any (A : Option Addr) (n c : Nat) (xs : List Int) (mode : Int) (ea : Bool) (w : World) (hr : Rd w 1 A n (xs.map (Value.int .i64))) (hn : n ≤ maxLen) :
    Calls Try.prog 4 #[.slice A n c, .int .i64 mode, .bool ea] w fun e w' => e = .returned (.bool true) ∧ Below w.heap.size w w' := by
  unfold maxLen at hn
  by_cases hs : n ≤ 500
  · have HR := Lib.hid hr
    have HG := Lib.hid (dText_again mode ea xs)
    obtain ⟨ys, hys⟩ : ∃ ys, dText mode ea xs = ys := ⟨_, rfl⟩
    rw [hys] at HG
    have HY := Lib.hid hys
    clear hr hys
    go_enter Try.func4, Try.ntmps4
    go_wp2_with fail
    refine (prNew_any _).mono ?_
    rintro e w1 ⟨⟨b, rfl, hP⟩, hb1⟩
    have HP := Lib.hid hP
    have HB1 := Lib.hid hb1
    clear hP hb1
    go_wp2_with fail
    refine (dgText_any b mode ea A n c xs _ HP.out (HR.out.below HB1.out) (by omega)).mono ?_
    rintro e w2 ⟨⟨v, rfl, hown⟩, hb2⟩
    rw [HY.out] at hown
    obtain ⟨V, cv, rfl, hcv, hrv⟩ := rd_ownD hown
    have HRV := Lib.hid hrv
    have HB2 := Lib.hid (below_self HB1.out hb2)
    have HP2 := Lib.hid (HP.out.below hb2)
    clear hown hb2 hrv
    go_wp2_with fail
    refine (dgText_any b mode ea V n cv ys _ HP2.out HRV.out (by omega)).mono ?_
    rintro e w3 ⟨⟨v, rfl, hown⟩, hb3⟩
    rw [HG.out] at hown
    obtain ⟨V3, cv3, rfl, hcv3, hrv3⟩ := rd_ownD hown
    have HRV3 := Lib.hid hrv3
    have HRV2 := Lib.hid (HRV.out.below hb3)
    have HB3 := Lib.hid (below_self HB2.out hb3)
    clear hown hb3 hrv3
    go_wp2_with fail
    refine (equalInt_b _ _ n n _ _ ys ys _ HRV3.out HRV2.out (by unfold maxLen; omega) (by unfold maxLen; omega)).mono ?_
    rintro e w4 ⟨rfl, hb4⟩
    rw [decide_eq_true rfl]
    have HB4 := Lib.hid (below_self HB3.out hb4)
    clear hb4
    go_wp2_with fail
    refine (awakeDg_any _).mono ?_
    rintro e w5 ⟨rfl, hb5⟩
    have HB5 := Lib.hid (below_self HB4.out hb5)
    clear hb5
    go_wp2
    go_ret
    exact ⟨rfl, HB5.out⟩
  · clear hr
    go_enter Try.func4, Try.ntmps4
    go_wp2_with fail
    refine (awakeDg_any _).mono ?_
    rintro e w4 ⟨rfl, hb4⟩
    go_wp2
    go_ret
    exact ⟨rfl, hb4⟩
theorem refDigit_any (c a k : Int) (hd : digF c = (a, k)) (w : World) : Calls Try.prog 8 #[.int .i64 c] w fun e w' => e = .returned (.tuple #[.int .i64 a, .int .i64 k]) ∧ w = w' := by
  have hcase : (48 ≤ c ∧ c ≤ 57) ∨ ((c < 48 ∨ 57 < c) ∧ 1632 ≤ c ∧ c ≤ 1641) ∨ ((c < 48 ∨ 57 < c) ∧ (c < 1632 ∨ 1641 < c) ∧ 1776 ≤ c ∧ c ≤ 1785) ∨ ((c < 48 ∨ 57 < c) ∧ (c < 1632 ∨ 1641 < c) ∧ (c < 1776 ∨ 1785 < c)) := by omega
  rcases hcase with h | ⟨h, h2⟩ | ⟨h, h2, h3⟩ | ⟨h, h2, h3⟩
  · obtain ⟨rfl, rfl⟩ : c - 48 = a ∧ (1 : Int) = k := by unfold digF at hd; rw [if_pos h] at hd; simpa using hd
    obtain ⟨q1, q2⟩ := h
    clear hd
    go_enter Try.func8, Try.ntmps8
    go_wp2
    exact bodyPost_ret (v := .tuple #[.int .i64 (c - 48), .int .i64 1]) (by simp [results, go_sem]) rfl ⟨rfl, rfl⟩
  · obtain ⟨rfl, rfl⟩ : c - 1632 = a ∧ (2 : Int) = k := by unfold digF at hd; rw [if_neg (by omega), if_pos h2] at hd; simpa using hd
    obtain ⟨q1, q2⟩ := h2
    clear hd
    have q3 : 57 < c := by omega
    clear h
    go_enter Try.func8, Try.ntmps8
    go_wp2
    exact bodyPost_ret (v := .tuple #[.int .i64 (c - 1632), .int .i64 2]) (by simp [results, go_sem]) rfl ⟨rfl, rfl⟩
  · obtain ⟨rfl, rfl⟩ : c - 1776 = a ∧ (3 : Int) = k := by unfold digF at hd; rw [if_neg (by omega), if_neg (by omega), if_pos h3] at hd; simpa using hd
    obtain ⟨q1, q2⟩ := h3
    clear hd h2
    have q3 : 57 < c := by omega
    have q4 : 1641 < c := by omega
    clear h
    go_enter Try.func8, Try.ntmps8
    go_wp2
    exact bodyPost_ret (v := .tuple #[.int .i64 (c - 1776), .int .i64 3]) (by simp [results, go_sem]) rfl ⟨rfl, rfl⟩
  · obtain ⟨rfl, rfl⟩ : (0 : Int) = a ∧ (0 : Int) = k := by unfold digF at hd; rw [if_neg (by omega), if_neg (by omega), if_neg (by omega)] at hd; simpa using hd
    clear hd
    rcases h with h | h <;> rcases h2 with h2 | h2 <;> rcases h3 with h3 | h3
    all_goals
      first
        | (exfalso; omega)
        | (go_enter Try.func8, Try.ntmps8
           go_wp2
           exact bodyPost_ret (v := .tuple #[.int .i64 0, .int .i64 0]) (by simp [results, go_sem]) rfl ⟨rfl, rfl⟩)
set_option maxRecDepth 100000 in
set_option maxHeartbeats 4000000 in
theorem digitOnly_any (A : Option Addr) (n c : Nat) (xs : List Int) (mode : Int) (ea : Bool) (w : World) (hr : Rd w 1 A n (xs.map (Value.int .i64))) (hn : n ≤ maxLen) :
    Calls Try.prog 3 #[.slice A n c, .int .i64 mode, .bool ea] w fun e w' => e = .returned (.bool true) ∧ Below w.heap.size w w' := by
  have hlen : xs.length = n := by simpa using hr.len1
  have HL := Lib.hid hlen
  unfold maxLen at hn
  by_cases hs : n ≤ 500
  · have HR := Lib.hid hr
    obtain ⟨ys, hys⟩ : ∃ ys, dText mode ea xs = ys := ⟨_, rfl⟩
    have HYL := Lib.hid (show ys.length = n by rw [← hys, dText_len, hlen])
    have HDG := Lib.hid (fun i x y hx (hy : ys[i]? = some y) => dText_dig mode ea xs i x y hx (by rw [hys]; exact hy))
    have HY := Lib.hid hys
    clear hr hys hlen
    go_enter Try.func3, Try.ntmps3
    go_wp2_with fail
    refine (prNew_any _).mono ?_
    rintro e w1 ⟨⟨b, rfl, hP⟩, hb1⟩
    have HP := Lib.hid hP
    have HB1 := Lib.hid hb1
    clear hP hb1
    go_wp2_with fail
    refine (dgText_any b mode ea A n c xs _ HP.out (HR.out.below HB1.out) (by omega)).mono ?_
    rintro e w2 ⟨⟨v, rfl, hown⟩, hb2⟩
    rw [HY.out] at hown
    obtain ⟨V, cv, rfl, hcv, hrv⟩ := rd_ownD hown
    have HRV := Lib.hid hrv
    have HB2 := Lib.hid (below_self HB1.out hb2)
    have HR2 := Lib.hid (HR.out.below HB2.out)
    clear hown hb2 hrv
    go_wp2_with fail
    go_loopw [30] (fun i wr => ∃ k : Nat, k ≤ n ∧ i = .int .i64 k ∧ wr = w2) (fun i _ => n - (intOf i).toNat)
    case atStart => exact ⟨0, Nat.zero_le _, rfl, rfl⟩
    case round =>
      obtain ⟨k, hk, rfl, rfl⟩ := hrel
      by_cases hlt : k < n
      · obtain ⟨x, hxk⟩ : ∃ x, xs[k]? = some x := ⟨_, List.getElem?_eq_getElem (by rw [HL.out]; exact hlt)⟩
        obtain ⟨y, hyk⟩ : ∃ y, ys[k]? = some y := ⟨_, List.getElem?_eq_getElem (by rw [HYL.out]; exact hlt)⟩
        obtain ⟨ad, rfl, _, hc⟩ := HR2.out.at_ hlt
        obtain ⟨av, rfl, _, hcv⟩ := HRV.out.at_ hlt
        have cx : wr.cell? (ad.add k) = some (.int .i64 x) := hc _ (by rw [List.getElem?_map, hxk]; rfl)
        have cy : wr.cell? (av.add k) = some (.int .i64 y) := hcv _ (by rw [List.getElem?_map, hyk]; rfl)
        obtain ⟨a, ki, hdx⟩ : ∃ a k, digF x = (a, k) := ⟨_, _, rfl⟩
        obtain ⟨a2, ki2, hdy⟩ : ∃ a k, digF y = (a, k) := ⟨_, _, rfl⟩
        have hdg := HDG.out k x y hxk hyk
        rw [hdx, hdy] at hdg
        simp only at hdg
        have HD1 := Lib.hid (fun W => refDigit_any x a ki hdx W)
        have HD2 := Lib.hid (fun W => refDigit_any y a2 ki2 hdy W)
        have hcs : (ki = 0 ∧ y = x) ∨ (0 < ki ∧ 0 < ki2 ∧ a = a2) ∨ ki < 0 := by
          rcases hdg with rfl | h
          · rw [hdx] at hdy
            simp only [Prod.mk.injEq] at hdy
            omega
          · exact .inr (.inl h)
        have hk0 : 0 ≤ ki := by
          have : (digF x).2 = ki := by rw [hdx]
          rw [← this]
          unfold digF
          repeat' split
          all_goals (dsimp only; omega)
        clear hc hcv hxk hyk hdx hdy hdg
        rcases hcs with ⟨rfl, rfl⟩ | ⟨h1, h2, rfl⟩ | h
        · go_wp2_with (first
            | (go_at_call 8; with_reducible refine (HD1.out _).mono ?_; rintro e w4 ⟨rfl, rfl⟩)
            | (go_at_call 8; with_reducible refine (HD2.out _).mono ?_; rintro e w5 ⟨rfl, rfl⟩)
            | fail)
          go_roundw
          case rel => exact ⟨k + 1, by omega, by go_num, trivial⟩
          case measure => simp [intOf]; omega
        · have g1 : (ki == 0) = false := by simp; omega
          have g2 : (ki2 == 0) = false := by simp; omega
          go_wp2_with (first
            | (go_at_call 8; with_reducible refine (HD1.out _).mono ?_; rintro e w4 ⟨rfl, rfl⟩)
            | (go_at_call 8; with_reducible refine (HD2.out _).mono ?_; rintro e w5 ⟨rfl, rfl⟩)
            | fail)
          go_roundw
          case rel => exact ⟨k + 1, by omega, by go_num, trivial⟩
          case measure => simp [intOf]; omega
        · omega
      · go_wp2_with fail
        refine (awakeDg_any _).mono ?_
        rintro e w5 ⟨rfl, hb5⟩
        have HB5 := Lib.hid (below_self HB2.out hb5)
        clear hb5
        go_wp2
        go_ret
        exact ⟨rfl, HB5.out⟩
  · clear hr hlen
    go_enter Try.func3, Try.ntmps3
    go_wp2_with fail
    refine (awakeDg_any _).mono ?_
    rintro e w4 ⟨rfl, hb4⟩
    go_wp2
    go_ret
    exact ⟨rfl, hb4⟩
end Go.Proofs.Ytanngknhbgcobaa
