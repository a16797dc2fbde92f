/- join's Joined; the reference's Ahead, Behind, Joined, Over. -/
import Derived.Test.YtcjcimdembkbkaaJnP1
namespace Go.Proofs.Ytcjcimdembkbkaa
open Go.RowKit

set_option maxRecDepth 100000 in
theorem jnJoined_of (A : Option Addr) (n c : Nat) (ts : List Int) (i : Int) (v : Bool) (hv : jJoined ts i = v) (w : World) (hr : Rd w 1 A n (ts.map (Value.int .i64))) (hn : n ≤ 1000000) :
    Calls Try.prog 19 #[.slice A n c, .int .i64 i] w fun e w' => e = .returned (.bool v) ∧ w = w' := by
  have hlen : ts.length = n := by simpa using hr.len1
  by_cases hi : 0 ≤ i ∧ i < n
  · obtain ⟨h0, h1⟩ := hi
    obtain ⟨k0, rfl⟩ : ∃ k0 : Nat, i = k0 := ⟨i.toNat, by omega⟩
    have hlt : k0 < n := by omega
    have HC := Lib.hid (jnHas_of A n c k0 true (decide_eq_true ⟨h0, h1⟩) w)
    have HB := Lib.hid (jnBehind_any A n c ts k0 w hr hn)
    rw [show jBehind ts k0 = jFirst ts (k0 + 1) by unfold jBehind; rw [if_pos ⟨h0, by omega⟩, Int.toNat_natCast]] at HB
    rw [show jJoined ts k0 = jJoin ts k0 by unfold jJoined; rw [if_pos ⟨h0, by omega⟩, Int.toNat_natCast]] at hv
    obtain ⟨t, htk⟩ : ∃ s, ts[k0]? = some s := ⟨_, List.getElem?_eq_getElem (by omega)⟩
    obtain ⟨ad, rfl, _, hc⟩ := hr.at_ hlt
    have cs : w.cell? (ad.add k0) = some (.int .i64 t) := hc _ (by rw [List.getElem?_map, htk]; rfl)
    obtain ⟨r, hr'⟩ : ∃ r, reachB t = r := ⟨_, rfl⟩
    have HR := Lib.hid (jnReaches_any t w)
    rw [hr'] at HR
    cases r with
    | false =>
      obtain rfl : v = false := by rw [← hv, jJoin_eq htk, hr']; rfl
      clear hv htk hr' hc hlen h0 h1 HB
      go_enter Try.func19, Try.ntmps19
      go_wp2_with (first
        | (go_at_call 43; with_reducible refine HC.out.mono ?_; rintro e w1 ⟨rfl, rfl⟩)
        | (go_at_call 41; with_reducible refine HR.out.mono ?_; rintro e w1 ⟨rfl, rfl⟩)
        | fail)
      go_ret
      exact ⟨rfl, rfl⟩
    | true =>
      rcases jFirst_ge ts (k0 + 1) with hb | ⟨b, hb⟩
      · obtain rfl : v = false := by rw [← hv, jJoin_none hb]
        rw [hb] at HB
        clear hv htk hr' hc hlen h0 h1 hb
        go_enter Try.func19, Try.ntmps19
        go_wp2_with (first
          | (go_at_call 43; with_reducible refine HC.out.mono ?_; rintro e w1 ⟨rfl, rfl⟩)
          | (go_at_call 41; with_reducible refine HR.out.mono ?_; rintro e w1 ⟨rfl, rfl⟩)
          | (go_at_call 17; with_reducible refine HB.out.mono ?_; rintro e w1 ⟨rfl, rfl⟩)
          | fail)
        go_ret
        exact ⟨rfl, rfl⟩
      · obtain ⟨_, b2, ⟨u, b3, _⟩, _⟩ := jFirst_is hb
        obtain rfl : v = meetB u := by rw [← hv, jJoin_some htk hb b3, hr']; rfl
        have cu : w.cell? (ad.add b) = some (.int .i64 u) := hr.news b _ (by rw [List.getElem?_map, b3]; rfl)
        have HM := Lib.hid (jnMeets_any u w)
        obtain ⟨m, hm⟩ : ∃ m, meetB u = m := ⟨_, rfl⟩
        rw [hm] at HM ⊢
        rw [hb] at HB
        rw [hlen] at b2
        clear hv htk hr' hc hlen h0 h1 hb b3 hm
        go_enter Try.func19, Try.ntmps19
        go_wp2_with (first
          | (go_at_call 43; with_reducible refine HC.out.mono ?_; rintro e w1 ⟨rfl, rfl⟩)
          | (go_at_call 41; with_reducible refine HR.out.mono ?_; rintro e w1 ⟨rfl, rfl⟩)
          | (go_at_call 17; with_reducible refine HB.out.mono ?_; rintro e w1 ⟨rfl, rfl⟩)
          | (go_at_call 42; with_reducible refine HM.out.mono ?_; rintro e w1 ⟨rfl, rfl⟩)
          | fail)
        go_ret
        exact ⟨rfl, rfl⟩
  · have HC := Lib.hid (jnHas_of A n c i false (decide_eq_false hi) w)
    obtain rfl : v = false := by rw [← hv]; exact if_neg (by rw [hlen]; exact hi)
    clear hi hv hlen
    go_enter Try.func19, Try.ntmps19
    go_wp2_with (first
      | (go_at_call 43; with_reducible refine HC.out.mono ?_; rintro e w1 ⟨rfl, rfl⟩)
      | fail)
    go_ret
    exact ⟨rfl, rfl⟩
theorem jnJoined_any (A : Option Addr) (n c : Nat) (ts : List Int) (i : Int) (w : World) (hr : Rd w 1 A n (ts.map (Value.int .i64))) (hn : n ≤ 1000000) :
    Calls Try.prog 19 #[.slice A n c, .int .i64 i] w fun e w' => e = .returned (.bool (jJoined ts i)) ∧ w = w' := jnJoined_of A n c ts i _ rfl w hr hn
set_option maxRecDepth 100000 in
theorem refBehind_any (A : Option Addr) (n c : Nat) (ts : List Int) (i : Int) (w : World) (hr : Rd w 1 A n (ts.map (Value.int .i64))) (hn : n ≤ 1000000) :
    Calls Try.prog 18 #[.slice A n c, .int .i64 i] w fun e w' => e = .returned (.int .i64 (jBehind ts i)) ∧ w = w' := by
  have hlen : ts.length = n := by simpa using hr.len1
  by_cases hi : 0 ≤ i ∧ i < n
  · obtain ⟨h0, h1⟩ := hi
    obtain ⟨k0, rfl⟩ : ∃ k0 : Nat, i = k0 := ⟨i.toNat, by omega⟩
    obtain ⟨v, hv⟩ : ∃ v, jBehind ts k0 = v := ⟨_, rfl⟩
    have HV := Lib.hid (show jFirst ts (k0 + 1) = v by rw [← hv]; unfold jBehind; rw [if_pos ⟨h0, by omega⟩, Int.toNat_natCast])
    rw [hv]
    have HL := Lib.hid hlen
    clear hlen hv
    go_enter Try.func18, Try.ntmps18
    go_wp2
    go_loop [5] (fun p => ∃ k : Nat, k ≤ n ∧ p = .int .i64 k ∧ jFirst ts k = v) (fun p => n - (intOf p).toNat)
    case atStart => exact ⟨k0 + 1, by omega, by go_num, HV.out⟩
    case round =>
      obtain ⟨k, hk, rfl, hno⟩ := hrel
      have HN := Lib.hid hno
      clear hno
      by_cases hlt : k < n
      · obtain ⟨s, hsk⟩ : ∃ s, ts[k]? = some s := ⟨_, List.getElem?_eq_getElem (by rw [HL.out]; exact hlt)⟩
        obtain ⟨ad, rfl, _, hc⟩ := hr.at_ hlt
        have cs : w.cell? (ad.add k) = some (.int .i64 s) := hc _ (by rw [List.getElem?_map, hsk]; rfl)
        have HS := Lib.hid hsk
        clear hsk hc
        by_cases he : s = 1
        · subst he
          have HX := Lib.hid ((jFirst_skip HS.out).symm.trans HN.out)
          go_wp2
          go_round
          case rel => exact ⟨k + 1, by omega, by go_num, HX.out⟩
          case measure => simp [intOf]; omega
        · have HX := Lib.hid ((jFirst_hit HS.out he).symm.trans HN.out)
          have g1 : (s != 1) = true := by simp [he]
          clear he
          go_wp2
          go_ret
          exact ⟨retI HX.out, rfl⟩
      · have HF := Lib.hid ((jFirst_end (show ts.length ≤ k by rw [HL.out]; omega)).symm.trans HN.out)
        go_wp2
        go_ret
        exact ⟨retI HF.out, rfl⟩
  · have HV := Lib.hid (show (-1 : Int) = jBehind ts i from (if_neg (by rw [hlen]; exact hi)).symm)
    have hi' : i < 0 ∨ (0 ≤ i ∧ (n : Int) ≤ i) := by omega
    clear hi
    rcases hi' with h | ⟨h, h'⟩
    all_goals
      go_enter Try.func18, Try.ntmps18
      go_wp2
      go_ret
      exact ⟨retI HV.out, rfl⟩
set_option maxRecDepth 100000 in
theorem refAhead_any (A : Option Addr) (n c : Nat) (ts : List Int) (i : Int) (w : World) (hr : Rd w 1 A n (ts.map (Value.int .i64))) (hn : n ≤ 1000000) :
    Calls Try.prog 16 #[.slice A n c, .int .i64 i] w fun e w' => e = .returned (.int .i64 (jAhead ts i)) ∧ w = w' := by
  have hlen : ts.length = n := by simpa using hr.len1
  by_cases hi : 0 ≤ i ∧ i < n
  · obtain ⟨h0, h1⟩ := hi
    obtain ⟨k0, rfl⟩ : ∃ k0 : Nat, i = k0 := ⟨i.toNat, by omega⟩
    obtain ⟨v, hv⟩ : ∃ v, jAhead ts k0 = v := ⟨_, rfl⟩
    have HV := Lib.hid (show jLast ts k0 = v by rw [← hv]; unfold jAhead; rw [if_pos ⟨h0, by omega⟩, Int.toNat_natCast])
    rw [hv]
    have HL := Lib.hid hlen
    clear hlen hv
    go_enter Try.func16, Try.ntmps16
    go_wp2
    go_loop [5] (fun p => ∃ k : Nat, k ≤ n ∧ p = .int .i64 ((k : Int) - 1) ∧ jLast ts k = v) (fun p => (intOf p + 1).toNat)
    case atStart => exact ⟨k0, by omega, by go_num, HV.out⟩
    case round =>
      obtain ⟨k, hk, rfl, hno⟩ := hrel
      have HN := Lib.hid hno
      clear hno
      cases k with
      | succ k =>
        obtain ⟨s, hsk⟩ : ∃ s, ts[k]? = some s := ⟨_, List.getElem?_eq_getElem (by rw [HL.out]; omega)⟩
        obtain ⟨ad, rfl, _, hc⟩ := hr.at_ (show k < n by omega)
        have cs : w.cell? (ad.add k) = some (.int .i64 s) := hc _ (by rw [List.getElem?_map, hsk]; rfl)
        have HS := Lib.hid hsk
        have e1 : ((k + 1 : Nat) : Int) - 1 = (k : Int) := by omega
        rw [e1]
        clear hsk hc e1
        by_cases he : s = 1
        · subst he
          have HX := Lib.hid ((jLast_skip HS.out).symm.trans HN.out)
          go_wp2
          go_round
          case rel => exact ⟨k, by omega, by go_num, HX.out⟩
          case measure => simp [intOf] <;> omega
        · have HX := Lib.hid ((jLast_hit HS.out he).symm.trans HN.out)
          have g1 : (s != 1) = true := by simp [he]
          clear he
          go_wp2
          go_ret
          exact ⟨retI HX.out, rfl⟩
      | zero =>
        have HF := Lib.hid (show (-1 : Int) = v from HN.out)
        go_wp2
        go_ret
        exact ⟨retI HF.out, rfl⟩
  · have HV := Lib.hid (show (-1 : Int) = jAhead ts i from (if_neg (by rw [hlen]; exact hi)).symm)
    have hi' : i < 0 ∨ (0 ≤ i ∧ (n : Int) ≤ i) := by omega
    clear hi
    rcases hi' with h | ⟨h, h'⟩
    all_goals
      go_enter Try.func16, Try.ntmps16
      go_wp2
      go_ret
      exact ⟨retI HV.out, rfl⟩
set_option maxRecDepth 100000 in
theorem refJoined_of (A : Option Addr) (n c : Nat) (ts : List Int) (i : Int) (v : Bool) (hv : jJoined ts i = v) (w : World) (hr : Rd w 1 A n (ts.map (Value.int .i64))) (hn : n ≤ 1000000) :
    Calls Try.prog 20 #[.slice A n c, .int .i64 i] w fun e w' => e = .returned (.bool v) ∧ Below w.heap.size w w' := by
  have hlen : ts.length = n := by simpa using hr.len1
  have HB := Lib.hid (refBehind_any A n c ts i w hr hn)
  by_cases hi : 0 ≤ i ∧ i < n
  · obtain ⟨h0, h1⟩ := hi
    obtain ⟨k0, rfl⟩ : ∃ k0 : Nat, i = k0 := ⟨i.toNat, by omega⟩
    have hlt : k0 < n := by omega
    rw [show jBehind ts k0 = jFirst ts (k0 + 1) by unfold jBehind; rw [if_pos ⟨h0, by omega⟩, Int.toNat_natCast]] at HB
    rw [show jJoined ts k0 = jJoin ts k0 by unfold jJoined; rw [if_pos ⟨h0, by omega⟩, Int.toNat_natCast]] at hv
    obtain ⟨t, htk⟩ : ∃ s, ts[k0]? = some s := ⟨_, List.getElem?_eq_getElem (by omega)⟩
    have ct := hr.at_ hlt
    obtain ⟨ad, rfl, _, hc⟩ := ct
    have cs : w.cell? (ad.add k0) = some (.int .i64 t) := hc _ (by rw [List.getElem?_map, htk]; rfl)
    rcases jFirst_ge ts (k0 + 1) with hb | ⟨b, hb⟩
    · obtain rfl : v = false := by rw [← hv, jJoin_none hb]
      rw [hb] at HB
      clear hv htk hc hlen h0 h1 hb
      go_enter Try.func20, Try.ntmps20
      go_wp2_with (first
        | (go_at_call 18; with_reducible refine HB.out.mono ?_; rintro e w1 ⟨rfl, rfl⟩)
        | fail)
      go_ret
      exact ⟨rfl, Below.refl _ _⟩
    · obtain ⟨_, b2, ⟨u, b3, _⟩, _⟩ := jFirst_is hb
      have HV := Lib.hid (show (reachB t && meetB u) = v by rw [← hv, jJoin_some htk hb b3])
      have cu : w.cell? (ad.add b) = some (.int .i64 u) := hr.news b _ (by rw [List.getElem?_map, b3]; rfl)
      rw [hb] at HB
      rw [hlen] at b2
      clear hv htk hc hlen h0 h1 hb b3
      obtain ⟨p3, q3⟩ : ∃ p, (t == 3) = p := ⟨_, rfl⟩
      obtain ⟨p4, q4⟩ : ∃ p, (t == 4) = p := ⟨_, rfl⟩
      obtain ⟨p5, q5⟩ : ∃ p, (t == 5) = p := ⟨_, rfl⟩
      obtain ⟨r3, s3⟩ : ∃ p, (u == 3) = p := ⟨_, rfl⟩
      obtain ⟨r2, s2⟩ : ∃ p, (u == 2) = p := ⟨_, rfl⟩
      obtain ⟨r5, s5⟩ : ∃ p, (u == 5) = p := ⟨_, rfl⟩
      have HV := HV.out
      unfold reachB meetB at HV
      rw [q3, q4, q5, s3, s2, s5] at HV
      subst HV
      go_enter Try.func20, Try.ntmps20
      go_wp2_with (first
        | (go_at_call 18; with_reducible refine HB.out.mono ?_; rintro e w1 ⟨rfl, rfl⟩)
        | fail)
      go_region
      go_wp2
      all_goals
        go_ret
        refine ⟨?_, (Below.refl _ _).drew⟩
        clear HV HB hr cs cu q3 q4 q5 s3 s2 s5
        simp_all
  · obtain rfl : v = false := by rw [← hv]; exact if_neg (by rw [hlen]; exact hi)
    rw [show jBehind ts i = -1 from if_neg (by rw [hlen]; exact hi)] at HB
    clear hi hv hlen
    go_enter Try.func20, Try.ntmps20
    go_wp2_with (first
      | (go_at_call 18; with_reducible refine HB.out.mono ?_; rintro e w1 ⟨rfl, rfl⟩)
      | fail)
    go_ret
    exact ⟨rfl, Below.refl _ _⟩
theorem refJoined_any (A : Option Addr) (n c : Nat) (ts : List Int) (i : Int) (w : World) (hr : Rd w 1 A n (ts.map (Value.int .i64))) (hn : n ≤ 1000000) :
    Calls Try.prog 20 #[.slice A n c, .int .i64 i] w fun e w' => e = .returned (.bool (jJoined ts i)) ∧ Below w.heap.size w w' := refJoined_of A n c ts i _ rfl w hr hn
end Go.Proofs.Ytcjcimdembkbkaa
