/- Texts of one claim, one behind the other. -/
import Derived.RangeFuncBox
import Derived.RangeFuncLeaves
import Derived.Shelf.Abstract
import Derived.WalkKit
import Derived.OwnWalkIn
import Derived.TacticsInMore
import Derived.LoopNIn
import Derived.LoopIn
import Derived.Deep.RegionWith
import Derived.Laws.MakeOwn
import Derived.Test.YtcjcimdembkbkaaMgLo2
import Derived.Test.YtcjcimdembkbkaaMgLo4
/- join's has, reaches, meets, formed, form, Behind; the reference's Ahead, Behind, Joined. -/
namespace Go.Proofs.Ytcjcimdembkbkaa
open Go.RowKit

theorem jnHas_of (A : Option Addr) (n c : Nat) (i : Int) (v : Bool) (hv : decide (0 ≤ i ∧ i < n) = v) (w : World) : Calls Try.prog 43 #[.slice A n c, .int .i64 i] w fun e w' => e = .returned (.bool v) ∧ w = w' := by
  by_cases h0 : 0 ≤ i
  · by_cases h1 : i < n
    · obtain rfl : v = true := hv.symm.trans (decide_eq_true ⟨h0, h1⟩)
      clear hv
      go_enter Try.func43, Try.ntmps43
      go_wp2
      go_ret
      exact ⟨rfl, rfl⟩
    · obtain rfl : v = false := hv.symm.trans (decide_eq_false (fun h => h1 h.2))
      clear hv
      go_enter Try.func43, Try.ntmps43
      go_wp2
      go_ret
      exact ⟨rfl, rfl⟩
  · obtain rfl : v = false := hv.symm.trans (decide_eq_false (fun h => h0 h.1))
    clear hv
    go_enter Try.func43, Try.ntmps43
    go_wp2
    go_ret
    exact ⟨rfl, rfl⟩
theorem jnHas_any (A : Option Addr) (n c : Nat) (i : Int) (w : World) : Calls Try.prog 43 #[.slice A n c, .int .i64 i] w fun e w' => e = .returned (.bool (decide (0 ≤ i ∧ i < n))) ∧ w = w' := jnHas_of A n c i _ rfl w
theorem jnReaches_any (t : Int) (w : World) : Calls Try.prog 41 #[.int .i64 t] w fun e w' => e = .returned (.bool (reachB t)) ∧ w = w' := by
  by_cases h3 : t = 3
  · subst h3
    go_enter Try.func41, Try.ntmps41
    go_wp2
    go_ret
    exact ⟨rfl, rfl⟩
  · by_cases h4 : t = 4
    · subst h4
      go_enter Try.func41, Try.ntmps41
      go_wp2
      go_ret
      exact ⟨rfl, rfl⟩
    · obtain ⟨v, hv⟩ : ∃ v, reachB t = v := ⟨_, rfl⟩
      have HV := Lib.hid (show (t == 5) = v by rw [← hv]; unfold reachB; simp [h3, h4])
      rw [hv]
      clear hv
      have g3 : (t == 3) = false := by simp [h3]
      have g4 : (t == 4) = false := by simp [h4]
      clear h3 h4
      go_enter Try.func41, Try.ntmps41
      go_wp2
      go_ret
      exact ⟨by rw [← HV.out]; rfl, rfl⟩
theorem jnMeets_any (t : Int) (w : World) : Calls Try.prog 42 #[.int .i64 t] w fun e w' => e = .returned (.bool (meetB t)) ∧ w = w' := by
  by_cases h3 : t = 3
  · subst h3
    go_enter Try.func42, Try.ntmps42
    go_wp2
    go_ret
    exact ⟨rfl, rfl⟩
  · by_cases h4 : t = 2
    · subst h4
      go_enter Try.func42, Try.ntmps42
      go_wp2
      go_ret
      exact ⟨rfl, rfl⟩
    · obtain ⟨v, hv⟩ : ∃ v, meetB t = v := ⟨_, rfl⟩
      have HV := Lib.hid (show (t == 5) = v by rw [← hv]; unfold meetB; simp [h3, h4])
      rw [hv]
      clear hv
      have g3 : (t == 3) = false := by simp [h3]
      have g4 : (t == 2) = false := by simp [h4]
      clear h3 h4
      go_enter Try.func42, Try.ntmps42
      go_wp2
      go_ret
      exact ⟨by rw [← HV.out]; rfl, rfl⟩
theorem jnFormed_any (t : Int) (w : World) : Calls Try.prog 39 #[.int .i64 t] w fun e w' => e = .returned (.bool (formedB t)) ∧ w = w' := by
  by_cases h3 : t = 3
  · subst h3
    go_enter Try.func39, Try.ntmps39
    go_wp2
    go_ret
    exact ⟨rfl, rfl⟩
  · by_cases h4 : t = 2
    · subst h4
      go_enter Try.func39, Try.ntmps39
      go_wp2
      go_ret
      exact ⟨rfl, rfl⟩
    · obtain ⟨v, hv⟩ : ∃ v, formedB t = v := ⟨_, rfl⟩
      have HV := Lib.hid (show (t == 4) = v by rw [← hv]; unfold formedB; simp [h3, h4])
      rw [hv]
      clear hv
      have g3 : (t == 3) = false := by simp [h3]
      have g4 : (t == 2) = false := by simp [h4]
      clear h3 h4
      go_enter Try.func39, Try.ntmps39
      go_wp2
      go_ret
      exact ⟨by rw [← HV.out]; rfl, rfl⟩
theorem jnForm_any (a b : Bool) (w : World) : Calls Try.prog 40 #[.bool a, .bool b] w fun e w' => e = .returned (.int .i64 (formK a b)) ∧ w = w' := by
  cases a <;> cases b
  all_goals
    go_enter Try.func40, Try.ntmps40
    go_wp2
    go_ret
    exact ⟨rfl, rfl⟩
set_option maxRecDepth 100000 in
theorem jnBehind_any (A : Option Addr) (n c : Nat) (ts : List Int) (i : Int) (w : World) (hr : Rd w 1 A n (ts.map (Value.int .i64))) (hn : n ≤ 1000000) :
    Calls Try.prog 17 #[.slice A n c, .int .i64 i] w fun e w' => e = .returned (.int .i64 (jBehind ts i)) ∧ w = w' := by
  have hlen : ts.length = n := by simpa using hr.len1
  by_cases hi : 0 ≤ i ∧ i < n
  · obtain ⟨h0, h1⟩ := hi
    obtain ⟨k0, rfl⟩ : ∃ k0 : Nat, i = k0 := ⟨i.toNat, by omega⟩
    have hd : decide (0 ≤ (k0 : Int) ∧ (k0 : Int) < n) = true := decide_eq_true ⟨h0, h1⟩
    have HC := Lib.hid (jnHas_any A n c k0 w)
    rw [hd] at HC
    obtain ⟨v, hv⟩ : ∃ v, jBehind ts k0 = v := ⟨_, rfl⟩
    have HV := Lib.hid (show jFirst ts (k0 + 1) = v by rw [← hv]; unfold jBehind; rw [if_pos ⟨h0, by omega⟩, Int.toNat_natCast])
    rw [hv]
    have HL := Lib.hid hlen
    clear hlen hd hv
    go_enter Try.func17, Try.ntmps17
    go_wp2_with fail
    refine HC.out.mono ?_
    rintro e w1 ⟨rfl, rfl⟩
    go_wp2
    go_loop [5] (fun p => ∃ k : Nat, k ≤ n ∧ p = .int .i64 k ∧ jFirst ts k = v) (fun p => n - (intOf p).toNat)
    case atStart => exact ⟨k0 + 1, by omega, by go_num, HV.out⟩
    case round =>
      obtain ⟨k, hk, rfl, hno⟩ := hrel
      have HN := Lib.hid hno
      clear hno
      by_cases hlt : k < n
      · obtain ⟨s, hsk⟩ : ∃ s, ts[k]? = some s := ⟨_, List.getElem?_eq_getElem (by rw [HL.out]; exact hlt)⟩
        obtain ⟨ad, rfl, _, hc⟩ := hr.at_ hlt
        have cs : w.cell? (ad.add k) = some (.int .i64 s) := hc _ (by rw [List.getElem?_map, hsk]; rfl)
        have HS := Lib.hid hsk
        clear hsk hc
        by_cases he : s = 1
        · subst he
          have HX := Lib.hid ((jFirst_skip HS.out).symm.trans HN.out)
          go_wp2
          go_round
          case rel => exact ⟨k + 1, by omega, by go_num, HX.out⟩
          case measure => simp [intOf]; omega
        · have HX := Lib.hid ((jFirst_hit HS.out he).symm.trans HN.out)
          have g1 : (s != 1) = true := by simp [he]
          clear he
          go_wp2
          go_ret
          exact ⟨retI HX.out, rfl⟩
      · have HF := Lib.hid ((jFirst_end (show ts.length ≤ k by rw [HL.out]; omega)).symm.trans HN.out)
        go_wp2
        go_ret
        exact ⟨retI HF.out, rfl⟩
  · have HC := Lib.hid (jnHas_any A n c i w)
    rw [decide_eq_false hi] at HC
    have HV := Lib.hid (show (-1 : Int) = jBehind ts i from (if_neg (by rw [hlen]; exact hi)).symm)
    clear hi
    go_enter Try.func17, Try.ntmps17
    go_wp2_with fail
    refine HC.out.mono ?_
    rintro e w1 ⟨rfl, rfl⟩
    go_wp2
    go_ret
    exact ⟨retI HV.out, rfl⟩
end Go.Proofs.Ytcjcimdembkbkaa
/- join's Joined; the reference's Ahead, Behind, Joined, Over. -/
namespace Go.Proofs.Ytcjcimdembkbkaa
open Go.RowKit

set_option maxRecDepth 100000 in
theorem jnJoined_of (A : Option Addr) (n c : Nat) (ts : List Int) (i : Int) (v : Bool) (hv : jJoined ts i = v) (w : World) (hr : Rd w 1 A n (ts.map (Value.int .i64))) (hn : n ≤ 1000000) :
    Calls Try.prog 19 #[.slice A n c, .int .i64 i] w fun e w' => e = .returned (.bool v) ∧ w = w' := by
  have hlen : ts.length = n := by simpa using hr.len1
  by_cases hi : 0 ≤ i ∧ i < n
  · obtain ⟨h0, h1⟩ := hi
    obtain ⟨k0, rfl⟩ : ∃ k0 : Nat, i = k0 := ⟨i.toNat, by omega⟩
    have hlt : k0 < n := by omega
    have HC := Lib.hid (jnHas_of A n c k0 true (decide_eq_true ⟨h0, h1⟩) w)
    have HB := Lib.hid (jnBehind_any A n c ts k0 w hr hn)
    rw [show jBehind ts k0 = jFirst ts (k0 + 1) by unfold jBehind; rw [if_pos ⟨h0, by omega⟩, Int.toNat_natCast]] at HB
    rw [show jJoined ts k0 = jJoin ts k0 by unfold jJoined; rw [if_pos ⟨h0, by omega⟩, Int.toNat_natCast]] at hv
    obtain ⟨t, htk⟩ : ∃ s, ts[k0]? = some s := ⟨_, List.getElem?_eq_getElem (by omega)⟩
    obtain ⟨ad, rfl, _, hc⟩ := hr.at_ hlt
    have cs : w.cell? (ad.add k0) = some (.int .i64 t) := hc _ (by rw [List.getElem?_map, htk]; rfl)
    obtain ⟨r, hr'⟩ : ∃ r, reachB t = r := ⟨_, rfl⟩
    have HR := Lib.hid (jnReaches_any t w)
    rw [hr'] at HR
    cases r with
    | false =>
      obtain rfl : v = false := by rw [← hv, jJoin_eq htk, hr']; rfl
      clear hv htk hr' hc hlen h0 h1 HB
      go_enter Try.func19, Try.ntmps19
      go_wp2_with (first
        | (go_at_call 43; with_reducible refine HC.out.mono ?_; rintro e w1 ⟨rfl, rfl⟩)
        | (go_at_call 41; with_reducible refine HR.out.mono ?_; rintro e w1 ⟨rfl, rfl⟩)
        | fail)
      go_ret
      exact ⟨rfl, rfl⟩
    | true =>
      rcases jFirst_ge ts (k0 + 1) with hb | ⟨b, hb⟩
      · obtain rfl : v = false := by rw [← hv, jJoin_none hb]
        rw [hb] at HB
        clear hv htk hr' hc hlen h0 h1 hb
        go_enter Try.func19, Try.ntmps19
        go_wp2_with (first
          | (go_at_call 43; with_reducible refine HC.out.mono ?_; rintro e w1 ⟨rfl, rfl⟩)
          | (go_at_call 41; with_reducible refine HR.out.mono ?_; rintro e w1 ⟨rfl, rfl⟩)
          | (go_at_call 17; with_reducible refine HB.out.mono ?_; rintro e w1 ⟨rfl, rfl⟩)
          | fail)
        go_ret
        exact ⟨rfl, rfl⟩
      · obtain ⟨_, b2, ⟨u, b3, _⟩, _⟩ := jFirst_is hb
        obtain rfl : v = meetB u := by rw [← hv, jJoin_some htk hb b3, hr']; rfl
        have cu : w.cell? (ad.add b) = some (.int .i64 u) := hr.news b _ (by rw [List.getElem?_map, b3]; rfl)
        have HM := Lib.hid (jnMeets_any u w)
        obtain ⟨m, hm⟩ : ∃ m, meetB u = m := ⟨_, rfl⟩
        rw [hm] at HM ⊢
        rw [hb] at HB
        rw [hlen] at b2
        clear hv htk hr' hc hlen h0 h1 hb b3 hm
        go_enter Try.func19, Try.ntmps19
        go_wp2_with (first
          | (go_at_call 43; with_reducible refine HC.out.mono ?_; rintro e w1 ⟨rfl, rfl⟩)
          | (go_at_call 41; with_reducible refine HR.out.mono ?_; rintro e w1 ⟨rfl, rfl⟩)
          | (go_at_call 17; with_reducible refine HB.out.mono ?_; rintro e w1 ⟨rfl, rfl⟩)
          | (go_at_call 42; with_reducible refine HM.out.mono ?_; rintro e w1 ⟨rfl, rfl⟩)
          | fail)
        go_ret
        exact ⟨rfl, rfl⟩
  · have HC := Lib.hid (jnHas_of A n c i false (decide_eq_false hi) w)
    obtain rfl : v = false := by rw [← hv]; exact if_neg (by rw [hlen]; exact hi)
    clear hi hv hlen
    go_enter Try.func19, Try.ntmps19
    go_wp2_with (first
      | (go_at_call 43; with_reducible refine HC.out.mono ?_; rintro e w1 ⟨rfl, rfl⟩)
      | fail)
    go_ret
    exact ⟨rfl, rfl⟩
theorem jnJoined_any (A : Option Addr) (n c : Nat) (ts : List Int) (i : Int) (w : World) (hr : Rd w 1 A n (ts.map (Value.int .i64))) (hn : n ≤ 1000000) :
    Calls Try.prog 19 #[.slice A n c, .int .i64 i] w fun e w' => e = .returned (.bool (jJoined ts i)) ∧ w = w' := jnJoined_of A n c ts i _ rfl w hr hn
set_option maxRecDepth 100000 in
theorem refBehind_any (A : Option Addr) (n c : Nat) (ts : List Int) (i : Int) (w : World) (hr : Rd w 1 A n (ts.map (Value.int .i64))) (hn : n ≤ 1000000) :
    Calls Try.prog 18 #[.slice A n c, .int .i64 i] w fun e w' => e = .returned (.int .i64 (jBehind ts i)) ∧ w = w' := by
  have hlen : ts.length = n := by simpa using hr.len1
  by_cases hi : 0 ≤ i ∧ i < n
  · obtain ⟨h0, h1⟩ := hi
    obtain ⟨k0, rfl⟩ : ∃ k0 : Nat, i = k0 := ⟨i.toNat, by omega⟩
    obtain ⟨v, hv⟩ : ∃ v, jBehind ts k0 = v := ⟨_, rfl⟩
    have HV := Lib.hid (show jFirst ts (k0 + 1) = v by rw [← hv]; unfold jBehind; rw [if_pos ⟨h0, by omega⟩, Int.toNat_natCast])
    rw [hv]
    have HL := Lib.hid hlen
    clear hlen hv
    go_enter Try.func18, Try.ntmps18
    go_wp2
    go_loop [5] (fun p => ∃ k : Nat, k ≤ n ∧ p = .int .i64 k ∧ jFirst ts k = v) (fun p => n - (intOf p).toNat)
    case atStart => exact ⟨k0 + 1, by omega, by go_num, HV.out⟩
    case round =>
      obtain ⟨k, hk, rfl, hno⟩ := hrel
      have HN := Lib.hid hno
      clear hno
      by_cases hlt : k < n
      · obtain ⟨s, hsk⟩ : ∃ s, ts[k]? = some s := ⟨_, List.getElem?_eq_getElem (by rw [HL.out]; exact hlt)⟩
        obtain ⟨ad, rfl, _, hc⟩ := hr.at_ hlt
        have cs : w.cell? (ad.add k) = some (.int .i64 s) := hc _ (by rw [List.getElem?_map, hsk]; rfl)
        have HS := Lib.hid hsk
        clear hsk hc
        by_cases he : s = 1
        · subst he
          have HX := Lib.hid ((jFirst_skip HS.out).symm.trans HN.out)
          go_wp2
          go_round
          case rel => exact ⟨k + 1, by omega, by go_num, HX.out⟩
          case measure => simp [intOf]; omega
        · have HX := Lib.hid ((jFirst_hit HS.out he).symm.trans HN.out)
          have g1 : (s != 1) = true := by simp [he]
          clear he
          go_wp2
          go_ret
          exact ⟨retI HX.out, rfl⟩
      · have HF := Lib.hid ((jFirst_end (show ts.length ≤ k by rw [HL.out]; omega)).symm.trans HN.out)
        go_wp2
        go_ret
        exact ⟨retI HF.out, rfl⟩
  · have HV := Lib.hid (show (-1 : Int) = jBehind ts i from (if_neg (by rw [hlen]; exact hi)).symm)
    have hi' : i < 0 ∨ (0 ≤ i ∧ (n : Int) ≤ i) := by omega
    clear hi
    rcases hi' with h | ⟨h, h'⟩
    all_goals
      go_enter Try.func18, Try.ntmps18
      go_wp2
      go_ret
      exact ⟨retI HV.out, rfl⟩
set_option maxRecDepth 100000 in
theorem refAhead_any (A : Option Addr) (n c : Nat) (ts : List Int) (i : Int) (w : World) (hr : Rd w 1 A n (ts.map (Value.int .i64))) (hn : n ≤ 1000000) :
    Calls Try.prog 16 #[.slice A n c, .int .i64 i] w fun e w' => e = .returned (.int .i64 (jAhead ts i)) ∧ w = w' := by
  have hlen : ts.length = n := by simpa using hr.len1
  by_cases hi : 0 ≤ i ∧ i < n
  · obtain ⟨h0, h1⟩ := hi
    obtain ⟨k0, rfl⟩ : ∃ k0 : Nat, i = k0 := ⟨i.toNat, by omega⟩
    obtain ⟨v, hv⟩ : ∃ v, jAhead ts k0 = v := ⟨_, rfl⟩
    have HV := Lib.hid (show jLast ts k0 = v by rw [← hv]; unfold jAhead; rw [if_pos ⟨h0, by omega⟩, Int.toNat_natCast])
    rw [hv]
    have HL := Lib.hid hlen
    clear hlen hv
    go_enter Try.func16, Try.ntmps16
    go_wp2
    go_loop [5] (fun p => ∃ k : Nat, k ≤ n ∧ p = .int .i64 ((k : Int) - 1) ∧ jLast ts k = v) (fun p => (intOf p + 1).toNat)
    case atStart => exact ⟨k0, by omega, by go_num, HV.out⟩
    case round =>
      obtain ⟨k, hk, rfl, hno⟩ := hrel
      have HN := Lib.hid hno
      clear hno
      cases k with
      | succ k =>
        obtain ⟨s, hsk⟩ : ∃ s, ts[k]? = some s := ⟨_, List.getElem?_eq_getElem (by rw [HL.out]; omega)⟩
        obtain ⟨ad, rfl, _, hc⟩ := hr.at_ (show k < n by omega)
        have cs : w.cell? (ad.add k) = some (.int .i64 s) := hc _ (by rw [List.getElem?_map, hsk]; rfl)
        have HS := Lib.hid hsk
        have e1 : ((k + 1 : Nat) : Int) - 1 = (k : Int) := by omega
        rw [e1]
        clear hsk hc e1
        by_cases he : s = 1
        · subst he
          have HX := Lib.hid ((jLast_skip HS.out).symm.trans HN.out)
          go_wp2
          go_round
          case rel => exact ⟨k, by omega, by go_num, HX.out⟩
          case measure => simp [intOf] <;> omega
        · have HX := Lib.hid ((jLast_hit HS.out he).symm.trans HN.out)
          have g1 : (s != 1) = true := by simp [he]
          clear he
          go_wp2
          go_ret
          exact ⟨retI HX.out, rfl⟩
      | zero =>
        have HF := Lib.hid (show (-1 : Int) = v from HN.out)
        go_wp2
        go_ret
        exact ⟨retI HF.out, rfl⟩
  · have HV := Lib.hid (show (-1 : Int) = jAhead ts i from (if_neg (by rw [hlen]; exact hi)).symm)
    have hi' : i < 0 ∨ (0 ≤ i ∧ (n : Int) ≤ i) := by omega
    clear hi
    rcases hi' with h | ⟨h, h'⟩
    all_goals
      go_enter Try.func16, Try.ntmps16
      go_wp2
      go_ret
      exact ⟨retI HV.out, rfl⟩
set_option maxRecDepth 100000 in
theorem refJoined_of (A : Option Addr) (n c : Nat) (ts : List Int) (i : Int) (v : Bool) (hv : jJoined ts i = v) (w : World) (hr : Rd w 1 A n (ts.map (Value.int .i64))) (hn : n ≤ 1000000) :
    Calls Try.prog 20 #[.slice A n c, .int .i64 i] w fun e w' => e = .returned (.bool v) ∧ Below w.heap.size w w' := by
  have hlen : ts.length = n := by simpa using hr.len1
  have HB := Lib.hid (refBehind_any A n c ts i w hr hn)
  by_cases hi : 0 ≤ i ∧ i < n
  · obtain ⟨h0, h1⟩ := hi
    obtain ⟨k0, rfl⟩ : ∃ k0 : Nat, i = k0 := ⟨i.toNat, by omega⟩
    have hlt : k0 < n := by omega
    rw [show jBehind ts k0 = jFirst ts (k0 + 1) by unfold jBehind; rw [if_pos ⟨h0, by omega⟩, Int.toNat_natCast]] at HB
    rw [show jJoined ts k0 = jJoin ts k0 by unfold jJoined; rw [if_pos ⟨h0, by omega⟩, Int.toNat_natCast]] at hv
    obtain ⟨t, htk⟩ : ∃ s, ts[k0]? = some s := ⟨_, List.getElem?_eq_getElem (by omega)⟩
    have ct := hr.at_ hlt
    obtain ⟨ad, rfl, _, hc⟩ := ct
    have cs : w.cell? (ad.add k0) = some (.int .i64 t) := hc _ (by rw [List.getElem?_map, htk]; rfl)
    rcases jFirst_ge ts (k0 + 1) with hb | ⟨b, hb⟩
    · obtain rfl : v = false := by rw [← hv, jJoin_none hb]
      rw [hb] at HB
      clear hv htk hc hlen h0 h1 hb
      go_enter Try.func20, Try.ntmps20
      go_wp2_with (first
        | (go_at_call 18; with_reducible refine HB.out.mono ?_; rintro e w1 ⟨rfl, rfl⟩)
        | fail)
      go_ret
      exact ⟨rfl, Below.refl _ _⟩
    · obtain ⟨_, b2, ⟨u, b3, _⟩, _⟩ := jFirst_is hb
      have HV := Lib.hid (show (reachB t && meetB u) = v by rw [← hv, jJoin_some htk hb b3])
      have cu : w.cell? (ad.add b) = some (.int .i64 u) := hr.news b _ (by rw [List.getElem?_map, b3]; rfl)
      rw [hb] at HB
      rw [hlen] at b2
      clear hv htk hc hlen h0 h1 hb b3
      obtain ⟨p3, q3⟩ : ∃ p, (t == 3) = p := ⟨_, rfl⟩
      obtain ⟨p4, q4⟩ : ∃ p, (t == 4) = p := ⟨_, rfl⟩
      obtain ⟨p5, q5⟩ : ∃ p, (t == 5) = p := ⟨_, rfl⟩
      obtain ⟨r3, s3⟩ : ∃ p, (u == 3) = p := ⟨_, rfl⟩
      obtain ⟨r2, s2⟩ : ∃ p, (u == 2) = p := ⟨_, rfl⟩
      obtain ⟨r5, s5⟩ : ∃ p, (u == 5) = p := ⟨_, rfl⟩
      have HV := HV.out
      unfold reachB meetB at HV
      rw [q3, q4, q5, s3, s2, s5] at HV
      subst HV
      go_enter Try.func20, Try.ntmps20
      go_wp2_with (first
        | (go_at_call 18; with_reducible refine HB.out.mono ?_; rintro e w1 ⟨rfl, rfl⟩)
        | fail)
      go_region
      go_wp2
      all_goals
        go_ret
        refine ⟨?_, (Below.refl _ _).drew⟩
        clear HV HB hr cs cu q3 q4 q5 s3 s2 s5
        simp_all
  · obtain rfl : v = false := by rw [← hv]; exact if_neg (by rw [hlen]; exact hi)
    rw [show jBehind ts i = -1 from if_neg (by rw [hlen]; exact hi)] at HB
    clear hi hv hlen
    go_enter Try.func20, Try.ntmps20
    go_wp2_with (first
      | (go_at_call 18; with_reducible refine HB.out.mono ?_; rintro e w1 ⟨rfl, rfl⟩)
      | fail)
    go_ret
    exact ⟨rfl, Below.refl _ _⟩
theorem refJoined_any (A : Option Addr) (n c : Nat) (ts : List Int) (i : Int) (w : World) (hr : Rd w 1 A n (ts.map (Value.int .i64))) (hn : n ≤ 1000000) :
    Calls Try.prog 20 #[.slice A n c, .int .i64 i] w fun e w' => e = .returned (.bool (jJoined ts i)) ∧ Below w.heap.size w w' := refJoined_of A n c ts i _ rfl w hr hn
end Go.Proofs.Ytcjcimdembkbkaa
/- slices.Backward at []int: what the iterator does, whatever the loop's body (after the guide's worked text on slices.All); join's Ahead. -/
namespace Go.Proofs.Ytcjcimdembkbkaa
open Go.RowKit Go.Shelf

attribute [local go_sem] Oper.semAt_some

/-- What has come when k rounds are over. -/
def bkUpto (zs : List Int) (len k : Nat) : List (Nat × Int) := (List.range k).map fun j => (len - 1 - j, zs.getD (len - 1 - j) 0)
theorem bkUpto_succ (zs : List Int) (len k : Nat) : bkUpto zs len (k + 1) = bkUpto zs len k ++ [(len - 1 - k, zs.getD (len - 1 - k) 0)] := by simp [bkUpto, List.range_succ]
theorem bkUpto_len (zs : List Int) (len k : Nat) : (bkUpto zs len k).length = k := by simp [bkUpto]
set_option maxRecDepth 100000 in
set_option maxHeartbeats 2000000 in
theorem back1_in (F : Fence) (n : Nat) (hf : F.fn 57) (hro : F.round = none) (hn : 1 ≤ n) (l Bs n₀ len cap : Nat) (ad : Addr) (zs : List Int) (hlen : len ≤ 1000000) (hz : zs.length = len) (hb : ad.block < n₀) (hBl : Bs < n₀) (J Jx : List (Nat × Int) → World → Prop)
    (hY : ∀ pre x W, J pre W → pre.length < len → YieldAt F (n - 1) Try.prog l #[.int .i64 (x.1 : Int), .int .i64 x.2] W fun e W' =>
      (e = .returned (.bool true) ∧ J (pre ++ [x]) W' ∧ Below n₀ W W') ∨ (e = .returned (.bool false) ∧ Jx (pre ++ [x]) W'))
    (W : World) (hBs : W.cell? ⟨Bs, 0, none⟩ = some (.slice (some ad) len cap)) (hc : ∀ j u, zs[j]? = some u → W.cell? (ad.add j) = some (.int .i64 u)) (h0 : J [] W) :
    CallsIn F n Try.prog 57 #[.func (.yield l) #[] #[], .pointer (some ⟨Bs, 0, none⟩)] W fun e W' => (∃ v, e = .returned v) ∧
      ((∃ ys, ys = bkUpto zs len len ∧ J ys W') ∨ (∃ pre, (∃ k, k ≤ len ∧ pre = bkUpto zs len k) ∧ Jx pre W')) := by
  refine callsIn_of_wp Try.func57 rfl hf ?_ hro
  simp only [Try.ntmps57, List.size_toArray, List.length_cons, List.length_nil, Nat.reduceAdd, Nat.reduceSub, Array.replicate_succ, Array.replicate_zero, List.push_toArray, List.append_toArray, List.nil_append, List.cons_append]
  gi_wp2
  gi_loopw [3] (fun i wr => ∃ m k : Nat, m + k = len ∧ i = .int .i64 ((m : Int) - 1) ∧ J (bkUpto zs len k) wr ∧ Below n₀ W wr)
    (fun i _ => (intOf i + 1).toNat)
  case atStart => exact ⟨len, 0, rfl, rfl, h0, Below.refl _ _⟩
  case round =>
    obtain ⟨m, k, hk, rfl, hJs, hnx⟩ := hrel
    have hBr : wr.cell? ⟨Bs, 0, none⟩ = some (.slice (some ad) len cap) := (hnx.cell (p := ⟨Bs, 0, none⟩) hBl).trans hBs
    cases m with
    | succ m =>
      obtain ⟨x, hx⟩ : ∃ x, zs[m]? = some x := ⟨_, List.getElem?_eq_getElem (by omega)⟩
      have hcx : wr.cell? (ad.add m) = some (.int .i64 x) := (hnx.cell (p := ad.add m) (by rw [blockAdd]; exact hb)).trans (hc m x hx)
      obtain ⟨fn, tmps, assign, body, hy, hR⟩ := hY _ (m, x) wr hJs (by rw [bkUpto_len]; omega)
      dsimp only at hy
      have e1 : ((m + 1 : Nat) : Int) - 1 = (m : Int) := by omega
      have e2 : bkUpto zs len (k + 1) = bkUpto zs len k ++ [(m, x)] := by
        rw [bkUpto_succ, show len - 1 - k = m by omega]
        simp [hx]
      rw [e1]
      rw [← e2] at hR
      clear e1 hx
      gi_wp2
      refine hR.mono ?_
      rintro e W3 (⟨rfl, hJ3, hk3⟩ | ⟨rfl, hJx3⟩)
      · gi_wp2
        go_roundw
        case rel => exact ⟨m, k + 1, by omega, by go_num, hJ3, hnx.trans hk3⟩
        case measure => simp [intOf] <;> omega
      · gi_wp2
        refine bodyPost_ret (results_none rfl _ _ _) rfl ?_
        exact ⟨⟨_, rfl⟩, .inr ⟨_, ⟨k + 1, by omega, rfl⟩, hJx3⟩⟩
    | zero =>
      obtain rfl : k = len := by omega
      gi_wp2
      go_end0
      exact ⟨⟨_, rfl⟩, .inl ⟨_, rfl, hJs⟩⟩
set_option maxHeartbeats 1000000 in
theorem back_in (F : Fence) (n : Nat) (hf : F.fn 44) (hro : F.round = none) (a : Option Addr) (len cap : Nat) (w : World) :
    CallsIn F n Try.prog 44 #[.slice a len cap] w fun e w' => e = .returned (.func (.func 57) #[] #[.pointer (some ⟨w.heap.size, 0, none⟩)]) ∧ w' = w.alloc (.cells #[.slice a len cap] 22) := by
  refine callsIn_of_wp Try.func44 rfl hf ?_ hro
  simp only [Try.ntmps44, List.size_toArray, List.length_cons, List.length_nil, Nat.reduceAdd, Nat.reduceSub, Array.replicate_succ, Array.replicate_zero, List.push_toArray, List.append_toArray, List.nil_append, List.cons_append]
  gi_wp2
  go_ret
  exact ⟨rfl, rfl⟩
/-- slices.Backward(s) hands back a value that stops, at 'what lay below n₀ lies as it lay'. -/
theorem back_stops (F : Fence) (n : Nat) (hf : F.fn 57) (hro : F.round = none) (hn : 1 ≤ n) (Bs n₀ len cap : Nat) (ad : Addr) (zs : List Int) (hlen : len ≤ 1000000) (hz : zs.length = len) (hb : ad.block < n₀) (hBl : Bs < n₀) (w : World) (hn₀ : n₀ ≤ w.heap.size)
    (hBs : w.cell? ⟨Bs, 0, none⟩ = some (.slice (some ad) len cap)) (hc : ∀ j u, zs[j]? = some u → w.cell? (ad.add j) = some (.int .i64 u)) :
    SeqStopsK F n Try.prog 57 #[.pointer (some ⟨Bs, 0, none⟩)] (fun x : Nat × Int => #[Value.int .i64 (x.1 : Int), Value.int .i64 x.2]) (Below n₀) (fun ys => ys = bkUpto zs len len)
      (fun pre => ∃ k, k ≤ len ∧ pre = bkUpto zs len k) len w := fun l J Jx W hW _ _ hY h0 =>
  back1_in F n hf hro hn l Bs n₀ len cap ad zs hlen hz hb hBl J Jx hY W ((hW.cell (p := ⟨Bs, 0, none⟩) (show Bs < w.heap.size by omega)).trans hBs) (fun j u hj => (hW.cell (p := ad.add j) (by rw [blockAdd]; omega)).trans (hc j u hj)) h0

/-- What the loop of Ahead has seen: places from the end on that are passed over. -/
theorem bk_all {zs : List Int} {len k : Nat} (hz : zs.length = len) (hk : k ≤ len) (h : ∀ p ∈ bkUpto zs len k, p.2 = 1) {j : Nat} (h1 : len - k ≤ j) (h2 : j < len) : zs[j]? = some 1 := by
  have := h (len - 1 - (len - 1 - j), zs.getD (len - 1 - (len - 1 - j)) 0) (by
    simp only [bkUpto, List.mem_map, List.mem_range]
    exact ⟨len - 1 - j, by omega, rfl⟩)
  rw [show len - 1 - (len - 1 - j) = j by omega] at this
  simp only [List.getD_eq_getElem?_getD] at this
  rw [List.getElem?_eq_getElem (by omega)] at this ⊢
  simpa using this
set_option maxRecDepth 100000 in
set_option maxHeartbeats 2000000 in
theorem jnAhead_in
    (ad : Addr) (m c k0 : Nat) (ts : List Int) (v : Int) (w : World) (hv : jLast ts k0 = v) (hr : Rd w 1 (some ad) m (ts.map (Value.int .i64))) (hm : m ≤ 1000000) (hmc : m ≤ c) (hk : k0 < m) (hab : ad.block < w.heap.size) :
    CallsIn Fence.wide 5 Try.prog 15 #[.slice (some ad) m c, .int .i64 (k0 : Int)] w fun e W' => e = .returned (.int .i64 v) ∧ Below w.heap.size w W' := by
  have hlen : ts.length = m := by simpa using hr.len1
  obtain ⟨zs, hzs⟩ : ∃ zs, ts.take k0 = zs := ⟨_, rfl⟩
  have hz : zs.length = k0 := by rw [← hzs, List.length_take]; omega
  have hzt : ∀ (j : Nat) (u : Int), zs[j]? = some u → ts[j]? = some u := by
    intro j u hj
    have hj' := (List.getElem?_eq_some_iff.1 hj).1
    rwa [← hzs, List.getElem?_take_of_lt (by omega)] at hj
  have hcs : ∀ (j : Nat) (u : Int), zs[j]? = some u → w.cell? (ad.add j) = some (.int .i64 u) := fun j u hj => hr.news j _ (by rw [List.getElem?_map, hzt j u hj]; rfl)
  refine callsIn_of_wp_marks Try.func15 rfl trivial ?_ rfl
  simp only [Try.ntmps15, List.size_toArray, List.length_cons, List.length_nil, Nat.reduceAdd, Nat.reduceSub, Array.replicate_succ, Array.replicate_zero, List.push_toArray, List.append_toArray, List.nil_append, List.cons_append]
  gi_wp2_with (first
    | (refine ⟨trivial, ?_⟩; gi_at_call 43; refine (callsIn_wide.2 (jnHas_of _ _ _ _ true (decide_eq_true ⟨by omega, by omega⟩) _)).mono ?_; rintro e w' ⟨rfl, rfl⟩)
    | (refine ⟨trivial, ?_⟩; gi_at_call 44; refine (back_in Fence.wide (5 - 1) trivial rfl _ _ _ _).mono ?_; rintro e w' ⟨rfl, rfl⟩)
    | fail)
  have bR := Boxed.new w 3 (.int .i64 0)
  have bN := Boxed.new (w.alloc (.cells #[.int .i64 0] 3)) 22 (.slice (some ad) k0 c)
  rw [World.size_alloc] at bN
  have hB0 : Below w.heap.size w ((w.alloc (.cells #[.int .i64 0] 3)).alloc (.cells #[.slice (some ad) k0 c] 22)) := ((Below.refl _ w).alloc (Nat.le_refl _) _).alloc (by simp) _
  refine wpIn_rangeFunc_ownG rfl (by omega) (gf := 57) (lb := #[.pointer (some ⟨w.heap.size + 1, 0, none⟩)]) rfl trivial (enters_of Try.func57 (by kernel_rfl) rfl)
    (back_stops Fence.wide (5 - 1) trivial rfl (by omega) (w.heap.size + 1) (w.heap.size + 2) k0 c ad zs (by omega) hz (by omega) (by omega) _ (by simp) bN.cell (fun j u hj => (hB0.cell (p := ad.add j) (by rw [blockAdd]; exact hab)).trans (hcs j u hj))) belowK_t (belowK_b (by simp)) (Below.refl _ _) (fun _ => rfl)
    (fun pre W => ((∀ p ∈ pre, p.2 = 1) ∧ W.cell? ⟨w.heap.size, 0, none⟩ = some (.int .i64 0) ∧ W.frozen? ⟨w.heap.size, 0, none⟩ = false) ∧ Below w.heap.size w W)
    (fun c pre W => (c = .ret ∧ ∃ ini last, pre = ini ++ [last] ∧ (∀ p ∈ ini, p.2 = 1) ∧ last.2 ≠ 1 ∧ W.cell? ⟨w.heap.size, 0, none⟩ = some (.int .i64 (last.1 : Int))) ∧ Below w.heap.size w W)
    (OwnFrom.and (Own.from (fun s A B row hs hg hr => ⟨hs.1, cell_kept hs.2.1 hg hr, (frozen_kept hs.2.1 hg hr).trans hs.2.2⟩) _) (ownFrom_below (Nat.le_refl _) (by simp; omega)))
    (fun c => OwnFrom.and (Own.from (fun s A B row hs hg hr => by obtain ⟨hc, ini, last, e1, e2, e3, e4⟩ := hs; exact ⟨hc, ini, last, e1, e2, e3, cell_kept e4 hg hr⟩) _) (ownFrom_below (Nat.le_refl _) (by simp; omega)))
    ⟨⟨by simp, (bR.alloc _).cell, (bR.alloc _).frozen⟩, hB0⟩
    (fun x => { tmps := #[.slice (some ad) m c, .int .i64 k0, undef, undef, .pointer (some ⟨w.heap.size, 0, none⟩), .int .i64 (x.1 : Int), .int .i64 x.2, .slice (some ad) m c, .int .i64 k0, .bool true, .bool false, .slice (some ad) m c, .int .i64 k0, .slice (some ad) k0 c, .func (.func 57) #[] #[.pointer (some ⟨w.heap.size + 1, 0, none⟩)], .int .i64 (x.1 : Int), .int .i64 x.2, undef, undef, undef], defers := [] }) ?assign ?body ?done ?stop
  case assign =>
    intro l x W K hK
    gi_wp2
    exact hK
  case body =>
    rintro l pre ⟨x1, x2⟩ W ⟨⟨hp, hcr, hfr⟩, hB⟩ _
    by_cases hx : x2 = 1
    · subst hx
      gi_wp2
      exact ⟨KeepsFrom.refl _ _, Below.refl _ _, ⟨fun p hp' => (List.mem_append.1 hp').elim (hp p) (fun e => by simp at e; subst e; rfl), hcr, hfr⟩, hB⟩
    · have g1 : (x2 != 1) = true := by simp [hx]
      gi_wp2
      exact ⟨(KeepsOthers.setCell _ _ _).from _, ⟨rfl, pre, (x1, x2), rfl, hp, hx, World.cell?_setCell_same' _ _ _ (by rw [hcr]; rfl)⟩, hB.setCell (p := ⟨w.heap.size, 0, none⟩) (Nat.le_refl _) _⟩
  case done =>
    rintro D ys W hD rfl ⟨⟨hne, hcr, hfr⟩, hB⟩ hK
    gi_wp2
    have hK' := (KeepsOthers.setCell W ⟨w.heap.size, 0, none⟩ (.int .i64 (-1))).same D _ hK rfl
    refine ⟨by simp, .inl ⟨_, _, rfl, run_takeDeferred hK', ?_⟩⟩
    have hc5 := cell_kept (World.cell?_setCell_same' W ⟨w.heap.size, 0, none⟩ (.int .i64 (-1)) (by rw [hcr]; rfl)) (grownBy_putObj' _ D (.deferred none)) (fun r e => by cases e; exact ⟨_, hK', rfl⟩)
    have hv' : v = -1 := by
      rw [← hv, jLast_back (Nat.zero_le k0) (fun j _ h2 => hzt j 1 (bk_all hz (Nat.le_refl _) hne (by omega) h2))]
      rfl
    refine ⟨.int .i64 (-1), ?_, by rw [hv'], (hB.setCell (p := ⟨w.heap.size, 0, none⟩) (Nat.le_refl _) _).trans (belowK_b (w := w) (Nat.le_refl _) _ D _ _ (by simp at hD; omega) hK' rfl rfl)⟩
    simp [results, Try.f15, go_sem, hc5]
  case stop =>
    rintro D c pre W hD ⟨k, hk', rfl⟩ ⟨⟨rfl, ini, last, e1, e2, e3, hcr⟩, hB⟩ hK
    gi_wp2
    refine ⟨by simp, .inl ⟨_, _, rfl, run_takeDeferred hK, ?_⟩⟩
    have hc5 := cell_kept hcr (grownBy_putObj' _ D (.deferred none)) (fun r e => by cases e; exact ⟨_, hK, rfl⟩)
    obtain ⟨k', rfl⟩ : ∃ k', k = k' + 1 := by
      cases k with
      | zero => simp [bkUpto] at e1
      | succ k' => exact ⟨k', rfl⟩
    rw [bkUpto_succ] at e1
    obtain ⟨rfl, e5⟩ := List.append_inj' e1 rfl
    obtain rfl : (k0 - 1 - k', zs.getD (k0 - 1 - k') 0) = last := by simpa using e5
    have hin : zs[k0 - 1 - k']? = some (zs.getD (k0 - 1 - k') 0) := by
      rw [List.getElem?_eq_getElem (by omega)]
      simp [List.getElem?_eq_getElem (show k0 - 1 - k' < zs.length by omega)]
    have hv' : v = ((k0 - 1 - k' : Nat) : Int) := by
      rw [← hv, jLast_back (k := k0 - 1 - k' + 1) (by omega) (fun j h1 h2 => hzt j 1 (bk_all hz (by omega) e2 (by omega) h2))]
      exact jLast_hit (hzt _ _ hin) e3
    refine ⟨.int .i64 ((k0 - 1 - k' : Nat) : Int), ?_, by rw [hv'], hB.trans (belowK_b (w := w) (Nat.le_refl _) W D _ _ (by simp at hD; omega) hK rfl rfl)⟩
    simp [results, Try.f15, go_sem, hc5]
end Go.Proofs.Ytcjcimdembkbkaa
/- join's Ahead and Over at any place; the reference's Over. -/
namespace Go.Proofs.Ytcjcimdembkbkaa
open Go.RowKit

theorem jLast_ge (ts : List Int) (k : Nat) : jLast ts k = -1 ∨ ∃ b : Nat, jLast ts k = b := by
  have := (jLast_lt ts k).2
  by_cases h : jLast ts k = -1
  · exact .inl h
  · exact .inr ⟨(jLast ts k).toNat, by omega⟩
set_option maxRecDepth 100000 in
theorem jnAhead_any (A : Option Addr) (n c : Nat) (ts : List Int) (i : Int) (w : World) (hr : Rd w 1 A n (ts.map (Value.int .i64))) (hn : n ≤ 1000000) (hnc : n ≤ c) :
    Calls Try.prog 15 #[.slice A n c, .int .i64 i] w fun e w' => e = .returned (.int .i64 (jAhead ts i)) ∧ Below w.heap.size w w' := by
  have hlen : ts.length = n := by simpa using hr.len1
  by_cases hi : 0 ≤ i ∧ i < n
  · obtain ⟨h0, h1⟩ := hi
    obtain ⟨k0, rfl⟩ : ∃ k0 : Nat, i = k0 := ⟨i.toNat, by omega⟩
    obtain ⟨ad, rfl, hab, _⟩ := hr.at_ (show k0 < n by omega)
    rw [show jAhead ts k0 = jLast ts k0 by unfold jAhead; rw [if_pos ⟨h0, by omega⟩, Int.toNat_natCast]]
    exact callsIn_wide.1 (jnAhead_in ad n c k0 ts _ w rfl hr hn hnc (by omega) hab)
  · have HC := Lib.hid (fun w => jnHas_of A n c i false (decide_eq_false hi) w)
    have HV := Lib.hid (show (-1 : Int) = jAhead ts i from (if_neg (by rw [hlen]; exact hi)).symm)
    clear hi hlen
    have hb1 := below_new w (.cells #[.int .i64 0] 3)

    go_enter Try.func15, Try.ntmps15
    go_wp2_with (first
      | (go_at_call 43; with_reducible refine (HC.out _).mono ?_; rintro e w1 ⟨rfl, rfl⟩)
      | fail)
    have hc5 : (w.alloc (.cells #[.int .i64 (-1)] 3)).cell? ⟨w.heap.size, 0, none⟩ = some (.int .i64 (-1)) := by rw [World.cell?_alloc_at _ _ _ _ rfl]; rfl
    refine bodyPost_ret (v := .int .i64 (-1)) ?_ rfl ⟨retI HV.out, below_new _ _⟩
    simp [results, Try.f15, go_sem, hc5]
set_option maxRecDepth 100000 in
theorem jnOver_of (A : Option Addr) (n c : Nat) (ts : List Int) (i : Int) (v : Bool) (hv : jOver ts i = v) (w : World) (hr : Rd w 1 A n (ts.map (Value.int .i64))) (hn : n ≤ 1000000) (hnc : n ≤ c) :
    Calls Try.prog 21 #[.slice A n c, .int .i64 i] w fun e w' => e = .returned (.bool v) ∧ Below w.heap.size w w' := by
  have hlen : ts.length = n := by simpa using hr.len1
  have HR := Lib.hid hr
  by_cases hi : 0 ≤ i ∧ i < n
  · obtain ⟨h0, h1⟩ := hi
    obtain ⟨k0, rfl⟩ : ∃ k0 : Nat, i = k0 := ⟨i.toNat, by omega⟩
    have hlt : k0 < n := by omega
    have HC := Lib.hid (jnHas_of A n c k0 true (decide_eq_true ⟨h0, h1⟩) w)
    have HA := Lib.hid (jnAhead_any A n c ts k0 w hr hn hnc)
    rw [show jAhead ts k0 = jLast ts k0 by unfold jAhead; rw [if_pos ⟨h0, by omega⟩, Int.toNat_natCast]] at HA
    obtain ⟨t, htk⟩ : ∃ s, ts[k0]? = some s := ⟨_, List.getElem?_eq_getElem (by omega)⟩
    have hv' : (decide (t = 1) && jJoinI ts (jLast ts k0)) = v := by
      rw [← hv]; unfold jOver
      rw [if_pos ⟨h0, by omega⟩, Int.toNat_natCast]; simp [htk]
    have hJ : jJoined ts (jLast ts k0) = jJoinI ts (jLast ts k0) := by
      have := jLast_lt ts k0
      unfold jJoined jJoinI
      by_cases c : 0 ≤ jLast ts k0
      · rw [if_pos ⟨c, by omega⟩, if_pos c]
      · rw [if_neg (fun h => c h.1), if_neg c]
    have hcell := hr.at_ hlt
    obtain ⟨ad, rfl, _, hc⟩ := hcell
    have cs : w.cell? (ad.add k0) = some (.int .i64 t) := hc _ (by rw [List.getElem?_map, htk]; rfl)
    by_cases ht : t = 1
    · subst ht
      obtain ⟨q, hq⟩ : ∃ q, jLast ts k0 = q := ⟨_, rfl⟩
      rw [hq] at HA hv' hJ
      obtain rfl : jJoinI ts q = v := by simpa using hv'
      have HJ := Lib.hid (fun w1 (h : Rd w1 1 (some ad) n (ts.map (Value.int .i64))) => jnJoined_of (some ad) n c ts q (jJoinI ts q) hJ w1 h hn)
      obtain ⟨r, hr'⟩ : ∃ r, jJoinI ts q = r := ⟨_, rfl⟩
      rw [hr'] at HJ ⊢
      clear hv hv' hJ htk hc hlen h0 h1 hq hr' hr
      have hbz := Below.refl w.heap.size w
      go_enter Try.func21, Try.ntmps21
      go_wp2_with (first
        | (go_at_call 43; with_reducible refine HC.out.mono ?_; rintro e w1 ⟨rfl, rfl⟩)
        | (go_at_call 15; with_reducible refine HA.out.mono ?_; rintro e w1 ⟨rfl, hb1⟩)
        | (go_at_call 19; with_reducible refine (HJ.out _ (HR.out.below hb1)).mono ?_; rintro e w2 ⟨rfl, rfl⟩)
        | fail)
      go_ret
      exact ⟨rfl, hb1⟩
    · obtain rfl : v = false := by rw [← hv', decide_eq_false ht]; rfl
      have g1 : (t == 1) = false := by simp [ht]
      clear hv hv' hJ htk hc hlen h0 h1 HA ht hr
      go_enter Try.func21, Try.ntmps21
      go_wp2_with (first
        | (go_at_call 43; with_reducible refine HC.out.mono ?_; rintro e w1 ⟨rfl, rfl⟩)
        | fail)
      go_ret
      exact ⟨rfl, Below.refl _ _⟩
  · have HC := Lib.hid (jnHas_of A n c i false (decide_eq_false hi) w)
    obtain rfl : v = false := by rw [← hv]; exact if_neg (by rw [hlen]; exact hi)
    clear hi hv hlen hr
    go_enter Try.func21, Try.ntmps21
    go_wp2_with (first
      | (go_at_call 43; with_reducible refine HC.out.mono ?_; rintro e w1 ⟨rfl, rfl⟩)
      | fail)
    go_ret
    exact ⟨rfl, Below.refl _ _⟩
set_option maxRecDepth 100000 in
theorem refOver_of (A : Option Addr) (n c : Nat) (ts : List Int) (i : Int) (v : Bool) (hv : jOver ts i = v) (w : World) (hr : Rd w 1 A n (ts.map (Value.int .i64))) (hn : n ≤ 1000000) :
    Calls Try.prog 22 #[.slice A n c, .int .i64 i] w fun e w' => e = .returned (.bool v) ∧ Below w.heap.size w w' := by
  have hlen : ts.length = n := by simpa using hr.len1
  have HR := Lib.hid hr
  by_cases hi : 0 ≤ i ∧ i < n
  · obtain ⟨h0, h1⟩ := hi
    obtain ⟨k0, rfl⟩ : ∃ k0 : Nat, i = k0 := ⟨i.toNat, by omega⟩
    have hlt : k0 < n := by omega
    have HA := Lib.hid (refAhead_any A n c ts k0 w hr hn)
    rw [show jAhead ts k0 = jLast ts k0 by unfold jAhead; rw [if_pos ⟨h0, by omega⟩, Int.toNat_natCast]] at HA
    obtain ⟨t, htk⟩ : ∃ s, ts[k0]? = some s := ⟨_, List.getElem?_eq_getElem (by omega)⟩
    have hv' : (decide (t = 1) && jJoinI ts (jLast ts k0)) = v := by
      rw [← hv]; unfold jOver
      rw [if_pos ⟨h0, by omega⟩, Int.toNat_natCast]; simp [htk]
    have hJ : jJoined ts (jLast ts k0) = jJoinI ts (jLast ts k0) := by
      have := jLast_lt ts k0
      unfold jJoined jJoinI
      by_cases c : 0 ≤ jLast ts k0
      · rw [if_pos ⟨c, by omega⟩, if_pos c]
      · rw [if_neg (fun h => c h.1), if_neg c]
    have hcell := hr.at_ hlt
    obtain ⟨ad, rfl, _, hc⟩ := hcell
    have cs : w.cell? (ad.add k0) = some (.int .i64 t) := hc _ (by rw [List.getElem?_map, htk]; rfl)
    by_cases ht : t = 1
    · subst ht
      obtain ⟨q, hq⟩ : ∃ q, jLast ts k0 = q := ⟨_, rfl⟩
      rw [hq] at HA hv' hJ
      obtain rfl : jJoinI ts q = v := by simpa using hv'
      have HJ := Lib.hid (refJoined_of (some ad) n c ts q (jJoinI ts q) hJ w hr hn)
      obtain ⟨r, hr'⟩ : ∃ r, jJoinI ts q = r := ⟨_, rfl⟩
      rw [hr'] at HJ ⊢
      clear hv hv' hJ htk hc hlen hq hr' hr
      go_enter Try.func22, Try.ntmps22
      go_wp2_with (first
        | (go_at_call 16; with_reducible refine HA.out.mono ?_; rintro e w1 ⟨rfl, rfl⟩)
        | (go_at_call 20; with_reducible refine HJ.out.mono ?_; rintro e w2 ⟨rfl, hb1⟩)
        | fail)
      go_ret
      exact ⟨rfl, hb1⟩
    · obtain rfl : v = false := by rw [← hv', decide_eq_false ht]; rfl
      have g1 : (t == 1) = false := by simp [ht]
      clear hv hv' hJ htk hc hlen HA ht hr
      go_enter Try.func22, Try.ntmps22
      go_wp2_with fail
      go_ret
      exact ⟨rfl, Below.refl _ _⟩
  · obtain rfl : v = false := by rw [← hv]; exact if_neg (by rw [hlen]; exact hi)
    have hi' : i < 0 ∨ (0 ≤ i ∧ (n : Int) ≤ i) := by omega
    clear hi hv hlen hr
    rcases hi' with h | ⟨h, h'⟩
    all_goals
      go_enter Try.func22, Try.ntmps22
      go_wp2_with fail
      go_ret
      exact ⟨rfl, Below.refl _ _⟩
end Go.Proofs.Ytcjcimdembkbkaa
/- join.Forms: what its closure keeps in memory, and one call of it. -/
namespace Go.Proofs.Ytcjcimdembkbkaa
open Go.RowKit

/-- What Forms keeps, from block s on: the types' box, the forms, their box, the place that waits, and whether the one ahead of it joins it. -/
structure JSt (w : World) (s : Nat) (A : Option Addr) (n c : Nat) (ts : List Int) (wv : Int) (av : Bool) (fs : List Int) : Prop where
  h0 : w.heap[s]? = some (.cells #[.slice A n c] 22 (0, 0))
  h1 : w.heap[s + 1]? = some (.cells (intsZ fs).toArray 3 (0, 0))
  h2 : w.heap[s + 2]? = some (.cells #[.slice (some ⟨s + 1, 0, none⟩) n n] 22 (0, 0))
  h3 : w.heap[s + 3]? = some (.cells #[.int .i64 wv] 3 (0, 0))
  h4 : w.heap[s + 4]? = some (.cells #[.bool av] 4 (0, 0))
  rd : Rd w 1 A n (ts.map (Value.int .i64))
  lo : 0 < n → ∀ ad, A = some ad → ad.block < s
  len : fs.length = n
section
variable {w : World} {s n c : Nat} {A : Option Addr} {ts fs : List Int} {wv : Int} {av : Bool}
theorem JSt.drew (h : JSt w s A n c ts wv av fs) : JSt w.drew s A n c ts wv av fs := ⟨h.h0, h.h1, h.h2, h.h3, h.h4, h.rd, h.lo, h.len⟩
theorem JSt.fill (h : JSt w s A n c ts wv av fs) (i : Nat) (x : Int) : JSt (w.setCell ⟨s + 1, i, none⟩ (.int .i64 x)) s A n c ts wv av (fs.set i x) :=
  ⟨(hp_far (by omega) _ _).trans h.h0, hp_row h.h1 i x, (hp_far (by omega) _ _).trans h.h2, (hp_far (by omega) _ _).trans h.h3, (hp_far (by omega) _ _).trans h.h4,
   h.rd.belowS h.lo ((Below.refl s w).setCell (p := ⟨s + 1, i, none⟩) (by simp) _), h.lo, by rw [List.length_set]; exact h.len⟩
theorem JSt.wait (h : JSt w s A n c ts wv av fs) (x : Int) : JSt (w.setCell ⟨s + 3, 0, none⟩ (.int .i64 x)) s A n c ts x av fs :=
  ⟨(hp_far (by omega) _ _).trans h.h0, (hp_far (by omega) _ _).trans h.h1, (hp_far (by omega) _ _).trans h.h2, heap_setCell_same w (s + 3) 0 _ _ _ h.h3, (hp_far (by omega) _ _).trans h.h4,
   h.rd.belowS h.lo ((Below.refl s w).setCell (p := ⟨s + 3, 0, none⟩) (by simp) _), h.lo, h.len⟩
theorem JSt.next (h : JSt w s A n c ts wv av fs) (x : Bool) : JSt (w.setCell ⟨s + 4, 0, none⟩ (.bool x)) s A n c ts wv x fs :=
  ⟨(hp_far (by omega) _ _).trans h.h0, (hp_far (by omega) _ _).trans h.h1, (hp_far (by omega) _ _).trans h.h2, (hp_far (by omega) _ _).trans h.h3, heap_setCell_same w (s + 4) 0 _ _ _ h.h4,
   h.rd.belowS h.lo ((Below.refl s w).setCell (p := ⟨s + 4, 0, none⟩) (by simp) _), h.lo, h.len⟩
end
set_option maxRecDepth 100000 in
set_option maxHeartbeats 2000000 in
theorem settle_any (s n c : Nat) (A : Option Addr) (ts fs fs' : List Int) (wv : Int) (av b : Bool) (hfs : jFill ts fs wv av b = fs') (w : World) (hS : JSt w s A n c ts wv av fs) (hwv : wv = -1 ∨ 0 ≤ wv ∧ wv < n) (hn : n ≤ 1000000) :
    Calls Try.prog 38 #[.bool b, .pointer (some ⟨s + 3, 0, none⟩), .pointer (some ⟨s, 0, none⟩), .pointer (some ⟨s + 4, 0, none⟩), .pointer (some ⟨s + 2, 0, none⟩)] w fun e w' => (∃ v, e = .returned v) ∧ JSt w' s A n c ts wv b fs' ∧ Below s w w' := by
  have c0 : w.cell? ⟨s, 0, none⟩ = some (.slice A n c) := hp_cell hS.h0 rfl
  have c2 : w.cell? ⟨s + 2, 0, none⟩ = some (.slice (some ⟨s + 1, 0, none⟩) n n) := hp_cell hS.h2 rfl
  have c3 : w.cell? ⟨s + 3, 0, none⟩ = some (.int .i64 wv) := hp_cell hS.h3 rfl
  have c4 : w.cell? ⟨s + 4, 0, none⟩ = some (.bool av) := hp_cell hS.h4 rfl
  have f4 := hp_froz hS.h4 0
  have hsz := hp_lt hS.h4
  have hlen : ts.length = n := by simpa using hS.rd.len1
  rcases hwv with rfl | ⟨h0, h1⟩
  · obtain rfl : fs = fs' := by rw [← hfs]; exact (if_neg (fun h => absurd h.1 (by decide))).symm
    have HN := Lib.hid (hS.next b)
    have HB := Lib.hid ((Below.refl s w).setCell (p := ⟨s + 4, 0, none⟩) (by simp) (.bool b))
    clear hS hfs hlen
    go_enter Try.func38, Try.ntmps38
    go_wp2_with fail
    go_end0
    exact ⟨⟨_, rfl⟩, HN.out, HB.out⟩
  · obtain ⟨k0, rfl⟩ : ∃ k0 : Nat, wv = k0 := ⟨wv.toNat, by omega⟩
    obtain ⟨t, htk⟩ : ∃ s, ts[k0]? = some s := ⟨_, List.getElem?_eq_getElem (by omega)⟩
    have hcell := hS.rd.at_ (show k0 < n by omega)
    obtain ⟨ad, rfl, hab, hc⟩ := hcell
    have cs : w.cell? (ad.add k0) = some (.int .i64 t) := hc _ (by rw [List.getElem?_map, htk]; rfl)
    have HF := Lib.hid (jnFormed_any t w)
    obtain ⟨fb, hfb⟩ : ∃ fb, formedB t = fb := ⟨_, rfl⟩
    rw [hfb] at HF
    cases fb with
    | false =>
      obtain rfl : fs = fs' := by
        rw [← hfs]
        refine (if_neg (fun h => ?_)).symm
        have h2 := h.2
        rw [Int.toNat_natCast] at h2
        simp [htk, hfb] at h2
      have HN := Lib.hid (hS.next b)
      have HB := Lib.hid ((Below.refl s w).setCell (p := ⟨s + 4, 0, none⟩) (by simp) (.bool b))
      clear hS hfs hlen hc htk hfb
      go_enter Try.func38, Try.ntmps38
      go_wp2_with (first
        | (go_at_call 39; with_reducible refine HF.out.mono ?_; rintro e w1 ⟨rfl, rfl⟩)
        | fail)
      go_end0
      exact ⟨⟨_, rfl⟩, HN.out, HB.out⟩
    | true =>
      obtain rfl : fs.set k0 (formK av b) = fs' := by
        rw [← hfs]
        unfold jFill
        rw [if_pos ⟨h0, by rw [Int.toNat_natCast]; simp [htk, hfb]⟩, Int.toNat_natCast]
      obtain ⟨fk, hfk⟩ : ∃ fk, formK av b = fk := ⟨_, rfl⟩
      have HK := Lib.hid (fun w => jnForm_any av b w)
      rw [hfk] at HK ⊢
      obtain ⟨x0, hx0⟩ : ∃ x, fs[k0]? = some x := ⟨_, List.getElem?_eq_getElem (by rw [hS.len]; omega)⟩
      have c1 : w.cell? ⟨s + 1, k0, none⟩ = some (.int .i64 x0) := hp_cell hS.h1 (by simp [intsZ, hx0])
      have f1 := hp_froz hS.h1 k0
      have h2 := (hS.fill k0 fk).drew
      have d4 : (w.setCell ⟨s + 1, k0, none⟩ (.int .i64 fk)).drew.cell? ⟨s + 4, 0, none⟩ = some (.bool av) := hp_cell h2.h4 rfl
      have g4 := hp_froz h2.h4 0
      have HN := Lib.hid (h2.next b)
      have HB := Lib.hid ((((Below.refl s w).setCell (p := ⟨s + 1, k0, none⟩) (by simp) (.int .i64 fk)).drew).setCell (p := ⟨s + 4, 0, none⟩) (by simp) (.bool b))
      clear hS hfs hlen hc htk hfb hx0 hfk h2
      go_enter Try.func38, Try.ntmps38
      go_wp2_with (first
        | (go_at_call 39; with_reducible refine HF.out.mono ?_; rintro e w1 ⟨rfl, rfl⟩)
        | fail)
      go_region_with (go_at_call 40; refine (HK.out _).mono ?_; rintro e w' ⟨rfl, rfl⟩)
      all_goals
        go_wp2
        go_end0
        exact ⟨⟨_, rfl⟩, HN.out, HB.out⟩
end Go.Proofs.Ytcjcimdembkbkaa
/- join.Forms: the forms of all places. -/
namespace Go.Proofs.Ytcjcimdembkbkaa
open Go.RowKit

theorem mk_intsZ (n : Nat) (hn : n ≤ 100000000) (w : World) : (Instr.makeSlice 22 (.int .i64 (n : Int)) (.int .i64 (n : Int))).run Try.prog w = .ok (.slice (some ⟨w.heap.size, 0, none⟩) n n) (w.alloc (.cells (intsZ (List.replicate n 0)).toArray 3)) := by
  have hin : (Try.prog.info? 3).map (fun i => (i.zero, i.size, i.bytes)) = some (some (.int .i64 0), 1, 8) := by kernel_rfl
  obtain ⟨i, h1, h2, h3, h4⟩ := info_parts hin
  have h := run_make (P := Try.prog) w 22 3 i (.int .i64 0) Try.underlying22 h1 h2 .i64 .i64 n n (by omega) (Int.le_refl _) (by rw [h4]; omega) (by omega)
  rw [h3] at h
  simp only [Int.toNat_natCast, Nat.mul_one] at h
  rw [h]
  refine congrArg (fun c => Result.ok _ (w.alloc (.cells c _))) ?_
  apply Array.toList_inj.1
  rw [show (Value.int .i64 0).cells = #[.int .i64 0] from rfl, toList_madeCells_one]
  simp [intsZ]
theorem forms_start (A : Option Addr) (n c : Nat) (ts : List Int) (w : World) (hr : Rd w 1 A n (ts.map (Value.int .i64))) (hlo : 0 < n → ∀ ad, A = some ad → ad.block < w.heap.size) :
    JSt (((((w.alloc (.cells #[.slice A n c] 22)).alloc (.cells (intsZ (List.replicate n 0)).toArray 3)).alloc (.cells #[.slice (some ⟨w.heap.size + 1, 0, none⟩) n n] 22)).alloc (.cells #[.int .i64 (-1)] 3)).alloc (.cells #[.bool false] 4)) w.heap.size A n c ts (-1) false (List.replicate n 0) ∧
    Below w.heap.size w (((((w.alloc (.cells #[.slice A n c] 22)).alloc (.cells (intsZ (List.replicate n 0)).toArray 3)).alloc (.cells #[.slice (some ⟨w.heap.size + 1, 0, none⟩) n n] 22)).alloc (.cells #[.int .i64 (-1)] 3)).alloc (.cells #[.bool false] 4)) := by
  have hk : Below w.heap.size w (((((w.alloc (.cells #[.slice A n c] 22)).alloc (.cells (intsZ (List.replicate n 0)).toArray 3)).alloc (.cells #[.slice (some ⟨w.heap.size + 1, 0, none⟩) n n] 22)).alloc (.cells #[.int .i64 (-1)] 3)).alloc (.cells #[.bool false] 4)) :=
    (((((Below.refl _ _).alloc (Nat.le_refl _) _).alloc (by simp) _).alloc (by simp; omega) _).alloc (by simp; omega) _).alloc (by simp; omega) _
  generalize hA : w.alloc (.cells #[.slice A n c] 22) = wa at *
  generalize hB : wa.alloc (.cells (intsZ (List.replicate n 0)).toArray 3) = wb at *
  generalize hC : wb.alloc (.cells #[.slice (some ⟨w.heap.size + 1, 0, none⟩) n n] 22) = wc at *
  generalize hD : wc.alloc (.cells #[.int .i64 (-1)] 3) = wd at *
  generalize hE : wd.alloc (.cells #[.bool false] 4) = we at *
  have sa : wa.heap.size = w.heap.size + 1 := by rw [← hA, World.size_alloc]
  have sb : wb.heap.size = w.heap.size + 2 := by rw [← hB, World.size_alloc, sa]
  have sc : wc.heap.size = w.heap.size + 3 := by rw [← hC, World.size_alloc, sb]
  have sd : wd.heap.size = w.heap.size + 4 := by rw [← hD, World.size_alloc, sc]
  have oa : ∀ {k o}, k < wa.heap.size → wa.heap[k]? = some o → wb.heap[k]? = some o := fun hk h => by rw [← hB, heap_alloc_old (h := hk)]; exact h
  have ob : ∀ {k o}, k < wb.heap.size → wb.heap[k]? = some o → wc.heap[k]? = some o := fun hk h => by rw [← hC, heap_alloc_old (h := hk)]; exact h
  have oc : ∀ {k o}, k < wc.heap.size → wc.heap[k]? = some o → wd.heap[k]? = some o := fun hk h => by rw [← hD, heap_alloc_old (h := hk)]; exact h
  have od : ∀ {k o}, k < wd.heap.size → wd.heap[k]? = some o → we.heap[k]? = some o := fun hk h => by rw [← hE, heap_alloc_old (h := hk)]; exact h
  refine ⟨⟨?_, ?_, ?_, ?_, ?_, hr.below hk, hlo, by simp⟩, hk⟩
  · refine od (by omega) (oc (by omega) (ob (by omega) (oa (by omega) ?_)))
    rw [← hA]; exact heap_alloc_new _ _
  · refine od (by omega) (oc (by omega) (ob (by omega) ?_))
    rw [← sa, ← hB]; exact heap_alloc_new _ _
  · refine od (by omega) (oc (by omega) ?_)
    rw [← sb, ← hC]; exact heap_alloc_new _ _
  · refine od (by omega) ?_
    rw [← sc, ← hD]; exact heap_alloc_new _ _
  · rw [← sd, ← hE]; exact heap_alloc_new _ _
set_option maxRecDepth 100000 in
set_option maxHeartbeats 4000000 in
theorem jnForms_any (A : Option Addr) (n c : Nat) (ts : List Int) (w : World) (hr : Rd w 1 A n (ts.map (Value.int .i64))) (hn : n ≤ 1000000) :
    Calls Try.prog 13 #[.slice A n c] w fun e w' => (∃ g, w.heap.size ≤ g ∧ e = .returned (.slice (some ⟨g, 0, none⟩) n n) ∧ w'.heap[g]? = some (.cells (intsZ (jForms ts)).toArray 3 (0, 0))) ∧ Below w.heap.size w w' := by
  have hlen : ts.length = n := by simpa using hr.len1
  have hlo : 0 < n → ∀ ad, A = some ad → ad.block < w.heap.size := fun hp ad e => by
    obtain ⟨ad', e', hb, _⟩ := hr.2 hp
    rw [e] at e'
    cases e'
    exact hb
  have hmk := mk_intsZ n (by omega)
  obtain ⟨hS0, hB0⟩ := forms_start A n c ts w hr hlo
  have HS0 := Lib.hid hS0
  have HB0 := Lib.hid hB0
  have HL := Lib.hid hlen
  clear hr hlen hlo hS0 hB0
  go_enter Try.func13, Try.ntmps13
  go_wp2_with fail
  simp only [Nat.add_assoc, Nat.reduceAdd]
  have hS := HS0.out
  have hB := HB0.out
  clear HS0 HB0 hmk
  generalize (((((w.alloc (.cells #[.slice A n c] 22)).alloc (.cells (intsZ (List.replicate n 0)).toArray 3)).alloc (.cells #[.slice (some ⟨w.heap.size + 1, 0, none⟩) n n] 22)).alloc (.cells #[.int .i64 (-1)] 3)).alloc (.cells #[.bool false] 4)) = w5 at *
  obtain ⟨s, hs⟩ : ∃ s, w.heap.size = s := ⟨_, rfl⟩
  rw [hs] at hS hB
  simp only [hs]
  have HB := Lib.hid hB
  have HS := Lib.hid hS
  clear hB hS
  go_loopw [15] (fun i wr => ∃ k : Nat, k ≤ n ∧ i = .int .i64 k ∧ JSt wr s A n c ts (jLast ts k) (jAh ts (jLast ts k)) (jPart ts (jLast ts k)) ∧ Below s w wr) (fun i _ => n - (intOf i).toNat)
  case atStart =>
    refine ⟨0, Nat.zero_le _, rfl, ?_, HB.out⟩
    rw [show jLast ts 0 = -1 from rfl, jPart_start, HL.out]
    exact HS.out
  case round =>
    obtain ⟨k, hk, rfl, hJ, hb⟩ := hrel
    by_cases hlt : k < n
    · obtain ⟨t, htk⟩ : ∃ t, ts[k]? = some t := ⟨_, List.getElem?_eq_getElem (by rw [HL.out]; exact hlt)⟩
      obtain ⟨ad, rfl, _, hc⟩ := hJ.rd.at_ hlt
      have cs : wr.cell? (ad.add k) = some (.int .i64 t) := hc _ (by rw [List.getElem?_map, htk]; rfl)
      by_cases ht : t = 1
      · subst ht
        have HX := Lib.hid (show JSt wr s (some ad) n c ts (jLast ts (k + 1)) (jAh ts (jLast ts (k + 1))) (jPart ts (jLast ts (k + 1))) by rw [jLast_skip htk]; exact hJ)
        have HB1 := Lib.hid hb
        clear hJ hb hc htk
        go_wp2_with fail
        go_roundw
        case rel => exact ⟨k + 1, by omega, by go_num, HX.out, HB1.out⟩
        case measure => simp [intOf]; omega
      · have hjn := jJoinI_next htk ht
        have hst := jFill_step (ts := ts) (k := k) (by rw [HL.out]; omega)
        obtain ⟨b, hbv⟩ : ∃ b, jJoinI ts (jLast ts k) = b := ⟨_, rfl⟩
        rw [hbv] at hjn hst
        have hlk := jLast_lt ts k
        have hlk1 := jLast_hit htk ht
        obtain ⟨wv, hwv⟩ : ∃ wv, jLast ts k = wv := ⟨_, rfl⟩
        rw [hwv] at hjn hst hJ hlk hbv
        have c3 : wr.cell? ⟨s + 3, 0, none⟩ = some (.int .i64 wv) := hp_cell hJ.h3 rfl
        have c0 : wr.cell? ⟨s, 0, none⟩ = some (.slice (some ad) n c) := hp_cell hJ.h0 rfl
        have g1 : (t == 1) = false := by simp [ht]
        have HSE := Lib.hid (settle_any s n c (some ad) ts _ _ wv _ b hst wr hJ (by omega) hn)
        have HAH := Lib.hid (show jAh ts (jLast ts (k + 1)) = b by rw [hlk1, jAh_next, hwv, hbv])
        have HLK := Lib.hid hlk1
        have HB1 := Lib.hid hb
        have HM := Lib.hid (fun w => jnMeets_any t w)
        obtain ⟨m, hm⟩ : ∃ m, meetB t = m := ⟨_, rfl⟩
        rw [hm] at HM hjn
        have hrd := hJ.rd
        clear hJ hb hc hst hlk1 hwv hbv hm ht
        by_cases h1 : wv = -1
        · subst h1
          obtain rfl : b = false := by rw [hjn]; rfl
          clear hjn hlk
          go_wp2_with (first
            | (go_at_call 38; with_reducible refine HSE.out.mono ?_; rintro e w7 ⟨⟨vv, rfl⟩, hJ7, hb7⟩; have c7 : w7.cell? ⟨s + 3, 0, none⟩ = some (.int .i64 (-1)) := hp_cell hJ7.h3 rfl; have f7 := hp_froz hJ7.h3 0)
            | fail)
          refine ⟨⟨k + 1, by omega, by go_num, ?_, HB1.out.trans (hb7.setCell (p := ⟨s + 3, 0, none⟩) (by simp) _)⟩, by simp [intOf]; omega⟩
          rw [HAH.out, HLK.out]
          exact hJ7.wait _
        · obtain ⟨n0, rfl⟩ : ∃ n0 : Nat, wv = n0 := ⟨wv.toNat, by omega⟩
          obtain ⟨u, huk⟩ : ∃ u, ts[n0]? = some u := ⟨_, List.getElem?_eq_getElem (by rw [HL.out]; omega)⟩
          have cu : wr.cell? (ad.add n0) = some (.int .i64 u) := hrd.news n0 _ (by rw [List.getElem?_map, huk]; rfl)
          have hn0 : n0 < n := by omega
          have gn : ((n0 : Int) != -1) = true := by simp only [bne_iff_ne]; omega
          have HRE := Lib.hid (fun w => jnReaches_any u w)
          obtain ⟨r, hre⟩ : ∃ r, reachB u = r := ⟨_, rfl⟩
          rw [hre] at HRE
          have hb' : b = (r && m) := by
            rw [hjn, decide_eq_true h1, Bool.true_and, Int.toNat_natCast, List.getD_eq_getElem?_getD, huk, Option.getD_some, hre]
          clear hjn hlk huk hre h1
          cases r with
          | false =>
            obtain rfl : b = false := by rw [hb']; rfl
            clear hb'
            go_wp2_with (first
              | (go_at_call 41; with_reducible refine (HRE.out _).mono ?_; rintro e w7 ⟨rfl, rfl⟩)
              | (go_at_call 38; with_reducible refine HSE.out.mono ?_; rintro e w7 ⟨⟨vv, rfl⟩, hJ7, hb7⟩; have c7 : w7.cell? ⟨s + 3, 0, none⟩ = some (.int .i64 (n0 : Int)) := hp_cell hJ7.h3 rfl; have f7 := hp_froz hJ7.h3 0)
              | fail)
            refine ⟨⟨k + 1, by omega, by go_num, ?_, HB1.out.trans (hb7.setCell (p := ⟨s + 3, 0, none⟩) (by simp) _)⟩, by simp [intOf]; omega⟩
            rw [HAH.out, HLK.out]
            exact hJ7.wait _
          | true =>
            obtain rfl : b = m := by rw [hb']; rfl
            clear hb'
            go_wp2_with (first
              | (go_at_call 41; with_reducible refine (HRE.out _).mono ?_; rintro e w7 ⟨rfl, rfl⟩)
              | (go_at_call 42; with_reducible refine (HM.out _).mono ?_; rintro e w7 ⟨rfl, rfl⟩)
              | (go_at_call 38; with_reducible refine HSE.out.mono ?_; rintro e w7 ⟨⟨vv, rfl⟩, hJ7, hb7⟩; have c7 : w7.cell? ⟨s + 3, 0, none⟩ = some (.int .i64 (n0 : Int)) := hp_cell hJ7.h3 rfl; have f7 := hp_froz hJ7.h3 0)
              | fail)
            refine ⟨⟨k + 1, by omega, by go_num, ?_, HB1.out.trans (hb7.setCell (p := ⟨s + 3, 0, none⟩) (by simp) _)⟩, by simp [intOf]; omega⟩
            rw [HAH.out, HLK.out]
            exact hJ7.wait _
    · obtain rfl : k = n := by omega
      have hst := jFill_step (ts := ts) (k := k) (by rw [HL.out]; omega)
      have hend := jJoinI_end ts
      rw [HL.out] at hend
      rw [hend, ← HL.out, jPart_all, HL.out] at hst
      have hlk := jLast_lt ts k
      have HSE := Lib.hid (settle_any s k c A ts _ _ (jLast ts k) _ false hst wr hJ (by omega) hn)
      have HB1 := Lib.hid hb
      have hsz := Nat.le_trans (Nat.le_of_eq hs.symm) (Nat.le_refl _)
      clear hJ hb hst hend hlk
      go_wp2_with (first
        | (go_at_call 38; with_reducible refine HSE.out.mono ?_; rintro e w7 ⟨⟨vv, rfl⟩, hJ7, hb7⟩; have c7 : w7.cell? ⟨s + 2, 0, none⟩ = some (.slice (some ⟨s + 1, 0, none⟩) k k) := hp_cell hJ7.h2 rfl)
        | fail)
      go_ret
      refine ⟨⟨s + 1, by omega, rfl, hJ7.h1⟩, ?_⟩
      rw [hs]
      exact HB1.out.trans hb7
end Go.Proofs.Ytcjcimdembkbkaa
