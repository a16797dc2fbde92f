/- join's has, reaches, meets, formed, form, Behind; the reference's Ahead, Behind, Joined. -/
import Derived.Test.YtcjcimdembkbkaaMem2
import Derived.Test.YtcjcimdembkbkaaJnD
namespace Go.Proofs.Ytcjcimdembkbkaa
open Go.RowKit

theorem jnHas_of (A : Option Addr) (n c : Nat) (i : Int) (v : Bool) (hv : decide (0 ≤ i ∧ i < n) = v) (w : World) : Calls Try.prog 43 #[.slice A n c, .int .i64 i] w fun e w' => e = .returned (.bool v) ∧ w = w' := by
  by_cases h0 : 0 ≤ i
  · by_cases h1 : i < n
    · obtain rfl : v = true := hv.symm.trans (decide_eq_true ⟨h0, h1⟩)
      clear hv
      go_enter Try.func43, Try.ntmps43
      go_wp2
      go_ret
      exact ⟨rfl, rfl⟩
    · obtain rfl : v = false := hv.symm.trans (decide_eq_false (fun h => h1 h.2))
      clear hv
      go_enter Try.func43, Try.ntmps43
      go_wp2
      go_ret
      exact ⟨rfl, rfl⟩
  · obtain rfl : v = false := hv.symm.trans (decide_eq_false (fun h => h0 h.1))
    clear hv
    go_enter Try.func43, Try.ntmps43
    go_wp2
    go_ret
    exact ⟨rfl, rfl⟩
theorem jnHas_any (A : Option Addr) (n c : Nat) (i : Int) (w : World) : Calls Try.prog 43 #[.slice A n c, .int .i64 i] w fun e w' => e = .returned (.bool (decide (0 ≤ i ∧ i < n))) ∧ w = w' := jnHas_of A n c i _ rfl w
theorem jnReaches_any (t : Int) (w : World) : Calls Try.prog 41 #[.int .i64 t] w fun e w' => e = .returned (.bool (reachB t)) ∧ w = w' := by
  by_cases h3 : t = 3
  · subst h3
    go_enter Try.func41, Try.ntmps41
    go_wp2
    go_ret
    exact ⟨rfl, rfl⟩
  · by_cases h4 : t = 4
    · subst h4
      go_enter Try.func41, Try.ntmps41
      go_wp2
      go_ret
      exact ⟨rfl, rfl⟩
    · obtain ⟨v, hv⟩ : ∃ v, reachB t = v := ⟨_, rfl⟩
      have HV := Lib.hid (show (t == 5) = v by rw [← hv]; unfold reachB; simp [h3, h4])
      rw [hv]
      clear hv
      have g3 : (t == 3) = false := by simp [h3]
      have g4 : (t == 4) = false := by simp [h4]
      clear h3 h4
      go_enter Try.func41, Try.ntmps41
      go_wp2
      go_ret
      exact ⟨by rw [← HV.out]; rfl, rfl⟩
theorem jnMeets_any (t : Int) (w : World) : Calls Try.prog 42 #[.int .i64 t] w fun e w' => e = .returned (.bool (meetB t)) ∧ w = w' := by
  by_cases h3 : t = 3
  · subst h3
    go_enter Try.func42, Try.ntmps42
    go_wp2
    go_ret
    exact ⟨rfl, rfl⟩
  · by_cases h4 : t = 2
    · subst h4
      go_enter Try.func42, Try.ntmps42
      go_wp2
      go_ret
      exact ⟨rfl, rfl⟩
    · obtain ⟨v, hv⟩ : ∃ v, meetB t = v := ⟨_, rfl⟩
      have HV := Lib.hid (show (t == 5) = v by rw [← hv]; unfold meetB; simp [h3, h4])
      rw [hv]
      clear hv
      have g3 : (t == 3) = false := by simp [h3]
      have g4 : (t == 2) = false := by simp [h4]
      clear h3 h4
      go_enter Try.func42, Try.ntmps42
      go_wp2
      go_ret
      exact ⟨by rw [← HV.out]; rfl, rfl⟩
theorem jnFormed_any (t : Int) (w : World) : Calls Try.prog 39 #[.int .i64 t] w fun e w' => e = .returned (.bool (formedB t)) ∧ w = w' := by
  by_cases h3 : t = 3
  · subst h3
    go_enter Try.func39, Try.ntmps39
    go_wp2
    go_ret
    exact ⟨rfl, rfl⟩
  · by_cases h4 : t = 2
    · subst h4
      go_enter Try.func39, Try.ntmps39
      go_wp2
      go_ret
      exact ⟨rfl, rfl⟩
    · obtain ⟨v, hv⟩ : ∃ v, formedB t = v := ⟨_, rfl⟩
      have HV := Lib.hid (show (t == 4) = v by rw [← hv]; unfold formedB; simp [h3, h4])
      rw [hv]
      clear hv
      have g3 : (t == 3) = false := by simp [h3]
      have g4 : (t == 2) = false := by simp [h4]
      clear h3 h4
      go_enter Try.func39, Try.ntmps39
      go_wp2
      go_ret
      exact ⟨by rw [← HV.out]; rfl, rfl⟩
theorem jnForm_any (a b : Bool) (w : World) : Calls Try.prog 40 #[.bool a, .bool b] w fun e w' => e = .returned (.int .i64 (formK a b)) ∧ w = w' := by
  cases a <;> cases b
  all_goals
    go_enter Try.func40, Try.ntmps40
    go_wp2
    go_ret
    exact ⟨rfl, rfl⟩
set_option maxRecDepth 100000 in
theorem jnBehind_any (A : Option Addr) (n c : Nat) (ts : List Int) (i : Int) (w : World) (hr : Rd w 1 A n (ts.map (Value.int .i64))) (hn : n ≤ 1000000) :
    Calls Try.prog 17 #[.slice A n c, .int .i64 i] w fun e w' => e = .returned (.int .i64 (jBehind ts i)) ∧ w = w' := by
  have hlen : ts.length = n := by simpa using hr.len1
  by_cases hi : 0 ≤ i ∧ i < n
  · obtain ⟨h0, h1⟩ := hi
    obtain ⟨k0, rfl⟩ : ∃ k0 : Nat, i = k0 := ⟨i.toNat, by omega⟩
    have hd : decide (0 ≤ (k0 : Int) ∧ (k0 : Int) < n) = true := decide_eq_true ⟨h0, h1⟩
    have HC := Lib.hid (jnHas_any A n c k0 w)
    rw [hd] at HC
    obtain ⟨v, hv⟩ : ∃ v, jBehind ts k0 = v := ⟨_, rfl⟩
    have HV := Lib.hid (show jFirst ts (k0 + 1) = v by rw [← hv]; unfold jBehind; rw [if_pos ⟨h0, by omega⟩, Int.toNat_natCast])
    rw [hv]
    have HL := Lib.hid hlen
    clear hlen hd hv
    go_enter Try.func17, Try.ntmps17
    go_wp2_with fail
    refine HC.out.mono ?_
    rintro e w1 ⟨rfl, rfl⟩
    go_wp2
    go_loop [5] (fun p => ∃ k : Nat, k ≤ n ∧ p = .int .i64 k ∧ jFirst ts k = v) (fun p => n - (intOf p).toNat)
    case atStart => exact ⟨k0 + 1, by omega, by go_num, HV.out⟩
    case round =>
      obtain ⟨k, hk, rfl, hno⟩ := hrel
      have HN := Lib.hid hno
      clear hno
      by_cases hlt : k < n
      · obtain ⟨s, hsk⟩ : ∃ s, ts[k]? = some s := ⟨_, List.getElem?_eq_getElem (by rw [HL.out]; exact hlt)⟩
        obtain ⟨ad, rfl, _, hc⟩ := hr.at_ hlt
        have cs : w.cell? (ad.add k) = some (.int .i64 s) := hc _ (by rw [List.getElem?_map, hsk]; rfl)
        have HS := Lib.hid hsk
        clear hsk hc
        by_cases he : s = 1
        · subst he
          have HX := Lib.hid ((jFirst_skip HS.out).symm.trans HN.out)
          go_wp2
          go_round
          case rel => exact ⟨k + 1, by omega, by go_num, HX.out⟩
          case measure => simp [intOf]; omega
        · have HX := Lib.hid ((jFirst_hit HS.out he).symm.trans HN.out)
          have g1 : (s != 1) = true := by simp [he]
          clear he
          go_wp2
          go_ret
          exact ⟨retI HX.out, rfl⟩
      · have HF := Lib.hid ((jFirst_end (show ts.length ≤ k by rw [HL.out]; omega)).symm.trans HN.out)
        go_wp2
        go_ret
        exact ⟨retI HF.out, rfl⟩
  · have HC := Lib.hid (jnHas_any A n c i w)
    rw [decide_eq_false hi] at HC
    have HV := Lib.hid (show (-1 : Int) = jBehind ts i from (if_neg (by rw [hlen]; exact hi)).symm)
    clear hi
    go_enter Try.func17, Try.ntmps17
    go_wp2_with fail
    refine HC.out.mono ?_
    rintro e w1 ⟨rfl, rfl⟩
    go_wp2
    go_ret
    exact ⟨retI HV.out, rfl⟩
end Go.Proofs.Ytcjcimdembkbkaa
