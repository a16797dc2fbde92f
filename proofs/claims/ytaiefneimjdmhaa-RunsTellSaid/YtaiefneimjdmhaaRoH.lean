/- naskhref30's held and least, walked. -/
import Derived.Test.YtaiefneimjdmhaaRgD
import Derived.Test.YtaiefneimjdmhaaOrD
import Derived.Test.YtaiefneimjdmhaaMem3
import Derived.BigQuiet
import Derived.Test.YtaiefneimjdmhaaLoD
namespace Go.Proofs.Ytaiefneimjdmhaa
open Go.RowKit
set_option maxRecDepth 100000 in
theorem roHeldOne_any (x y : Int) (hy : heldF x = y) (w : World) : Calls Try.prog 43 #[.int .i64 x] w fun e w' => e = .returned (.int .i64 y) ∧ w = w' := by
  unfold heldF at hy
  by_cases h0 : x < 0
  · obtain rfl : 0 = y := by omega
    clear hy
    go_enter Try.func43, Try.ntmps43
    go_wp2
    go_ret
    exact ⟨rfl, rfl⟩
  · by_cases h1 : 126 < x
    · obtain rfl : 126 = y := by omega
      clear hy
      go_enter Try.func43, Try.ntmps43
      go_wp2
      go_ret
      exact ⟨rfl, rfl⟩
    · obtain rfl : x = y := by omega
      clear hy
      go_enter Try.func43, Try.ntmps43
      go_wp2
      go_ret
      exact ⟨rfl, rfl⟩
set_option maxRecDepth 100000 in
set_option maxHeartbeats 2000000 in
theorem roLeast_any (A : Option Addr) (n c : Nat) (l : List Rg) (w : World) (hr : Rd w 3 A n (cellsG l)) (hn : n ≤ 100000) :
    Calls Try.prog 42 #[.slice A n c] w fun e w' => e = .returned (.int .i64 (lowF l)) ∧ ∃ q, w' = w.drewN q := by
  have hl := hr.lenG
  have HL := Lib.hid hl
  have HR := Lib.hid hr
  clear hl hr
  go_enter Try.func42, Try.ntmps42
  go_wp2
  go_loopw [3, 4] (fun t j wr => ∃ (i q : Nat) (m : Int), i ≤ n ∧ j = .int .i64 (i : Int) ∧ t = .int .i64 m ∧ lowF (l.take i) = m ∧ 0 ≤ m ∧ m ≤ 126 ∧ wr = w.drewN q) (fun _ j _ => n - (intOf j).toNat)
  case atStart => exact ⟨0, 0, 0, Nat.zero_le _, rfl, rfl, rfl, by decide, by decide, rfl⟩
  case round =>
    obtain ⟨i, q, m, hi, rfl, rfl, hm, hm0, hm1, rfl⟩ := hrel
    have HM := Lib.hid hm
    clear hm
    by_cases hlt : i < n
    · obtain ⟨r, hrr⟩ : ∃ r, l[i]? = some r := ⟨_, List.getElem?_eq_getElem (by rw [HL.out]; exact hlt)⟩
      obtain ⟨lo, hh, lev⟩ := r
      obtain ⟨ad, rfl, hab, c0, c1, c2⟩ := HR.out.rg hrr
      simp only at c0 c1 c2
      have HN := Lib.hid (low_next hrr)
      rw [HM.out] at HN
      simp only at HN
      obtain ⟨x, hx⟩ : ∃ x, heldF lev = x := ⟨_, rfl⟩
      have hx0 : 0 ≤ x ∧ x ≤ 126 := by rw [← hx]; unfold heldF; omega
      rw [hx] at HN
      have HH := Lib.hid (fun W => roHeldOne_any lev x hx W)
      have hin : (i : Int) < (n : Int) := by omega
      have hi0 : (0 : Int) ≤ (i : Int) := by omega
      have hi5 : (i : Int) ≤ 100000 := by omega
      have htm : Int.tmod x 2 = x % 2 := Int.tmod_eq_emod_of_nonneg hx0.1
      have hls := lowS_in ⟨hm0, hm1⟩ hx0
      clear hrr c0 c1 hx
      by_cases h1 : x % 2 = 1
      · rw [h1] at htm
        by_cases h2 : m = 0
        · subst h2
          have hS : lowS 0 x = x := by unfold lowS; rw [if_pos ⟨h1, .inl rfl⟩]
          rw [hS] at HN hls
          clear h1 hS
          go_wp2_with (first
            | (go_at_call 43; refine (HH.out _).mono ?_; rintro e w2 ⟨rfl, rfl⟩)
            | fail)
          go_roundw
          case rel => exact ⟨i + 1, q, x, by omega, by go_num, rfl, HN.out, hls.1, hls.2, rfl⟩
          case measure => simp [intOf]; omega
        · have g2 : (m == 0) = false := by simp [h2]
          by_cases h3 : x < m
          · have d3 : decide (x < m) = true := decide_eq_true h3
            have hS : lowS m x = x := by unfold lowS; rw [if_pos ⟨h1, .inr h3⟩]
            rw [hS] at HN hls
            clear h1 h2 h3 hS
            go_wp2_with (first
              | (go_at_call 43; refine (HH.out _).mono ?_; rintro e w2 ⟨rfl, rfl⟩)
              | fail)
            go_roundw
            case rel => exact ⟨i + 1, q, x, by omega, by go_num, rfl, HN.out, hls.1, hls.2, rfl⟩
            case measure => simp [intOf]; omega
          · have d3 : decide (x < m) = false := decide_eq_false h3
            have hS : lowS m x = m := by unfold lowS; rw [if_neg (by omega)]
            rw [hS] at HN hls
            clear h1 h2 h3 hS
            go_wp2_with (first
              | (go_at_call 43; refine (HH.out _).mono ?_; rintro e w2 ⟨rfl, rfl⟩)
              | fail)
            go_roundw
            case rel => exact ⟨i + 1, q, m, by omega, by go_num, rfl, HN.out, hls.1, hls.2, rfl⟩
            case measure => simp [intOf]; omega
      · have h10 : x % 2 = 0 := by omega
        rw [h10] at htm
        have hS : lowS m x = m := by unfold lowS; rw [if_neg (by omega)]
        rw [hS] at HN hls
        clear h1 h10 hS
        go_wp2_with (first
          | (go_at_call 43; refine (HH.out _).mono ?_; rintro e w2 ⟨rfl, rfl⟩)
          | fail)
        go_roundw
        case rel => exact ⟨i + 1, q, m, by omega, by go_num, rfl, HN.out, hls.1, hls.2, rfl⟩
        case measure => simp [intOf]; omega
    · obtain rfl : i = n := by omega
      have HZ := Lib.hid (show lowF l = m by rw [← HM.out, List.take_of_length_le (by rw [HL.out]; exact Nat.le_refl _)])
      go_wp2
      go_ret
      exact ⟨by rw [HZ.out]; rfl, q, rfl⟩
end Go.Proofs.Ytaiefneimjdmhaa
