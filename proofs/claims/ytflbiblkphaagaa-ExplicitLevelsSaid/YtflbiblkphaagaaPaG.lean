/- para's First, walked. -/
import Derived.Test.YtflbiblkphaagaaPaF
namespace Go.Proofs.Ytflbiblkphaagaa
open Go.RowKit

set_option maxRecDepth 100000 in
set_option maxHeartbeats 2000000 in
theorem prFirst_any (A : Option Addr) (n c : Nat) (xs : List Int) (lo hi : Int) (w : World) (hr : Rd w 1 A n (xs.map (Value.int .i64))) (hn : n ≤ 1000000) (hnc : n ≤ c) (hl : Fit lo) (hh : Fit hi) :
    Calls Try.prog 59 #[.slice A n c, .agg #[.int .i64 lo, .int .i64 hi]] w fun e w' => e = .returned (.int .i64 (firstF xs (lo, hi))) ∧ Below w.heap.size w w' := by
  have hlen : xs.length = n := by simpa using hr.len1
  have hbn := below_new w (.cells #[.int .i64 lo, .int .i64 hi] 78)
  have s1 := SpanBlk.new_ w lo hi 78
  obtain ⟨c0, c1, _, _⟩ := s1
  simp only at c0 c1
  have HH := Lib.hid (prHeld_any A n c xs lo hi _ (hr.below hbn) hn hnc hl hh)
  have hsl : (spanOf xs (lo, hi)).length ≤ n := by
    rw [spanOf_eq, List.length_take, List.length_drop, hlen]
    have := hi_le (lo, hi) n
    omega
  obtain ⟨ys, hys⟩ : ∃ ys, spanOf xs (lo, hi) = ys := ⟨_, rfl⟩
  have HF := Lib.hid (show firstF xs (lo, hi) = fstF ys 0 by unfold firstF; rw [hys])
  rw [hys] at HH hsl
  clear hys hr hlen
  go_enter Try.func59, Try.ntmps59
  go_wp2_with fail
  refine HH.out.mono ?_
  rintro e w1 ⟨B, m, k, rfl, hrd, hb1⟩
  have hym : ys.length = m := by simpa using hrd.len1
  have HYM := Lib.hid hym
  have HRD := Lib.hid hrd
  have hb1' := below_self hbn hb1
  have HB := Lib.hid hb1'
  rw [hym] at hsl
  clear hym hrd hb1 hb1' hbn c0 c1
  go_wp2_with fail
  go_loopw [5, 12] (fun d i wr => ∃ (j e : Nat), j ≤ m ∧ e ≤ j ∧ i = .int .i64 (j : Int) ∧ d = .int .i64 (e : Int) ∧ wr = w1 ∧ fstF ys 0 = fstF (ys.drop j) e) (fun _ i _ => m - (intOf i).toNat)
  case atStart => exact ⟨0, 0, Nat.zero_le _, Nat.le_refl _, rfl, rfl, rfl, rfl⟩
  case round =>
    obtain ⟨j, d, hj, hdj, rfl, rfl, rfl, hfs⟩ := hrel
    by_cases hlt : j < m
    · obtain ⟨x, hx⟩ : ∃ x, ys[j]? = some x := ⟨_, List.getElem?_eq_getElem (by rw [HYM.out]; exact hlt)⟩
      obtain ⟨ad, rfl, hab, hcell⟩ := HRD.out.at_ hlt
      have cx : wr.cell? (ad.add j) = some (.int .i64 x) := hcell _ (by rw [List.getElem?_map, hx]; rfl)
      rw [dropCons hx, fstF] at hfs
      obtain ⟨o, ho⟩ : ∃ o, opB x = o := ⟨_, rfl⟩
      have HI := Lib.hid (fun W => prIso_of x o ho W)
      rw [ho] at hfs
      clear hcell hx ho
      cases o with
      | true =>
        rw [if_pos rfl] at hfs
        have HS := Lib.hid hfs
        clear hfs
        go_wp2_with (first
          | (go_at_call 52; with_reducible refine (HI.out _).mono ?_; rintro e w2 ⟨rfl, rfl⟩)
          | fail)
        go_roundw
        case rel => exact ⟨j + 1, d + 1, by omega, by omega, by go_num, by go_num, trivial, HS.out⟩
        case measure => simp [intOf]; omega
      | false =>
        rw [if_neg (by decide)] at hfs
        by_cases h22 : x = 22
        · subst h22
          rw [if_pos rfl] at hfs
          have HS := Lib.hid hfs
          clear hfs
          rcases Nat.eq_zero_or_pos d with rfl | hd
          · have hm : ((0 : Nat) : Int) - 1 < 0 := by omega
            go_wp2_with (first
              | (go_at_call 52; with_reducible refine (HI.out _).mono ?_; rintro e w2 ⟨rfl, rfl⟩)
              | fail)
            go_roundw
            case rel => exact ⟨j + 1, 0, by omega, by omega, by go_num, rfl, trivial, HS.out⟩
            case measure => simp [intOf]; omega
          · obtain ⟨f, rfl⟩ : ∃ f, d = f + 1 := ⟨d - 1, by omega⟩
            have hm : ¬ (((f + 1 : Nat) : Int) - 1 < 0) := by omega
            have hm2 : ((f + 1 : Nat) : Int) - 1 = (f : Int) := by omega
            have hm3 : (0 : Int) ≤ (f : Int) := by omega
            have HS2 := Lib.hid (show fstF ys 0 = fstF (ys.drop (j + 1)) f from HS.out)
            obtain ⟨D, hD⟩ : ∃ D : Int, ((f + 1 : Nat) : Int) = D := ⟨_, rfl⟩
            have hm4 : D - 1 = (f : Int) := by omega
            have hDl : 0 ≤ D ∧ D ≤ 1000001 := by omega
            obtain ⟨hD1, hD2⟩ := hDl
            rw [hD]
            clear hD hm hm2 HS
            go_wp2_with (first
              | (go_at_call 52; with_reducible refine (HI.out _).mono ?_; rintro e w2 ⟨rfl, rfl⟩)
              | fail)
            go_roundw
            case rel => exact ⟨j + 1, f, by omega, by omega, by go_num, by go_num, trivial, HS2.out⟩
            case measure => simp [intOf]; omega
        · rw [if_neg h22] at hfs
          have g22 : (x == 22) = false := by simp [h22]
          rcases Nat.eq_zero_or_pos d with rfl | hd
          · rw [if_pos rfl] at hfs
            by_cases h0 : x = 0
            · subst h0
              rw [if_pos rfl] at hfs
              have HS := Lib.hid (HF.out.trans hfs)
              clear hfs h22
              go_wp2_with (first
                | (go_at_call 52; with_reducible refine (HI.out _).mono ?_; rintro e w2 ⟨rfl, rfl⟩)
                | fail)
              go_ret
              exact ⟨retI HS.out.symm, HB.out⟩
            · rw [if_neg h0] at hfs
              have g0 : (x == 0) = false := by simp [h0]
              by_cases h1 : x = 1
              · subst h1
                rw [if_pos (.inl rfl)] at hfs
                have HS := Lib.hid (HF.out.trans hfs)
                clear hfs h22 h0
                go_wp2_with (first
                  | (go_at_call 52; with_reducible refine (HI.out _).mono ?_; rintro e w2 ⟨rfl, rfl⟩)
                  | fail)
                go_ret
                exact ⟨retI HS.out.symm, HB.out⟩
              · have g1 : (x == 1) = false := by simp [h1]
                by_cases h2 : x = 2
                · subst h2
                  rw [if_pos (.inr rfl)] at hfs
                  have HS := Lib.hid (HF.out.trans hfs)
                  clear hfs h22 h0 h1
                  go_wp2_with (first
                    | (go_at_call 52; with_reducible refine (HI.out _).mono ?_; rintro e w2 ⟨rfl, rfl⟩)
                    | fail)
                  go_ret
                  exact ⟨retI HS.out.symm, HB.out⟩
                · rw [if_neg (by omega)] at hfs
                  have g2 : (x == 2) = false := by simp [h2]
                  have HS := Lib.hid hfs
                  clear hfs h22 h0 h1 h2
                  go_wp2_with (first
                    | (go_at_call 52; with_reducible refine (HI.out _).mono ?_; rintro e w2 ⟨rfl, rfl⟩)
                    | fail)
                  go_roundw
                  case rel => exact ⟨j + 1, 0, by omega, by omega, by go_num, rfl, trivial, HS.out⟩
                  case measure => simp [intOf]; omega
          · rw [if_neg (by omega)] at hfs
            have HS := Lib.hid hfs
            have hd' : (0 : Int) < (d : Int) := by omega
            clear hfs h22
            go_wp2_with (first
              | (go_at_call 52; with_reducible refine (HI.out _).mono ?_; rintro e w2 ⟨rfl, rfl⟩)
              | fail)
            go_roundw
            case rel => exact ⟨j + 1, d, by omega, by omega, by go_num, rfl, trivial, HS.out⟩
            case measure => simp [intOf]; omega
    · obtain rfl : j = m := by omega
      have HS := Lib.hid (show firstF xs (lo, hi) = -1 by
        rw [HF.out, hfs, List.drop_eq_nil_of_le (by rw [HYM.out]; exact Nat.le_refl _)]; rfl)
      clear hfs
      go_wp2
      go_ret
      exact ⟨retI HS.out.symm, HB.out⟩
end Go.Proofs.Ytflbiblkphaagaa
