/- naskhref27's blank and ends, walked. -/
import Derived.Test.YtdgomaoikeffhaaLnD
import Derived.Test.YtdgomaoikeffhaaRxF
import Derived.Test.YtdgomaoikeffhaaMem3
import Derived.BigQuiet
namespace Go.Proofs.Ytdgomaoikeffhaa
open Go.RowKit

theorem blk_left (c : Int) (h1 : c ≠ 12) (h2 : c ≠ 19) (h3 : c ≠ 20) (h4 : c ≠ 21) (h5 : c ≠ 22) : blkB c = leftC c := by
  rw [Bool.eq_iff_iff]
  simp [blkB, leftC]
  omega
set_option maxRecDepth 100000 in
theorem rnBlank_of (c : Int) (v : Bool) (hv : blkB c = v) (w : World) : Calls Try.prog 34 #[.int .i64 c] w fun e w' => e = .returned (.bool v) ∧ w = w' := by
  subst hv
  by_cases h : c = 12 ∨ c = 19 ∨ c = 20 ∨ c = 21 ∨ c = 22
  · rcases h with rfl | rfl | rfl | rfl | rfl
    all_goals
      rw [show blkB _ = true from rfl]
      go_enter Try.func34, Try.ntmps34
      go_wp2
      go_ret
      exact ⟨rfl, rfl⟩
  · have h1 : ¬ c = 12 := fun e => h (by omega)
    have h2 : ¬ c = 19 := fun e => h (by omega)
    have h3 : ¬ c = 20 := fun e => h (by omega)
    have h4 : ¬ c = 21 := fun e => h (by omega)
    have h5 : ¬ c = 22 := fun e => h (by omega)
    have HL := Lib.hid (rxLeft_any c w)
    rw [blk_left c h1 h2 h3 h4 h5]
    have g1 : (c == 12) = false := by simp [h1]
    have g2 : (c == 19) = false := by simp [h2]
    have g3 : (c == 20) = false := by simp [h3]
    have g4 : (c == 21) = false := by simp [h4]
    have g5 : (c == 22) = false := by simp [h5]
    clear h h1 h2 h3 h4 h5
    go_enter Try.func34, Try.ntmps34
    go_wp2_with (first
      | (go_at_call 45; refine HL.out.mono ?_; rintro e w1 ⟨rfl, rfl⟩)
      | fail)
    go_ret
    exact ⟨rfl, rfl⟩
/-- The places from one up to another. -/
def partF (l : List Int) (lo hi : Nat) : List Int := (l.drop lo).take (hi - lo)
theorem partF_cons {l : List Int} {lo hi : Nat} {x : Int} (h : l[lo]? = some x) (hl : lo < hi) : partF l lo hi = x :: partF l (lo + 1) hi := by
  have hlt := (List.getElem?_eq_some_iff.1 h).1
  unfold partF
  rw [List.drop_eq_getElem_cons hlt, show hi - lo = (hi - (lo + 1)) + 1 by omega, List.take_succ_cons]
  rw [(List.getElem?_eq_some_iff.1 h).2]
theorem partF_nil {l : List Int} {lo hi : Nat} (h : hi ≤ lo) : partF l lo hi = [] := by unfold partF; rw [show hi - lo = 0 by omega, List.take_zero]
set_option maxRecDepth 100000 in
set_option maxHeartbeats 2000000 in
theorem rnEnds_any (A : Option Addr) (n c i hi : Nat) (cs : List Int) (w : World) (hr : Rd w 1 A n (cs.map (Value.int .i64))) (hn : n ≤ 100000) (hih : i ≤ hi) (hin : hi ≤ n) (v : Bool) (hv : endsF (partF cs i hi) = v) :
    Calls Try.prog 24 #[.slice A n c, .int .i64 i, .int .i64 hi] w fun e w' => e = .returned (.bool v) ∧ ∃ q, w' = w.drewN q := by
  have hl : cs.length = n := by simpa using hr.len1
  have HL := Lib.hid hl
  have HR := Lib.hid hr
  have HV := Lib.hid hv
  clear hl hr hv
  go_enter Try.func24, Try.ntmps24
  go_wp2
  go_loopw [7] (fun j wr => ∃ k q : Nat, k ≤ hi ∧ j = .int .i64 (k : Int) ∧ endsF (partF cs k hi) = v ∧ wr = w.drewN q) (fun j _ => hi - (intOf j).toNat)
  case atStart => exact ⟨i, 0, hih, rfl, HV.out, rfl⟩
  case round =>
    obtain ⟨k, q, hk, rfl, he, rfl⟩ := hrel
    have HE := Lib.hid he
    clear he
    by_cases hlt : k < hi
    · obtain ⟨x, hx⟩ : ∃ x, cs[k]? = some x := ⟨_, List.getElem?_eq_getElem (by rw [HL.out]; omega)⟩
      obtain ⟨ad, rfl, hab, hcell⟩ := HR.out.at_ (show k < n by omega)
      have cx : w.cell? (ad.add k) = some (.int .i64 x) := hcell _ (by rw [List.getElem?_map, hx]; rfl)
      rw [partF_cons hx hlt] at HE
      have hkn : (k : Int) < (n : Int) := by omega
      have hkh : (k : Int) < (hi : Int) := by omega
      have hk0 : (0 : Int) ≤ (k : Int) := by omega
      have hk5 : (k : Int) ≤ 100000 := by omega
      clear hx hcell
      by_cases h11 : x = 11
      · subst h11
        obtain rfl : true = v := HE.out
        go_wp2
        go_ret
        exact ⟨rfl, q, rfl⟩
      · have g11 : (x == 11) = false := by simp [h11]
        by_cases h10 : x = 10
        · subst h10
          obtain rfl : true = v := HE.out
          go_wp2
          go_ret
          exact ⟨rfl, q, rfl⟩
        · have g10 : (x == 10) = false := by simp [h10]
          rw [endsF, if_neg (by omega)] at HE
          obtain ⟨b, hb⟩ : ∃ b, blkB x = b := ⟨_, rfl⟩
          have HBL := Lib.hid (fun W => rnBlank_of x b hb W)
          rw [hb] at HE
          clear hb h11 h10
          cases b with
          | true =>
            rw [if_pos rfl] at HE
            go_wp2_with (first
              | (go_at_call 34; refine (HBL.out _).mono ?_; rintro e w1 ⟨rfl, rfl⟩)
              | fail)
            go_roundw
            case rel => exact ⟨k + 1, q, by omega, by go_num, HE.out, rfl⟩
            case measure => simp [intOf]; omega
          | false =>
            rw [if_neg (by decide)] at HE
            obtain rfl : false = v := HE.out
            go_wp2_with (first
              | (go_at_call 34; refine (HBL.out _).mono ?_; rintro e w1 ⟨rfl, rfl⟩)
              | fail)
            go_ret
            exact ⟨rfl, q, rfl⟩
    · have hkh : ¬ (k : Int) < (hi : Int) := by omega
      rw [partF_nil (by omega)] at HE
      obtain rfl : true = v := HE.out
      go_wp2
      go_ret
      exact ⟨rfl, q, rfl⟩
end Go.Proofs.Ytdgomaoikeffhaa
