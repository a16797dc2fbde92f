/- runs.line's lower, walked: the last row ends. -/
import Derived.Test.YtaiefneimjdmhaaRuLP2
namespace Go.Proofs.Ytaiefneimjdmhaa
open Go.RowKit
set_option maxRecDepth 100000 in
set_option maxHeartbeats 2000000 in
theorem ruLower_any (X : Nat → Obj → Prop) (b g n v : Nat) (R : List (TnR Nat)) (t : TnR Nat) (w0 w : World) (h : LnAt 62 65 X b g n (t :: R) w0 w) (hm : R.length ≤ 100000) (hn : n ≤ 100000) (hv : v ≤ 126) :
    Calls Try.prog 54 #[.pointer (some ⟨g, 0, none⟩), .int .i64 (v : Int)] w fun e w' => e = .returned (.tuple #[]) ∧ LnAt 62 65 X b g n (tnLow v t R) w0 w' := by
  obtain ⟨gR, m, c, hRm, hmc, hgs, c0, f0, c1, f1, hset⟩ := h.top
  have hv126 : (v : Int) ≤ 126 := by omega
  cases R with
  | nil =>
    have HF := Lib.hid (hset v hv)
    simp only [List.length_nil] at hRm c1 f1 HF
    subst hRm
    clear h hset
    simp only [Nat.zero_mul, Nat.zero_add] at c0 c1 f1 HF hmc
    go_enter Try.func54, Try.ntmps54
    go_wp2
    go_region
    go_end0
    exact ⟨rfl, by first | exact HF.out.drewN 1 | exact HF.out⟩
  | cons u R =>
    simp only [List.length_cons] at hRm c1 f1 hm
    obtain ⟨p, hp⟩ : ∃ p, R.length + 1 = p := ⟨_, rfl⟩
    rw [hp] at hRm c1 f1 hm
    have HL := Lib.hid (ruLevel_any X b g n (t :: u :: R) w0 w h 1 u rfl (by simp only [List.length_cons]; omega))
    have HJ := Lib.hid (fun q => ruJoin_any X b g n R t u w0 (w.drewN q) (h.drewN q) (by omega) hn)
    have i1 : (m : Int) - 1 = (p : Int) := by omega
    have i2 : (0 : Int) ≤ (p : Int) := by omega
    have i3 : (p : Int) < (m : Int) := by omega
    have i4 : (m : Int) ≤ 100002 := by omega
    have i5 : (1 : Int) < (m : Int) := by omega
    obtain ⟨lu, hlu⟩ : ∃ k : Int, (u.lev : Int) = k := ⟨_, rfl⟩
    rw [hlu] at HL
    by_cases hvu : v ≤ u.lev
    · have d1 : decide ((v : Int) ≤ lu) = true := decide_eq_true (by omega)
      have HE : Hid (tnLow v t (u :: R) = u.join t :: R) := Lib.hid (if_pos hvu)
      rw [HE.out]
      clear h hset hp hvu hlu hRm
      go_enter Try.func54, Try.ntmps54
      go_wp2_with (first
        | (go_at_call 53; refine HL.out.mono ?_; rintro e w1 ⟨rfl, q1, rfl⟩)
        | (go_at_call 55; refine (HJ.out _).mono ?_; rintro e w2 ⟨rfl, hl2⟩)
        | fail)
      go_end0
      exact ⟨rfl, hl2⟩
    · have d1 : decide ((v : Int) ≤ lu) = false := decide_eq_false (by omega)
      have HE : Hid (tnLow v t (u :: R) = ⟨v, t.seq⟩ :: u :: R) := Lib.hid (if_neg hvu)
      rw [HE.out]
      have HF := Lib.hid (hset v hv)
      simp only [List.length_cons, hp] at HF
      clear h hset hp hvu hlu hRm
      go_enter Try.func54, Try.ntmps54
      go_wp2_with (first
        | (go_at_call 53; refine HL.out.mono ?_; rintro e w1 ⟨rfl, q1, rfl⟩)
        | fail)
      go_region
      go_end0
      exact ⟨rfl, HF.out.drewN (q1 + 1)⟩
end Go.Proofs.Ytaiefneimjdmhaa
