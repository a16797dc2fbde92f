/- The project's tail: Seen, goesOn, bareYeh, with, Tail, uncut, Back. -/
import Derived.Test.YtapdfnffpikeeaaTlD
import Derived.Test.YtapdfnffpikeeaaFmP3
import Derived.Test.YtapdfnffpikeeaaMem2
namespace Go.Proofs.Ytapdfnffpikeeaa
open Go.RowKit

/-- A list and a word that it is there. -/
def TlGives (w : World) (r : List Int × Bool) (e : Ending) (w' : World) : Prop := ∃ A n k, e = .returned (.tuple #[.slice A n k, .bool r.2]) ∧ n ≤ k ∧ k ≤ 2 ∧ Rd w' 1 A n (r.1.map (Value.int .i64)) ∧ Below w.heap.size w w'
theorem TlGives.of {w w' : World} {r : List Int × Bool} {e : Ending} (h : TlGives w r e w') {w0 : World} (hb : Below w0.heap.size w0 w) : TlGives w0 r e w' := by
  obtain ⟨A, n, k, h1, h2, h3, h4, h5⟩ := h
  exact ⟨A, n, k, h1, h2, h3, h4, below_self hb h5⟩
theorem tlSeen_of (c : Int) (v : Bool) (hv : seenB c = v) (w : World) : Calls Try.prog 9 #[.int .i64 c] w fun e w' => e = .returned (.bool v) ∧ w = w' := by
  subst hv
  by_cases h1 : 1587 ≤ c
  · by_cases h2 : c ≤ 1590
    · rw [show seenB c = true from (seenB_iff c).2 ⟨h1, h2⟩]
      go_enter Try.func9, Try.ntmps9
      go_wp2
      go_ret
      exact ⟨rfl, rfl⟩
    · rw [show seenB c = false by simp [seenB, h2]]
      go_enter Try.func9, Try.ntmps9
      go_wp2
      go_ret
      exact ⟨rfl, rfl⟩
  · rw [show seenB c = false by simp [seenB, h1]]
    go_enter Try.func9, Try.ntmps9
    go_wp2
    go_ret
    exact ⟨rfl, rfl⟩
theorem tlGoesOn_any (f : Int) (w : World) : Calls Try.prog 15 #[.int .i64 f] w fun e w' => e = .returned (.int .i64 (goesF f)) ∧ w = w' := by
  by_cases h1 : f = 1
  · subst h1
    go_enter Try.func15, Try.ntmps15
    go_wp2
    go_ret
    exact ⟨rfl, rfl⟩
  · by_cases h2 : f = 2
    · subst h2
      go_enter Try.func15, Try.ntmps15
      go_wp2
      go_ret
      exact ⟨rfl, rfl⟩
    · rw [show goesF f = 0 by unfold goesF; rw [if_neg h1, if_neg h2]]
      have g1 : (f == 1) = false := by simp [h1]
      have g2 : (f == 2) = false := by simp [h2]
      clear h1 h2
      go_enter Try.func15, Try.ntmps15
      go_wp2
      go_ret
      exact ⟨rfl, rfl⟩
theorem tlBare_any (f : Int) (w : World) : Calls Try.prog 17 #[.int .i64 f] w fun e w' => e = .returned (.tuple #[.int .i64 (bareF f).1, .bool (bareF f).2]) ∧ w = w' := by
  by_cases h1 : f = 1
  · subst h1
    go_enter Try.func17, Try.ntmps17
    go_wp2
    go_ret2
    exact ⟨rfl, rfl⟩
  · by_cases h2 : f = 2
    · subst h2
      go_enter Try.func17, Try.ntmps17
      go_wp2
      go_ret2
      exact ⟨rfl, rfl⟩
    · rw [show bareF f = (0, false) by unfold bareF; rw [if_neg h1, if_neg h2]]
      have g1 : (f == 1) = false := by simp [h1]
      have g2 : (f == 2) = false := by simp [h2]
      clear h1 h2
      go_enter Try.func17, Try.ntmps17
      go_wp2
      go_ret2
      exact ⟨rfl, rfl⟩
theorem rdTwo (w : World) (a b : Int) (t : TypeId) : Rd (w.alloc (.cells #[.int .i64 a, .int .i64 b] t)) 1 (some ⟨w.heap.size, 0, none⟩) 2 (([a, b] : List Int).map (Value.int .i64)) :=
  Rd.new_ w [.int .i64 a, .int .i64 b] t
set_option maxRecDepth 100000 in
theorem tlWith_any (c t : Int) (ok : Bool) (w : World) : Calls Try.prog 16 #[.int .i64 c, .bool ok, .int .i64 t] w (TlGives w (withF (c, ok) t)) := by
  cases ok with
  | false =>
    go_enter Try.func16, Try.ntmps16
    go_wp2
    exact bodyPost_ret (v := .tuple #[.slice none 0 0, .bool false]) (by simp [results, go_sem]) rfl ⟨none, 0, 0, rfl, Nat.le_refl _, by omega, Rd.nil_, Below.refl _ _⟩
  | true =>
    go_enter Try.func16, Try.ntmps16
    go_wp2
    exact bodyPost_ret (v := .tuple #[.slice (some ⟨w.heap.size, 0, none⟩) 2 2, .bool true]) (by simp [results, go_sem]) rfl ⟨_, 2, 2, rfl, Nat.le_refl _, Nat.le_refl _, rdTwo w c t _, below_new w _⟩
set_option maxRecDepth 100000 in
set_option maxHeartbeats 1000000 in
theorem tlTail_any (b f : Int) (s y : Bool) (w : World) : Calls Try.prog 6 #[.int .i64 b, .int .i64 f, .bool s, .bool y] w (TlGives w (tailF b f s y)) := by
  obtain ⟨v, hv⟩ : ∃ v, seenB b = v := ⟨_, rfl⟩
  obtain ⟨g, hg⟩ : ∃ g, goesF f = g := ⟨_, rfl⟩
  obtain ⟨c, ok, hc⟩ : ∃ c ok, formF b g = (c, ok) := ⟨_, _, rfl⟩
  obtain ⟨d, od, hd⟩ : ∃ c ok, bareF f = (c, ok) := ⟨_, _, rfl⟩
  have hgb : -9223372036854775808 ≤ g ∧ g ≤ 9223372036854775807 := by rw [← hg]; unfold goesF; repeat' split
                                                                      all_goals omega
  have HS := Lib.hid (fun w => tlSeen_of b v hv w)
  have HG := Lib.hid (fun w => tlGoesOn_any f w)
  have HF := Lib.hid (fun w => fmForm_any b g c ok hc hgb.1 hgb.2 w)
  have HB := Lib.hid (fun w => tlBare_any f w)
  rw [hg] at HG
  rw [hd] at HB
  have HV : Hid (tailF b f s y = if s = true ∧ v = true then withF (c, ok) 65139 else if y = true ∧ b = 1574 then withF (d, od) 65152 else ([], false)) := Lib.hid (by
    unfold tailF
    rw [hv, hg, hc, hd])
  clear hv hg hc hd hgb
  have HY := Lib.hid (show (b == 1574) = decide (b = 1574) by by_cases h : b = 1574 <;> simp [h])
  obtain ⟨z, hz⟩ : ∃ z, decide (b = 1574) = z := ⟨_, rfl⟩
  have HE : Hid (tailF b f s y = if (s && v) = true then withF (c, ok) 65139 else if (y && z) = true then withF (d, od) 65152 else ([], false)) := Lib.hid (by
    rw [HV.out]
    simp only [Bool.and_eq_true, ← hz, decide_eq_true_eq])
  have hy : (b == 1574) = z := by rw [HY.out, hz]
  clear HV HY hz
  cases s <;> cases v <;> cases y <;> cases z
  all_goals
    rw [HE.out]
    go_enter Try.func6, Try.ntmps6
    go_wp2_with (first
      | (go_at_call 9; with_reducible refine (HS.out _).mono ?_; rintro e w1 ⟨rfl, rfl⟩)
      | (go_at_call 15; with_reducible refine (HG.out _).mono ?_; rintro e w1 ⟨rfl, rfl⟩)
      | (go_at_call 14; with_reducible refine (HF.out _).mono ?_; rintro e w2 ⟨rfl, hb2⟩)
      | (go_at_call 17; with_reducible refine (HB.out _).mono ?_; rintro e w1 ⟨rfl, rfl⟩)
      | fail)
    first
      | (refine (tlWith_any _ _ _ _).mono ?_
         rintro e w3 ⟨A, n, k, rfl, hnk, hk2, hrd, hb3⟩
         go_wp2_with fail
         first
           | exact bodyPost_ret (v := .tuple #[.slice A n k, .bool (withF (c, ok) 65139).2]) (by simp [results, go_sem]) rfl ⟨A, n, k, rfl, hnk, hk2, hrd, below_self hb2 hb3⟩
           | exact bodyPost_ret (v := .tuple #[.slice A n k, .bool (withF (d, od) 65152).2]) (by simp [results, go_sem]) rfl ⟨A, n, k, rfl, hnk, hk2, hrd, hb3⟩)
      | exact bodyPost_ret (v := .tuple #[.slice none 0 0, .bool false]) (by simp [results, go_sem]) rfl ⟨none, 0, 0, rfl, Nat.le_refl _, by omega, Rd.nil_, Below.refl _ _⟩
end Go.Proofs.Ytapdfnffpikeeaa
