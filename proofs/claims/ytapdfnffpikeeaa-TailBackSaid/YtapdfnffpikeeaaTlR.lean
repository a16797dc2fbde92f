/- The project's uncut and Back; the reference's Seen, Tail, Back. -/
import Derived.Test.YtapdfnffpikeeaaTlP
import Derived.Test.YtapdfnffpikeeaaFmRa
namespace Go.Proofs.Ytapdfnffpikeeaa
open Go.RowKit

set_option maxRecDepth 100000 in
theorem tlUncut_any (a : Int) (w : World) : Calls Try.prog 19 #[.int .i64 a] w fun e w' => e = .returned (.tuple #[.int .i64 (uncutF a).1, .bool (uncutF a).2]) ∧ Below w.heap.size w w' := by
  obtain ⟨x, q, k, h1⟩ : ∃ x q k, baseF a = (x, q, k) := ⟨_, _, _, rfl⟩
  obtain ⟨v, hv⟩ : ∃ v, seenB x = v := ⟨_, rfl⟩
  have HB := Lib.hid (fun w => fmBase_any a x q k h1 w)
  have HS := Lib.hid (fun w => tlSeen_of x v hv w)
  have HU : Hid (uncutF a = if v = true ∧ (q = 3 ∨ q = 4) then (x, true) else (0, false)) := Lib.hid (by unfold uncutF; rw [h1, hv])
  clear h1 hv
  by_cases h3 : q = 3
  · subst h3
    cases v
    all_goals
      rw [HU.out]
      go_enter Try.func19, Try.ntmps19
      go_wp2_with (first
        | (go_at_call 25; with_reducible refine (HB.out _).mono ?_; rintro e w1 ⟨rfl, hb1⟩)
        | (go_at_call 9; with_reducible refine (HS.out _).mono ?_; rintro e w2 ⟨rfl, rfl⟩)
        | fail)
      go_ret2
      exact ⟨rfl, hb1⟩
  · by_cases h4 : q = 4
    · subst h4
      cases v
      all_goals
        rw [HU.out]
        go_enter Try.func19, Try.ntmps19
        go_wp2_with (first
          | (go_at_call 25; with_reducible refine (HB.out _).mono ?_; rintro e w1 ⟨rfl, hb1⟩)
          | (go_at_call 9; with_reducible refine (HS.out _).mono ?_; rintro e w2 ⟨rfl, rfl⟩)
          | fail)
        go_ret2
        exact ⟨rfl, hb1⟩
    · have HU2 := Lib.hid (show uncutF a = (0, false) by rw [HU.out, if_neg]; rintro ⟨_, h | h⟩; exact h3 h; exact h4 h)
      have g3 : (q != 3) = true := by simp [h3]
      have g4 : (q != 4) = true := by simp [h4]
      clear HU h3 h4
      cases v
      all_goals
        rw [HU2.out]
        go_enter Try.func19, Try.ntmps19
        go_wp2_with (first
          | (go_at_call 25; with_reducible refine (HB.out _).mono ?_; rintro e w1 ⟨rfl, hb1⟩)
          | (go_at_call 9; with_reducible refine (HS.out _).mono ?_; rintro e w2 ⟨rfl, rfl⟩)
          | fail)
        go_ret2
        exact ⟨rfl, hb1⟩
theorem backF_eq (a b : Int) (s y : Bool) {p q r t : Bool} (hp : decide (b = 65139) = p) (hq : decide (b = 65152) = q) (hr : decide (a = 65263) = r) (ht : decide (a = 65264) = t) :
    backF a b s y = if (s && p) = true then uncutF a else if (y && (q && (r || t))) = true then (1574, true) else (0, false) := by
  unfold backF
  simp only [Bool.and_eq_true, Bool.or_eq_true, ← hp, ← hq, ← hr, ← ht, decide_eq_true_eq]
theorem eq_dec (a b : Int) : (a == b) = decide (a = b) := by by_cases h : a = b <;> simp [h]
set_option maxRecDepth 100000 in
set_option maxHeartbeats 1000000 in
theorem tlBack_any (a b : Int) (s y : Bool) (w : World) : Calls Try.prog 12 #[.int .i64 a, .int .i64 b, .bool s, .bool y] w fun e w' => e = .returned (.tuple #[.int .i64 (backF a b s y).1, .bool (backF a b s y).2]) ∧ Below w.heap.size w w' := by
  obtain ⟨p, hp⟩ : ∃ p, decide (b = 65139) = p := ⟨_, rfl⟩
  obtain ⟨q, hq⟩ : ∃ p, decide (b = 65152) = p := ⟨_, rfl⟩
  obtain ⟨r, hr⟩ : ∃ p, decide (a = 65263) = p := ⟨_, rfl⟩
  obtain ⟨t, ht⟩ : ∃ p, decide (a = 65264) = p := ⟨_, rfl⟩
  have HE := Lib.hid (backF_eq a b s y hp hq hr ht)
  have gp : (b == 65139) = p := by rw [eq_dec, hp]
  have gq : (b == 65152) = q := by rw [eq_dec, hq]
  have gr : (a == 65263) = r := by rw [eq_dec, hr]
  have gt : (a == 65264) = t := by rw [eq_dec, ht]
  have HU := Lib.hid (fun w => tlUncut_any a w)
  obtain ⟨u, o, hu⟩ : ∃ u o, uncutF a = (u, o) := ⟨_, _, rfl⟩
  rw [hu] at HU HE
  clear hp hq hr ht hu
  cases s <;> cases p <;> cases y <;> cases q <;> cases r <;> cases t
  all_goals
    rw [HE.out]
    go_enter Try.func12, Try.ntmps12
    go_wp2_with fail
    first
      | (refine (HU.out _).mono ?_
         rintro e w1 ⟨rfl, hb1⟩
         go_wp2_with fail
         go_ret2
         exact ⟨rfl, hb1⟩)
      | (go_ret2
         exact ⟨rfl, Below.refl _ _⟩)
theorem rfSeen_of (c : Int) (v : Bool) (hv : seenB c = v) (w : World) : Calls Try.prog 10 #[.int .i64 c] w fun e w' => e = .returned (.bool v) ∧ w = w' := by
  subst hv
  by_cases h1 : 1587 ≤ c
  · by_cases h2 : c ≤ 1590
    · rw [show seenB c = true from (seenB_iff c).2 ⟨h1, h2⟩]
      go_enter Try.func10, Try.ntmps10
      go_wp2
      go_ret
      exact ⟨rfl, rfl⟩
    · rw [show seenB c = false by simp [seenB, h2]]
      go_enter Try.func10, Try.ntmps10
      go_wp2
      go_ret
      exact ⟨rfl, rfl⟩
  · rw [show seenB c = false by simp [seenB, h1]]
    go_enter Try.func10, Try.ntmps10
    go_wp2
    go_ret
    exact ⟨rfl, rfl⟩
set_option maxRecDepth 100000 in
set_option maxHeartbeats 1000000 in
theorem rfBack_any (a b : Int) (s y : Bool) (w : World) : Calls Try.prog 13 #[.int .i64 a, .int .i64 b, .bool s, .bool y] w fun e w' => e = .returned (.tuple #[.int .i64 (backF a b s y).1, .bool (backF a b s y).2]) ∧ Below w.heap.size w w' := by
  obtain ⟨p, hp⟩ : ∃ p, decide (b = 65139) = p := ⟨_, rfl⟩
  obtain ⟨q, hq⟩ : ∃ p, decide (b = 65152) = p := ⟨_, rfl⟩
  obtain ⟨r, hr⟩ : ∃ p, decide (a = 65263) = p := ⟨_, rfl⟩
  obtain ⟨t, ht⟩ : ∃ p, decide (a = 65264) = p := ⟨_, rfl⟩
  obtain ⟨x, f, k, h1⟩ : ∃ x q k, baseF a = (x, q, k) := ⟨_, _, _, rfl⟩
  obtain ⟨v, hv⟩ : ∃ v, seenB x = v := ⟨_, rfl⟩
  obtain ⟨f3, h3⟩ : ∃ p, decide (f = 3) = p := ⟨_, rfl⟩
  obtain ⟨f4, h4⟩ : ∃ p, decide (f = 4) = p := ⟨_, rfl⟩
  have hpq : p = true → q = false := fun h => by rw [h] at hp; rw [← hq]; simp at hp ⊢; omega
  have hk : k = false → v = false := fun h => by
    subst h
    have := (base_no h1).1
    subst this
    rw [← hv]; rfl
  have hu : uncutF a = if (v && (f3 || f4)) = true then (x, true) else (0, false) := by
    unfold uncutF
    rw [h1, hv]
    simp only [Bool.and_eq_true, Bool.or_eq_true, ← h3, ← h4, decide_eq_true_eq]
  have HE := Lib.hid (backF_eq a b s y hp hq hr ht)
  rw [hu] at HE
  have gp : (b == 65139) = p := by rw [eq_dec, hp]
  have gq : (b == 65152) = q := by rw [eq_dec, hq]
  have gr : (a == 65263) = r := by rw [eq_dec, hr]
  have gt : (a == 65264) = t := by rw [eq_dec, ht]
  have g3 : (f == 3) = f3 := by rw [eq_dec, h3]
  have g4 : (f == 4) = f4 := by rw [eq_dec, h4]
  have HB := Lib.hid (fun w => refBase_any a x f k h1 w)
  have HS := Lib.hid (fun w => rfSeen_of x v hv w)
  clear hp hq hr ht hu h1 hv h3 h4
  cases p with
  | true =>
    obtain rfl := hpq rfl
    clear hpq gr gt
    cases s <;> cases k
    case' false.false => obtain rfl := hk rfl
    case' true.false => obtain rfl := hk rfl
    all_goals
      clear hk
      cases y
      all_goals
        first | (cases v <;> cases f3 <;> cases f4) | (cases f3 <;> cases f4)
        all_goals
          rw [HE.out]
          go_enter Try.func13, Try.ntmps13
          go_wp2_with (first
            | (go_at_call 20; with_reducible refine (HB.out _).mono ?_; rintro e w1 ⟨rfl, hb1⟩)
            | (go_at_call 10; with_reducible refine (HS.out _).mono ?_; rintro e w2 ⟨rfl, rfl⟩)
            | fail)
          go_ret2
          exact ⟨rfl, hb1⟩
  | false =>
    clear hpq hk g3 g4
    cases s <;> cases y <;> cases q <;> cases r <;> cases t
    all_goals
      rw [HE.out]
      go_enter Try.func13, Try.ntmps13
      go_wp2_with (first
        | (go_at_call 20; with_reducible refine (HB.out _).mono ?_; rintro e w1 ⟨rfl, hb1⟩)
        | fail)
      go_ret2
      exact ⟨rfl, hb1⟩
end Go.Proofs.Ytapdfnffpikeeaa
