/- The project's Pile, Unpile, Accent. -/
import Derived.Test.YtfobhnpmaooalaaFmP4
namespace Go.Proofs.Ytfobhnpmaooalaa
open Go.RowKit

theorem bne_dec (x : Int) : (x != 0) = decide (x ≠ 0) := by by_cases h : x = 0 <;> simp [h]
set_option maxRecDepth 100000 in
set_option maxHeartbeats 1000000 in
theorem fmPile_any (c x : Int) (ok : Bool) (hv : pilF c = (x, ok)) (w : World) :
    Calls Try.prog 36 #[.int .i64 c] w fun e w' => e = .returned (.tuple #[.int .i64 x, .bool ok]) ∧ Below w.heap.size w w' := by
  have hv' : pilR c pilL = (x, ok) := hv
  have HV := Lib.hid hv'
  clear hv hv'
  go_enter Try.func36, Try.ntmps36
  go_wp2_with fail
  refine (piles_any _).mono ?_
  rintro e w1 ⟨⟨A, rfl, hr⟩, hb1⟩
  have HL := Lib.hid (show pilL.length = 6 from rfl)
  obtain ⟨l, hl⟩ : ∃ l, pilL = l := ⟨_, rfl⟩
  rw [hl] at HV HL hr
  clear hl
  go_wp2
  go_loopw [8] (fun i wr => ∃ (k : Nat), k ≤ 6 ∧ i = .int .i64 k ∧ pilR c l = pilR c (l.drop k) ∧ Below w1.heap.size w1 wr) (fun i _ => 6 - (intOf i).toNat)
  case atStart => exact ⟨0, Nat.zero_le _, rfl, rfl, Below.refl _ _⟩
  case round =>
    obtain ⟨k, hk, rfl, hp, hb⟩ := hrel
    have HP := Lib.hid hp
    clear hp
    by_cases hlt : k < 6
    · obtain ⟨s, hsk⟩ : ∃ s, l[k]? = some s := ⟨_, List.getElem?_eq_getElem (by rw [HL.out]; exact hlt)⟩
      obtain ⟨ad, rfl, hab, c1, c2⟩ := (hr.below hb).span hsk
      have HD := Lib.hid (dropCons hsk)
      clear hsk
      obtain ⟨y, z⟩ := s
      simp only at c1 c2
      have hbn := below_self hb (below_new wr (.cells #[.int .i64 y, .int .i64 z] 88))
      by_cases h1 : y = c
      · have hX := show (x, ok) = (z, true) by rw [← HV.out, HP.out, HD.out]; exact if_pos h1
        simp only [Prod.mk.injEq] at hX
        obtain ⟨rfl, rfl⟩ := hX
        subst h1
        go_wp2
        go_ret2
        exact ⟨rfl, below_self hb1 hbn⟩
      · have HF := Lib.hid (show pilR c l = pilR c (l.drop (k + 1)) by rw [HP.out, HD.out]; exact if_neg h1)
        have g1 : (y == c) = false := by simp [h1]
        clear h1
        go_wp2
        go_roundw
        case rel => exact ⟨k + 1, by omega, by go_num, HF.out, hbn⟩
        case measure => simp [intOf]; omega
    · have hX := show (x, ok) = (0, false) by rw [← HV.out, HP.out, List.drop_eq_nil_of_le (by rw [HL.out]; omega)]; rfl
      simp only [Prod.mk.injEq] at hX
      obtain ⟨rfl, rfl⟩ := hX
      go_wp2
      go_ret2
      exact ⟨rfl, below_self hb1 hb⟩
set_option maxRecDepth 100000 in
set_option maxHeartbeats 1000000 in
theorem fmUnpile_any (c x : Int) (ok : Bool) (hv : unpF c = (x, ok)) (w : World) :
    Calls Try.prog 38 #[.int .i64 c] w fun e w' => e = .returned (.tuple #[.int .i64 x, .bool ok]) ∧ Below w.heap.size w w' := by
  have hv' : unpR c pilL = (x, ok) := hv
  have HV := Lib.hid hv'
  clear hv hv'
  go_enter Try.func38, Try.ntmps38
  go_wp2_with fail
  refine (piles_any _).mono ?_
  rintro e w1 ⟨⟨A, rfl, hr⟩, hb1⟩
  have HL := Lib.hid (show pilL.length = 6 from rfl)
  obtain ⟨l, hl⟩ : ∃ l, pilL = l := ⟨_, rfl⟩
  rw [hl] at HV HL hr
  clear hl
  go_wp2
  go_loopw [8] (fun i wr => ∃ (k : Nat), k ≤ 6 ∧ i = .int .i64 k ∧ unpR c l = unpR c (l.drop k) ∧ Below w1.heap.size w1 wr) (fun i _ => 6 - (intOf i).toNat)
  case atStart => exact ⟨0, Nat.zero_le _, rfl, rfl, Below.refl _ _⟩
  case round =>
    obtain ⟨k, hk, rfl, hp, hb⟩ := hrel
    have HP := Lib.hid hp
    clear hp
    by_cases hlt : k < 6
    · obtain ⟨s, hsk⟩ : ∃ s, l[k]? = some s := ⟨_, List.getElem?_eq_getElem (by rw [HL.out]; exact hlt)⟩
      obtain ⟨ad, rfl, hab, c1, c2⟩ := (hr.below hb).span hsk
      have HD := Lib.hid (dropCons hsk)
      clear hsk
      obtain ⟨y, z⟩ := s
      simp only at c1 c2
      have hbn := below_self hb (below_new wr (.cells #[.int .i64 y, .int .i64 z] 88))
      by_cases h1 : z = c
      · have hX := show (x, ok) = (y, true) by rw [← HV.out, HP.out, HD.out]; exact if_pos h1
        simp only [Prod.mk.injEq] at hX
        obtain ⟨rfl, rfl⟩ := hX
        subst h1
        go_wp2
        go_ret2
        exact ⟨rfl, below_self hb1 hbn⟩
      · have HF := Lib.hid (show unpR c l = unpR c (l.drop (k + 1)) by rw [HP.out, HD.out]; exact if_neg h1)
        have g1 : (z == c) = false := by simp [h1]
        clear h1
        go_wp2
        go_roundw
        case rel => exact ⟨k + 1, by omega, by go_num, HF.out, hbn⟩
        case measure => simp [intOf]; omega
    · have hX := show (x, ok) = (0, false) by rw [← HV.out, HP.out, List.drop_eq_nil_of_le (by rw [HL.out]; omega)]; rfl
      simp only [Prod.mk.injEq] at hX
      obtain ⟨rfl, rfl⟩ := hX
      go_wp2
      go_ret2
      exact ⟨rfl, below_self hb1 hb⟩
set_option maxRecDepth 100000 in
set_option maxHeartbeats 1000000 in
theorem fmAccent_any (m x : Int) (d ok : Bool) (hv : accF m d = (x, ok)) (w : World) :
    Calls Try.prog 32 #[.int .i64 m, .bool d] w fun e w' => e = .returned (.tuple #[.int .i64 x, .bool ok]) ∧ Below w.heap.size w w' := by
  rw [accF_eq] at hv
  have HV := Lib.hid hv
  clear hv
  go_enter Try.func32, Try.ntmps32
  go_wp2_with fail
  refine (accents_any _).mono ?_
  rintro e w1 ⟨⟨A, rfl, hr⟩, hb1⟩
  have HL := Lib.hid (show accL.length = 8 from rfl)
  obtain ⟨l, hl⟩ : ∃ l, accL = l := ⟨_, rfl⟩
  rw [hl] at HV HL hr
  clear hl
  go_wp2
  go_loopw [10] (fun i wr => ∃ (k : Nat), k ≤ 8 ∧ i = .int .i64 k ∧ accP m d l = accP m d (l.drop k) ∧ Below w1.heap.size w1 wr) (fun i _ => 8 - (intOf i).toNat)
  case atStart => exact ⟨0, Nat.zero_le _, rfl, rfl, Below.refl _ _⟩
  case round =>
    obtain ⟨k, hk, rfl, hp, hb⟩ := hrel
    have HP := Lib.hid hp
    clear hp
    by_cases hlt : k < 8
    · obtain ⟨s, hsk⟩ : ∃ s, l[k]? = some s := ⟨_, List.getElem?_eq_getElem (by rw [HL.out]; exact hlt)⟩
      obtain ⟨ad, rfl, hab, c1, c2, c3⟩ := (hr.below hb).rg hsk
      have HD := Lib.hid (dropCons hsk)
      clear hsk
      obtain ⟨y, f1, f2⟩ := s
      simp only at c1 c2 c3
      have hbn := below_self hb (below_new wr (.cells #[.int .i64 y, .int .i64 f1, .int .i64 f2] 84))
      by_cases h1 : y = m
      · cases d with
        | true =>
          have hX := show (x, ok) = (f2, decide (f2 ≠ 0)) by rw [← HV.out, HP.out, HD.out, accP, if_pos h1]; rfl
          simp only [Prod.mk.injEq] at hX
          obtain ⟨rfl, hok⟩ := hX
          have HOK := Lib.hid hok
          clear hok
          subst h1
          have g1 : (y != y) = false := by simp
          go_wp2
          go_quiet (fail)
          go_wp2
          go_ret2
          exact ⟨by rw [HOK.out]; simp [bne_dec], below_self hb1 (below_drewN hbn _)⟩
        | false =>
          have hX := show (x, ok) = (f1, decide (f1 ≠ 0)) by rw [← HV.out, HP.out, HD.out, accP, if_pos h1]; rfl
          simp only [Prod.mk.injEq] at hX
          obtain ⟨rfl, hok⟩ := hX
          have HOK := Lib.hid hok
          clear hok
          subst h1
          have g1 : (y != y) = false := by simp
          go_wp2
          go_quiet (fail)
          go_wp2
          go_ret2
          exact ⟨by rw [HOK.out]; simp [bne_dec], below_self hb1 (below_drewN hbn _)⟩
      · have HF := Lib.hid (show accP m d l = accP m d (l.drop (k + 1)) by rw [HP.out, HD.out]; exact if_neg h1)
        have g1 : (y != m) = true := by simp [h1]
        clear h1
        go_wp2
        go_roundw
        case rel => exact ⟨k + 1, by omega, by go_num, HF.out, hbn⟩
        case measure => simp [intOf]; omega
    · have hX := show (x, ok) = (0, false) by rw [← HV.out, HP.out, List.drop_eq_nil_of_le (by rw [HL.out]; omega)]; rfl
      simp only [Prod.mk.injEq] at hX
      obtain ⟨rfl, rfl⟩ := hX
      go_wp2
      go_ret2
      exact ⟨rfl, below_self hb1 hb⟩
end Go.Proofs.Ytfobhnpmaooalaa
