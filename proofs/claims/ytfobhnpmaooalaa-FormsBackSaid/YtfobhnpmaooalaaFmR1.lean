/- The reference's Ligate, Parted, Accent, Mark, Pile, Unpile. -/
import Derived.Test.YtfobhnpmaooalaaFmP6
namespace Go.Proofs.Ytfobhnpmaooalaa
open Go.RowKit

set_option maxRecDepth 100000 in
set_option maxHeartbeats 1000000 in
theorem refLigate_any (a f v : Int) (ok : Bool) (hv : ligF a f = (v, ok)) (w : World) :
    Calls Try.prog 24 #[.int .i64 a, .int .i64 f] w fun e w' => e = .returned (.tuple #[.int .i64 v, .bool ok]) ∧ Below w.heap.size w w' := by
  have hv' : ligR a f ligL = (v, ok) := hv
  have HV := Lib.hid hv'
  clear hv hv'
  go_enter Try.func24, Try.ntmps24
  go_wp2_with fail
  refine (ligatures_any _).mono ?_
  rintro e w1 ⟨⟨A, rfl, hr⟩, hb1⟩
  have HL := Lib.hid (show ligL.length = 4 from rfl)
  obtain ⟨l, hl⟩ : ∃ l, ligL = l := ⟨_, rfl⟩
  rw [hl] at HV HL hr
  clear hl
  go_wp2
  go_loopw [7] (fun i wr => ∃ (k : Nat), k ≤ 4 ∧ i = .int .i64 k ∧ ligR a f l = ligR a f (l.drop k) ∧ wr = w1) (fun i _ => 4 - (intOf i).toNat)
  case atStart => exact ⟨0, Nat.zero_le _, rfl, rfl, rfl⟩
  case round =>
    obtain ⟨k, hk, rfl, hp, rfl⟩ := hrel
    have HP := Lib.hid hp
    clear hp
    by_cases hlt : k < 4
    · obtain ⟨s, hsk⟩ : ∃ s, l[k]? = some s := ⟨_, List.getElem?_eq_getElem (by rw [HL.out]; exact hlt)⟩
      obtain ⟨ad, rfl, hab, c1, c2, c3⟩ := hr.rg hsk
      have HD := Lib.hid (dropCons hsk)
      clear hsk
      obtain ⟨y, f1, f2⟩ := s
      simp only at c1 c2 c3
      by_cases h1 : y = a
      · by_cases h2 : f = 1
        · have hX := show (v, ok) = (f1, true) by rw [← HV.out, HP.out, HD.out]; exact (if_pos h1).trans (if_pos h2)
          simp only [Prod.mk.injEq] at hX
          obtain ⟨rfl, rfl⟩ := hX
          subst h1 h2
          go_wp2
          go_ret2
          exact ⟨rfl, hb1⟩
        · by_cases h3 : f = 2
          · have hX := show (v, ok) = (f2, true) by rw [← HV.out, HP.out, HD.out]; exact (if_pos h1).trans ((if_neg h2).trans (if_pos h3))
            simp only [Prod.mk.injEq] at hX
            obtain ⟨rfl, rfl⟩ := hX
            subst h1 h3
            go_wp2
            go_ret2
            exact ⟨rfl, hb1⟩
          · have HF := Lib.hid (show ligR a f l = ligR a f (l.drop (k + 1)) by rw [HP.out, HD.out]; exact (if_pos h1).trans ((if_neg h2).trans (if_neg h3)))
            have g2 : (f == 1) = false := by simp [h2]
            have g3 : (f == 2) = false := by simp [h3]
            subst h1
            clear h2 h3
            go_wp2
            go_roundw
            case rel => exact ⟨k + 1, by omega, by go_num, HF.out, trivial⟩
            case measure => simp [intOf]; omega
      · have HF := Lib.hid (show ligR a f l = ligR a f (l.drop (k + 1)) by rw [HP.out, HD.out]; exact if_neg h1)
        have g1 : (y == a) = false := by simp [h1]
        clear h1
        go_wp2
        go_roundw
        case rel => exact ⟨k + 1, by omega, by go_num, HF.out, trivial⟩
        case measure => simp [intOf]; omega
    · have hX := show (v, ok) = (0, false) by rw [← HV.out, HP.out, List.drop_eq_nil_of_le (by rw [HL.out]; omega)]; rfl
      simp only [Prod.mk.injEq] at hX
      obtain ⟨rfl, rfl⟩ := hX
      go_wp2
      go_ret2
      exact ⟨rfl, hb1⟩
set_option maxRecDepth 100000 in
set_option maxHeartbeats 1000000 in
theorem refParted_any (c x q : Int) (ok : Bool) (hv : parF c = (x, q, ok)) (w : World) :
    Calls Try.prog 29 #[.int .i64 c] w fun e w' => e = .returned (.tuple #[.int .i64 x, .int .i64 q, .bool ok]) ∧ Below w.heap.size w w' := by
  have hv' : parR c ligL = (x, q, ok) := hv
  have HV := Lib.hid hv'
  clear hv hv'
  go_enter Try.func29, Try.ntmps29
  go_wp2_with fail
  refine (ligatures_any _).mono ?_
  rintro e w1 ⟨⟨A, rfl, hr⟩, hb1⟩
  have HL := Lib.hid (show ligL.length = 4 from rfl)
  obtain ⟨l, hl⟩ : ∃ l, ligL = l := ⟨_, rfl⟩
  rw [hl] at HV HL hr
  clear hl
  go_wp2
  go_loopw [6] (fun i wr => ∃ (k : Nat), k ≤ 4 ∧ i = .int .i64 k ∧ parR c l = parR c (l.drop k) ∧ wr = w1) (fun i _ => 4 - (intOf i).toNat)
  case atStart => exact ⟨0, Nat.zero_le _, rfl, rfl, rfl⟩
  case round =>
    obtain ⟨k, hk, rfl, hp, rfl⟩ := hrel
    have HP := Lib.hid hp
    clear hp
    by_cases hlt : k < 4
    · obtain ⟨s, hsk⟩ : ∃ s, l[k]? = some s := ⟨_, List.getElem?_eq_getElem (by rw [HL.out]; exact hlt)⟩
      obtain ⟨ad, rfl, hab, c1, c2, c3⟩ := hr.rg hsk
      have HD := Lib.hid (dropCons hsk)
      clear hsk
      obtain ⟨y, f1, f2⟩ := s
      simp only at c1 c2 c3
      by_cases h1 : f1 = c
      · have hX := show (x, q, ok) = (y, 1, true) by rw [← HV.out, HP.out, HD.out]; exact if_pos h1
        simp only [Prod.mk.injEq] at hX
        obtain ⟨rfl, rfl, rfl⟩ := hX
        subst h1
        go_wp2
        go_ret3
        exact ⟨rfl, hb1⟩
      · by_cases h2 : f2 = c
        · have hX := show (x, q, ok) = (y, 2, true) by rw [← HV.out, HP.out, HD.out]; exact (if_neg h1).trans (if_pos h2)
          simp only [Prod.mk.injEq] at hX
          obtain ⟨rfl, rfl, rfl⟩ := hX
          have g1 : (f1 == c) = false := by simp [h1]
          clear h1
          subst h2
          go_wp2
          go_ret3
          exact ⟨rfl, hb1⟩
        · have HF := Lib.hid (show parR c l = parR c (l.drop (k + 1)) by rw [HP.out, HD.out]; exact (if_neg h1).trans (if_neg h2))
          have g1 : (f1 == c) = false := by simp [h1]
          have g2 : (f2 == c) = false := by simp [h2]
          clear h1 h2
          go_wp2
          go_roundw
          case rel => exact ⟨k + 1, by omega, by go_num, HF.out, trivial⟩
          case measure => simp [intOf]; omega
    · have hX := show (x, q, ok) = (0, 0, false) by rw [← HV.out, HP.out, List.drop_eq_nil_of_le (by rw [HL.out]; omega)]; rfl
      simp only [Prod.mk.injEq] at hX
      obtain ⟨rfl, rfl, rfl⟩ := hX
      go_wp2
      go_ret3
      exact ⟨rfl, hb1⟩
set_option maxRecDepth 100000 in
set_option maxHeartbeats 1000000 in
theorem refMark_any (c x : Int) (q ok : Bool) (hv : marF c = (x, q, ok)) (w : World) :
    Calls Try.prog 35 #[.int .i64 c] w fun e w' => e = .returned (.tuple #[.int .i64 x, .bool q, .bool ok]) ∧ Below w.heap.size w w' := by
  have hv' : marR c accL = (x, q, ok) := hv
  have HV := Lib.hid hv'
  clear hv hv'
  go_enter Try.func35, Try.ntmps35
  go_wp2_with fail
  refine (accents_any _).mono ?_
  rintro e w1 ⟨⟨A, rfl, hr⟩, hb1⟩
  have HL := Lib.hid (show accL.length = 8 from rfl)
  obtain ⟨l, hl⟩ : ∃ l, accL = l := ⟨_, rfl⟩
  rw [hl] at HV HL hr
  clear hl
  go_wp2
  go_loopw [6] (fun i wr => ∃ (k : Nat), k ≤ 8 ∧ i = .int .i64 k ∧ marR c l = marR c (l.drop k) ∧ wr = w1) (fun i _ => 8 - (intOf i).toNat)
  case atStart => exact ⟨0, Nat.zero_le _, rfl, rfl, rfl⟩
  case round =>
    obtain ⟨k, hk, rfl, hp, rfl⟩ := hrel
    have HP := Lib.hid hp
    clear hp
    by_cases hlt : k < 8
    · obtain ⟨s, hsk⟩ : ∃ s, l[k]? = some s := ⟨_, List.getElem?_eq_getElem (by rw [HL.out]; exact hlt)⟩
      obtain ⟨ad, rfl, hab, c1, c2, c3⟩ := hr.rg hsk
      have HD := Lib.hid (dropCons hsk)
      clear hsk
      obtain ⟨y, f1, f2⟩ := s
      simp only at c1 c2 c3
      by_cases h1 : f1 = c
      · have hX := show (x, q, ok) = (y, false, true) by rw [← HV.out, HP.out, HD.out]; exact if_pos h1
        simp only [Prod.mk.injEq] at hX
        obtain ⟨rfl, rfl, rfl⟩ := hX
        subst h1
        go_wp2
        go_ret3
        exact ⟨rfl, hb1⟩
      · by_cases h0 : c = 0
        · have HF := Lib.hid (show marR c l = marR c (l.drop (k + 1)) by rw [HP.out, HD.out]; exact (if_neg h1).trans (if_neg (fun e => e.1 h0)))
          subst h0
          have g1 : (f1 == 0) = false := by simp [h1]
          clear h1
          go_wp2
          go_roundw
          case rel => exact ⟨k + 1, by omega, by go_num, HF.out, trivial⟩
          case measure => simp [intOf]; omega
        · by_cases h2 : f2 = c
          · have hX := show (x, q, ok) = (y, true, true) by rw [← HV.out, HP.out, HD.out]; exact (if_neg h1).trans (if_pos ⟨h0, h2⟩)
            simp only [Prod.mk.injEq] at hX
            obtain ⟨rfl, rfl, rfl⟩ := hX
            have g1 : (f1 == c) = false := by simp [h1]
            have g0 : (c != 0) = true := by simp [h0]
            clear h1 h0
            subst h2
            go_wp2
            go_ret3
            exact ⟨rfl, hb1⟩
          · have HF := Lib.hid (show marR c l = marR c (l.drop (k + 1)) by rw [HP.out, HD.out]; exact (if_neg h1).trans (if_neg (fun e => h2 e.2)))
            have g1 : (f1 == c) = false := by simp [h1]
            have g2 : (f2 == c) = false := by simp [h2]
            have g0 : (c != 0) = true := by simp [h0]
            clear h1 h2 h0
            go_wp2
            go_roundw
            case rel => exact ⟨k + 1, by omega, by go_num, HF.out, trivial⟩
            case measure => simp [intOf]; omega
    · have hX := show (x, q, ok) = (0, false, false) by rw [← HV.out, HP.out, List.drop_eq_nil_of_le (by rw [HL.out]; omega)]; rfl
      simp only [Prod.mk.injEq] at hX
      obtain ⟨rfl, rfl, rfl⟩ := hX
      go_wp2
      go_ret3
      exact ⟨rfl, hb1⟩
set_option maxRecDepth 100000 in
set_option maxHeartbeats 1000000 in
theorem refAccent_any (m x : Int) (d ok : Bool) (hv : accF m d = (x, ok)) (w : World) :
    Calls Try.prog 33 #[.int .i64 m, .bool d] w fun e w' => e = .returned (.tuple #[.int .i64 x, .bool ok]) ∧ Below w.heap.size w w' := by
  have hv' : accR m d accL = (x, ok) := hv
  have HV := Lib.hid hv'
  clear hv hv'
  go_enter Try.func33, Try.ntmps33
  go_wp2_with fail
  refine (accents_any _).mono ?_
  rintro e w1 ⟨⟨A, rfl, hr⟩, hb1⟩
  have HL := Lib.hid (show accL.length = 8 from rfl)
  obtain ⟨l, hl⟩ : ∃ l, accL = l := ⟨_, rfl⟩
  rw [hl] at HV HL hr
  clear hl
  go_wp2
  go_loopw [7] (fun i wr => ∃ (k : Nat), k ≤ 8 ∧ i = .int .i64 k ∧ accR m d l = accR m d (l.drop k) ∧ wr = w1) (fun i _ => 8 - (intOf i).toNat)
  case atStart => exact ⟨0, Nat.zero_le _, rfl, rfl, rfl⟩
  case round =>
    obtain ⟨k, hk, rfl, hp, rfl⟩ := hrel
    have HP := Lib.hid hp
    clear hp
    by_cases hlt : k < 8
    · obtain ⟨s, hsk⟩ : ∃ s, l[k]? = some s := ⟨_, List.getElem?_eq_getElem (by rw [HL.out]; exact hlt)⟩
      obtain ⟨ad, rfl, hab, c1, c2, c3⟩ := hr.rg hsk
      have HD := Lib.hid (dropCons hsk)
      clear hsk
      obtain ⟨y, f1, f2⟩ := s
      simp only at c1 c2 c3
      by_cases h1 : y = m
      · cases d with
        | true =>
          have hX := show (x, ok) = (f2, decide (f2 ≠ 0)) by rw [← HV.out, HP.out, HD.out]; exact (if_pos h1).trans (if_pos rfl)
          simp only [Prod.mk.injEq] at hX
          obtain ⟨rfl, hok⟩ := hX
          have HOK := Lib.hid hok
          clear hok
          subst h1
          have g1 : (y != y) = false := by simp
          go_wp2
          go_quiet (fail)
          go_wp2
          go_ret2
          exact ⟨by rw [HOK.out]; simp [bne_dec], below_drewN hb1 _⟩
        | false =>
          have hX := show (x, ok) = (f1, true) by rw [← HV.out, HP.out, HD.out]; exact (if_pos h1).trans (if_neg (by decide))
          simp only [Prod.mk.injEq] at hX
          obtain ⟨rfl, rfl⟩ := hX
          subst h1
          have g1 : (y != y) = false := by simp
          go_wp2
          go_ret2
          exact ⟨rfl, hb1⟩
      · have HF := Lib.hid (show accR m d l = accR m d (l.drop (k + 1)) by rw [HP.out, HD.out]; exact if_neg h1)
        have g1 : (y != m) = true := by simp [h1]
        clear h1
        go_wp2
        go_roundw
        case rel => exact ⟨k + 1, by omega, by go_num, HF.out, trivial⟩
        case measure => simp [intOf]; omega
    · have hX := show (x, ok) = (0, false) by rw [← HV.out, HP.out, List.drop_eq_nil_of_le (by rw [HL.out]; omega)]; rfl
      simp only [Prod.mk.injEq] at hX
      obtain ⟨rfl, rfl⟩ := hX
      go_wp2
      go_ret2
      exact ⟨rfl, hb1⟩
set_option maxRecDepth 100000 in
set_option maxHeartbeats 1000000 in
theorem refPile_any (c x : Int) (ok : Bool) (hv : pilF c = (x, ok)) (w : World) :
    Calls Try.prog 37 #[.int .i64 c] w fun e w' => e = .returned (.tuple #[.int .i64 x, .bool ok]) ∧ Below w.heap.size w w' := by
  have hv' : pilR c pilL = (x, ok) := hv
  have HV := Lib.hid hv'
  clear hv hv'
  go_enter Try.func37, Try.ntmps37
  go_wp2_with fail
  refine (piles_any _).mono ?_
  rintro e w1 ⟨⟨A, rfl, hr⟩, hb1⟩
  have HL := Lib.hid (show pilL.length = 6 from rfl)
  obtain ⟨l, hl⟩ : ∃ l, pilL = l := ⟨_, rfl⟩
  rw [hl] at HV HL hr
  clear hl
  go_wp2
  go_loopw [5] (fun i wr => ∃ (k : Nat), k ≤ 6 ∧ i = .int .i64 k ∧ pilR c l = pilR c (l.drop k) ∧ wr = w1) (fun i _ => 6 - (intOf i).toNat)
  case atStart => exact ⟨0, Nat.zero_le _, rfl, rfl, rfl⟩
  case round =>
    obtain ⟨k, hk, rfl, hp, rfl⟩ := hrel
    have HP := Lib.hid hp
    clear hp
    by_cases hlt : k < 6
    · obtain ⟨s, hsk⟩ : ∃ s, l[k]? = some s := ⟨_, List.getElem?_eq_getElem (by rw [HL.out]; exact hlt)⟩
      obtain ⟨ad, rfl, hab, c1, c2⟩ := hr.span hsk
      have HD := Lib.hid (dropCons hsk)
      clear hsk
      obtain ⟨y, z⟩ := s
      simp only at c1 c2
      by_cases h1 : y = c
      · have hX := show (x, ok) = (z, true) by rw [← HV.out, HP.out, HD.out]; exact if_pos h1
        simp only [Prod.mk.injEq] at hX
        obtain ⟨rfl, rfl⟩ := hX
        subst h1
        go_wp2
        go_ret2
        exact ⟨rfl, hb1⟩
      · have HF := Lib.hid (show pilR c l = pilR c (l.drop (k + 1)) by rw [HP.out, HD.out]; exact if_neg h1)
        have g1 : (y == c) = false := by simp [h1]
        clear h1
        go_wp2
        go_roundw
        case rel => exact ⟨k + 1, by omega, by go_num, HF.out, trivial⟩
        case measure => simp [intOf]; omega
    · have hX := show (x, ok) = (0, false) by rw [← HV.out, HP.out, List.drop_eq_nil_of_le (by rw [HL.out]; omega)]; rfl
      simp only [Prod.mk.injEq] at hX
      obtain ⟨rfl, rfl⟩ := hX
      go_wp2
      go_ret2
      exact ⟨rfl, hb1⟩
set_option maxRecDepth 100000 in
set_option maxHeartbeats 1000000 in
theorem refUnpile_any (c x : Int) (ok : Bool) (hv : unpF c = (x, ok)) (w : World) :
    Calls Try.prog 39 #[.int .i64 c] w fun e w' => e = .returned (.tuple #[.int .i64 x, .bool ok]) ∧ Below w.heap.size w w' := by
  have hv' : unpR c pilL = (x, ok) := hv
  have HV := Lib.hid hv'
  clear hv hv'
  go_enter Try.func39, Try.ntmps39
  go_wp2_with fail
  refine (piles_any _).mono ?_
  rintro e w1 ⟨⟨A, rfl, hr⟩, hb1⟩
  have HL := Lib.hid (show pilL.length = 6 from rfl)
  obtain ⟨l, hl⟩ : ∃ l, pilL = l := ⟨_, rfl⟩
  rw [hl] at HV HL hr
  clear hl
  go_wp2
  go_loopw [5] (fun i wr => ∃ (k : Nat), k ≤ 6 ∧ i = .int .i64 k ∧ unpR c l = unpR c (l.drop k) ∧ wr = w1) (fun i _ => 6 - (intOf i).toNat)
  case atStart => exact ⟨0, Nat.zero_le _, rfl, rfl, rfl⟩
  case round =>
    obtain ⟨k, hk, rfl, hp, rfl⟩ := hrel
    have HP := Lib.hid hp
    clear hp
    by_cases hlt : k < 6
    · obtain ⟨s, hsk⟩ : ∃ s, l[k]? = some s := ⟨_, List.getElem?_eq_getElem (by rw [HL.out]; exact hlt)⟩
      obtain ⟨ad, rfl, hab, c1, c2⟩ := hr.span hsk
      have HD := Lib.hid (dropCons hsk)
      clear hsk
      obtain ⟨y, z⟩ := s
      simp only at c1 c2
      by_cases h1 : z = c
      · have hX := show (x, ok) = (y, true) by rw [← HV.out, HP.out, HD.out]; exact if_pos h1
        simp only [Prod.mk.injEq] at hX
        obtain ⟨rfl, rfl⟩ := hX
        subst h1
        go_wp2
        go_ret2
        exact ⟨rfl, hb1⟩
      · have HF := Lib.hid (show unpR c l = unpR c (l.drop (k + 1)) by rw [HP.out, HD.out]; exact if_neg h1)
        have g1 : (z == c) = false := by simp [h1]
        clear h1
        go_wp2
        go_roundw
        case rel => exact ⟨k + 1, by omega, by go_num, HF.out, trivial⟩
        case measure => simp [intOf]; omega
    · have hX := show (x, ok) = (0, false) by rw [← HV.out, HP.out, List.drop_eq_nil_of_le (by rw [HL.out]; omega)]; rfl
      simp only [Prod.mk.injEq] at hX
      obtain ⟨rfl, rfl⟩ := hX
      go_wp2
      go_ret2
      exact ⟨rfl, hb1⟩
end Go.Proofs.Ytfobhnpmaooalaa
