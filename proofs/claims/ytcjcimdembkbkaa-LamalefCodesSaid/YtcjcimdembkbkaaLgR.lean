/- The reference's Ligate. -/
import Derived.Test.YtcjcimdembkbkaaLgB2
namespace Go.Proofs.Ytcjcimdembkbkaa
open Go.RowKit
set_option maxRecDepth 100000 in
set_option maxHeartbeats 1000000 in
theorem refLigate_any (a f v : Int) (ok : Bool) (hv : ligF a f = (v, ok)) (w : World) :
    Calls Try.prog 51 #[.int .i64 a, .int .i64 f] w fun e w' => e = .returned (.tuple #[.int .i64 v, .bool ok]) ∧ Below w.heap.size w w' := by
  have hv' : ligR a f ligL = (v, ok) := hv
  have HV := Lib.hid hv'
  clear hv hv'
  go_enter Try.func51, Try.ntmps51
  go_wp2_with fail
  refine (ligatures_any _).mono ?_
  rintro e w1 ⟨⟨A, rfl, hr⟩, hb1⟩
  have HL := Lib.hid (show ligL.length = 4 from rfl)
  obtain ⟨l, hl⟩ : ∃ l, ligL = l := ⟨_, rfl⟩
  rw [hl] at HV HL hr
  clear hl
  go_wp2
  go_loopw [7] (fun i wr => ∃ (k : Nat), k ≤ 4 ∧ i = .int .i64 k ∧ ligR a f l = ligR a f (l.drop k) ∧ wr = w1) (fun i _ => 4 - (intOf i).toNat)
  case atStart => exact ⟨0, Nat.zero_le _, rfl, rfl, rfl⟩
  case round =>
    obtain ⟨k, hk, rfl, hp, rfl⟩ := hrel
    have HP := Lib.hid hp
    clear hp
    by_cases hlt : k < 4
    · obtain ⟨s, hsk⟩ : ∃ s, l[k]? = some s := ⟨_, List.getElem?_eq_getElem (by rw [HL.out]; exact hlt)⟩
      obtain ⟨ad, rfl, hab, c1, c2, c3⟩ := hr.rg hsk
      have HD := Lib.hid (dropCons hsk)
      clear hsk
      obtain ⟨y, f1, f2⟩ := s
      simp only at c1 c2 c3
      by_cases h1 : y = a
      · by_cases h2 : f = 1
        · have hX := show (v, ok) = (f1, true) by rw [← HV.out, HP.out, HD.out]; exact (if_pos h1).trans (if_pos h2)
          simp only [Prod.mk.injEq] at hX
          obtain ⟨rfl, rfl⟩ := hX
          subst h1 h2
          go_wp2
          go_ret2
          exact ⟨rfl, hb1⟩
        · by_cases h3 : f = 2
          · have hX := show (v, ok) = (f2, true) by rw [← HV.out, HP.out, HD.out]; exact (if_pos h1).trans ((if_neg h2).trans (if_pos h3))
            simp only [Prod.mk.injEq] at hX
            obtain ⟨rfl, rfl⟩ := hX
            subst h1 h3
            go_wp2
            go_ret2
            exact ⟨rfl, hb1⟩
          · have HF := Lib.hid (show ligR a f l = ligR a f (l.drop (k + 1)) by rw [HP.out, HD.out]; exact (if_pos h1).trans ((if_neg h2).trans (if_neg h3)))
            have g2 : (f == 1) = false := by simp [h2]
            have g3 : (f == 2) = false := by simp [h3]
            subst h1
            clear h2 h3
            go_wp2
            go_roundw
            case rel => exact ⟨k + 1, by omega, by go_num, HF.out, trivial⟩
            case measure => simp [intOf]; omega
      · have HF := Lib.hid (show ligR a f l = ligR a f (l.drop (k + 1)) by rw [HP.out, HD.out]; exact if_neg h1)
        have g1 : (y == a) = false := by simp [h1]
        clear h1
        go_wp2
        go_roundw
        case rel => exact ⟨k + 1, by omega, by go_num, HF.out, trivial⟩
        case measure => simp [intOf]; omega
    · have hX := show (v, ok) = (0, false) by rw [← HV.out, HP.out, List.drop_eq_nil_of_le (by rw [HL.out]; omega)]; rfl
      simp only [Prod.mk.injEq] at hX
      obtain ⟨rfl, rfl⟩ := hX
      go_wp2
      go_ret2
      exact ⟨rfl, hb1⟩
end Go.Proofs.Ytcjcimdembkbkaa
