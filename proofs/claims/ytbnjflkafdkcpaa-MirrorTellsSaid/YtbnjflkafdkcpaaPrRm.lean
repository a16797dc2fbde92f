/- The reference of Mirror, walked. -/
import Derived.Test.YtbnjflkafdkcpaaPrNw
import Derived.Test.YtbnjflkafdkcpaaPrMs
namespace Go.Proofs.Ytbnjflkafdkcpaa
open Go.RowKit

set_option maxRecDepth 100000 in
set_option maxHeartbeats 1000000 in
theorem refMirror_any (q : Int) (w : World) : Calls Try.prog 38 #[.int .i64 q] w fun e w' => e = .returned (.int .i64 (mirF q)) ∧ Below w.heap.size w w' := by
  have HV := Lib.hid (mirF_eq q)
  go_enter Try.func38, Try.ntmps38
  go_wp2_with fail
  refine (mirrors_any _).mono ?_
  rintro e w1 ⟨⟨A, rfl, hr⟩, hb1⟩
  have HL := Lib.hid (show mirL.length = 51 from rfl)
  obtain ⟨l, hl⟩ : ∃ l, mirL = l := ⟨_, rfl⟩
  rw [hl] at HV HL hr
  clear hl
  go_wp2
  go_loopw [4] (fun i wr => ∃ (k : Nat), k ≤ 51 ∧ i = .int .i64 k ∧ mirR q l = mirR q (l.drop k) ∧ wr = w1) (fun i _ => 51 - (intOf i).toNat)
  case atStart => exact ⟨0, Nat.zero_le _, rfl, rfl, rfl⟩
  case round =>
    obtain ⟨k, hk, rfl, hp, rfl⟩ := hrel
    have HP := Lib.hid hp
    clear hp
    by_cases hlt : k < 51
    · obtain ⟨s, hsk⟩ : ∃ s, l[k]? = some s := ⟨_, List.getElem?_eq_getElem (by rw [HL.out]; exact hlt)⟩
      obtain ⟨ad, rfl, hab, c1, c2⟩ := hr.span hsk
      have HD := Lib.hid (dropCons hsk)
      clear hsk
      obtain ⟨x, y⟩ := s
      simp only at c1 c2
      by_cases h1 : x = q
      · have HF := Lib.hid (show mirF q = y by rw [HV.out, HP.out, HD.out]; exact if_pos h1)
        subst h1
        go_wp2
        go_ret
        exact ⟨retI HF.out.symm, hb1⟩
      · by_cases h2 : y = q
        · have HF := Lib.hid (show mirF q = x by rw [HV.out, HP.out, HD.out]; exact (if_neg h1).trans (if_pos h2))
          have g1 : (x == q) = false := by simp [h1]
          clear h1
          subst h2
          go_wp2
          go_ret
          exact ⟨retI HF.out.symm, hb1⟩
        · have HF := Lib.hid (show mirR q l = mirR q (l.drop (k + 1)) by rw [HP.out, HD.out]; exact (if_neg h1).trans (if_neg h2))
          have g1 : (x == q) = false := by simp [h1]
          have g2 : (y == q) = false := by simp [h2]
          clear h1 h2
          go_wp2
          go_roundw
          case rel => exact ⟨k + 1, by omega, by go_num, HF.out, trivial⟩
          case measure => simp [intOf]; omega
    · have HF := Lib.hid (show mirF q = q by rw [HV.out, HP.out, List.drop_eq_nil_of_le (by rw [HL.out]; omega)]; rfl)
      go_wp2
      go_ret
      exact ⟨retI HF.out.symm, hb1⟩
end Go.Proofs.Ytbnjflkafdkcpaa
