/- The reference's Canon, Mirror, Bracket and Match of codes. -/
import Derived.Test.YtpddjojgcenlkaaPrLs
namespace Go.Proofs.Ytpddjojgcenlkaa
open Go.RowKit
set_option maxRecDepth 100000 in
set_option maxHeartbeats 1000000 in
theorem refCanon_any (q : Int) (w : World) : Calls Try.prog 32 #[.int .i64 q] w fun e w' => e = .returned (.int .i64 (canF q)) ∧ Below w.heap.size w w' := by
  have HV := Lib.hid (canF_eq q)
  go_enter Try.func32, Try.ntmps32
  go_wp2_with fail
  refine (alike_any _).mono ?_
  rintro e w1 ⟨⟨A, rfl, hr⟩, hb1⟩
  have HL := Lib.hid (show aliL.length = 2 from rfl)
  obtain ⟨l, hl⟩ : ∃ l, aliL = l := ⟨_, rfl⟩
  rw [hl] at HV HL hr
  clear hl
  go_wp2
  go_loopw [4] (fun i wr => ∃ (k : Nat), k ≤ 2 ∧ i = .int .i64 k ∧ canR q l = canR q (l.drop k) ∧ wr = w1) (fun i _ => 2 - (intOf i).toNat)
  case atStart => exact ⟨0, Nat.zero_le _, rfl, rfl, rfl⟩
  case round =>
    obtain ⟨k, hk, rfl, hp, rfl⟩ := hrel
    have HP := Lib.hid hp
    clear hp
    by_cases hlt : k < 2
    · obtain ⟨s, hsk⟩ : ∃ s, l[k]? = some s := ⟨_, List.getElem?_eq_getElem (by rw [HL.out]; exact hlt)⟩
      obtain ⟨ad, rfl, hab, c1, c2⟩ := hr.span hsk
      have HD := Lib.hid (dropCons hsk)
      clear hsk
      obtain ⟨x, y⟩ := s
      simp only at c1 c2
      by_cases h1 : x = q
      · have HF := Lib.hid (show canF q = y by rw [HV.out, HP.out, HD.out]; exact if_pos h1)
        subst h1
        go_wp2
        go_ret
        exact ⟨retI HF.out.symm, hb1⟩
      · have HF := Lib.hid (show canR q l = canR q (l.drop (k + 1)) by rw [HP.out, HD.out]; exact if_neg h1)
        have g1 : (x == q) = false := by simp [h1]
        clear h1
        go_wp2
        go_roundw
        case rel => exact ⟨k + 1, by omega, by go_num, HF.out, trivial⟩
        case measure => simp [intOf]; omega
    · have HF := Lib.hid (show canF q = q by rw [HV.out, HP.out, List.drop_eq_nil_of_le (by rw [HL.out]; omega)]; rfl)
      go_wp2
      go_ret
      exact ⟨retI HF.out.symm, hb1⟩

set_option maxRecDepth 100000 in
set_option maxHeartbeats 1000000 in
theorem refBracket_any (q p v : Int) (hv : braF q = (p, v)) (w : World) : Calls Try.prog 17 #[.int .i64 q] w fun e w' => e = .returned (.tuple #[.int .i64 p, .int .i64 v]) ∧ Below w.heap.size w w' := by
  have HV := Lib.hid (hv.symm.trans (braF_eq q))
  clear hv
  go_enter Try.func17, Try.ntmps17
  go_wp2_with fail
  refine (brackets_any _).mono ?_
  rintro e w1 ⟨⟨A, rfl, hr⟩, hb1⟩
  have HL := Lib.hid (show braL.length = 43 from rfl)
  obtain ⟨l, hl⟩ : ∃ l, braL = l := ⟨_, rfl⟩
  rw [hl] at HV HL hr
  clear hl
  go_wp2
  go_loopw [5] (fun i wr => ∃ (k : Nat), k ≤ 43 ∧ i = .int .i64 k ∧ braR q l = braR q (l.drop k) ∧ wr = w1) (fun i _ => 43 - (intOf i).toNat)
  case atStart => exact ⟨0, Nat.zero_le _, rfl, rfl, rfl⟩
  case round =>
    obtain ⟨k, hk, rfl, hp, rfl⟩ := hrel
    have HP := Lib.hid hp
    clear hp
    by_cases hlt : k < 43
    · obtain ⟨s, hsk⟩ : ∃ s, l[k]? = some s := ⟨_, List.getElem?_eq_getElem (by rw [HL.out]; exact hlt)⟩
      obtain ⟨ad, rfl, hab, c1, c2⟩ := hr.span hsk
      have HD := Lib.hid (dropCons hsk)
      clear hsk
      obtain ⟨x, y⟩ := s
      simp only at c1 c2
      by_cases h1 : x = q
      · have hF := show (p, v) = (1, canF y) by rw [canF_eq, HV.out, HP.out, HD.out]; exact if_pos h1
        injection hF with e1 e2
        subst e1 e2
        subst h1
        go_wp2_with fail
        refine (refCanon_any y _).mono ?_
        rintro e w2 ⟨rfl, hb⟩
        have hb2 := below_self hb1 hb
        go_wp2
        go_ret2
        exact ⟨rfl, hb2⟩
      · by_cases h2 : y = q
        · have hF := show (p, v) = (2, canF q) by rw [canF_eq, HV.out, HP.out, HD.out]; exact (if_neg h1).trans (if_pos h2)
          injection hF with e1 e2
          subst e1 e2
          have g1 : (x == q) = false := by simp [h1]
          clear h1
          subst h2
          go_wp2_with fail
          refine (refCanon_any y _).mono ?_
          rintro e w2 ⟨rfl, hb⟩
          have hb2 := below_self hb1 hb
          go_wp2
          go_ret2
          exact ⟨rfl, hb2⟩
        · have HF := Lib.hid (show braR q l = braR q (l.drop (k + 1)) by rw [HP.out, HD.out]; exact (if_neg h1).trans (if_neg h2))
          have g1 : (x == q) = false := by simp [h1]
          have g2 : (y == q) = false := by simp [h2]
          clear h1 h2
          go_wp2
          go_roundw
          case rel => exact ⟨k + 1, by omega, by go_num, HF.out, trivial⟩
          case measure => simp [intOf]; omega
    · have hF := show (p, v) = ((0 : Int), (0 : Int)) by rw [HV.out, HP.out, List.drop_eq_nil_of_le (by rw [HL.out]; omega)]; rfl
      injection hF with e1 e2
      subst e1 e2
      go_wp2
      go_ret2
      exact ⟨rfl, hb1⟩
set_option maxRecDepth 100000 in
set_option maxHeartbeats 1000000 in
theorem refMatch_any (a b : Int) (w : World) : Calls Try.prog 18 #[.int .i64 a, .int .i64 b] w fun e w' => e = .returned (.bool (bmF a b)) ∧ Below w.heap.size w w' := by
  obtain ⟨p, v, h1⟩ : ∃ p v, braF a = (p, v) := ⟨_, _, rfl⟩
  obtain ⟨p', v', h2⟩ : ∃ p v, braF b = (p, v) := ⟨_, _, rfl⟩
  have HV := Lib.hid (bmF_of h1 h2)
  have H1 := Lib.hid h1
  have H2 := Lib.hid h2
  clear h1 h2
  go_enter Try.func18, Try.ntmps18
  go_wp2_with fail
  refine (refBracket_any a p v H1.out _).mono ?_
  rintro e w1 ⟨rfl, hb1⟩
  go_wp2_with fail
  refine (refBracket_any b p' v' H2.out _).mono ?_
  rintro e w2 ⟨rfl, hb⟩
  have hb2 := below_self hb1 hb
  have hc : p ≠ 1 ∨ (p = 1 ∧ p' ≠ 2) ∨ (p = 1 ∧ p' = 2 ∧ v ≠ v') ∨ (p = 1 ∧ p' = 2 ∧ v = v') := by omega
  rcases hc with h | ⟨h, h'⟩ | ⟨h, h', h''⟩ | ⟨h, h', h''⟩
  · have HF := Lib.hid (show bmF a b = false by rw [HV.out]; simp [h])
    have g1 : (p == 1) = false := by simp [h]
    clear h
    go_wp2
    all_goals (go_ret; exact ⟨retB (by rw [HF.out]), hb2⟩)
  · have HF := Lib.hid (show bmF a b = false by rw [HV.out]; simp [h'])
    have g2 : (p' == 2) = false := by simp [h']
    clear h'
    subst h
    go_wp2
    all_goals (go_ret; exact ⟨retB (by rw [HF.out]), hb2⟩)
  · have HF := Lib.hid (show bmF a b = false by rw [HV.out]; simp [h''])
    have g2 : (v == v') = false := by simp [h'']
    clear h''
    subst h h'
    go_wp2
    all_goals (go_ret; exact ⟨retB (by rw [HF.out]), hb2⟩)
  · have HF := Lib.hid (show bmF a b = true by rw [HV.out]; simp [h, h', h''])
    subst h h' h''
    go_wp2
    all_goals (go_ret; exact ⟨retB (by rw [HF.out]), hb2⟩)
end Go.Proofs.Ytpddjojgcenlkaa
