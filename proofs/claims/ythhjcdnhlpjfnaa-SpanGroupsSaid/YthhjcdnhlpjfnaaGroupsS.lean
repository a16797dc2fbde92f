/- naskhlaw03.SpanGroups returns true for every number and every slice of spans. -/
import Derived.Test.YthhjcdnhlpjfnaaGroupsP
import Derived.Test.YthhjcdnhlpjfnaaGroupsR
import Derived.Test.YthhjcdnhlpjfnaaRevS
import Derived.Test.YthhjcdnhlpjfnaaAwakeS
import Derived.Test.YthhjcdnhlpjfnaaEqS
namespace Go.Proofs.Ythhjcdnhlpjfnaa
open Go.RowKit

theorem groups_len {n : Int} {l : List Sp} (hn : n ≤ 1000) : (groupsS n l).length ≤ 1000 := by
  have h : ∀ f lo p, (groupsGo n l f lo p).length ≤ f := by
    intro f
    induction f with
    | zero => intro lo p; exact Nat.le_refl _
    | succ f ih =>
      intro lo p
      unfold groupsGo
      split
      · have := ih p (p + 1)
        simp only [List.length_cons]; omega
      · have := ih lo (p + 1)
        omega
  have := h n.toNat 0 1
  unfold groupsS
  omega
/-- A sorted list of the right spans within n is there. -/
theorem groups_whole {n : Int} (l : List Sp) (hn : 0 ≤ n) : partsS (groupsS n l) n = true :=
  groups_parts hn (sortR_perm _) (sortR_sorted _)

set_option maxRecDepth 100000 in
set_option maxHeartbeats 4000000 in
theorem spanGroups_any (m : Int) (A : Option Addr) (n c : Nat) (l : List Sp) (w : World) (hf : Fit m) (hr : Rd w 2 A n (cellsS l)) (hn : n ≤ maxLen) :
    Calls Try.prog 3 #[.int .i64 m, .slice A n c] w fun e w' => e = .returned (.bool true) ∧ Below w.heap.size w w' := by
  have hf0 := hf.1
  unfold maxLen at hn
  by_cases hbig : 100 < m ∨ 50 < n
  · by_cases h1 : 100 < m
    · clear hbig
      go_enter Try.func3, Try.ntmps3
      go_wp2_with fail
      refine (awakeS_any _).mono ?_
      rintro e w1 ⟨rfl, hb1⟩
      go_wp2
      go_ret
      exact ⟨rfl, hb1⟩
    · have h2 : 50 < n := by omega
      clear hbig
      go_enter Try.func3, Try.ntmps3
      go_wp2_with fail
      refine (awakeS_any _).mono ?_
      rintro e w1 ⟨rfl, hb1⟩
      go_wp2
      go_ret
      exact ⟨rfl, hb1⟩
  · have h1 : m ≤ 100 := by omega
    have h2 : n ≤ 50 := by omega
    have hgl := groups_len (n := m) (l := l) (by omega)
    have HGM := Lib.hid (show (groupsS m l).length ≤ maxLen by unfold maxLen; omega)
    have HBK := Lib.hid (groups_back m l)
    clear hbig
    go_enter Try.func3, Try.ntmps3
    go_wp2_with fail
    refine (prGroups_any m A n c l w hr (by omega) (by omega) hf0).mono ?_
    rintro e w1 ⟨v, rfl, hv, hb1⟩
    obtain ⟨V, cv, rfl, hcv⟩ := own_form hv
    have hrv := Rd.of_own hv
    clear hv
    go_wp2_with fail
    refine (cloneS_any A n c (cellsS l) w1 (hr.below hb1) (cellsS_one _) (by omega)).mono ?_
    rintro e w2 ⟨u, rfl, hu, hb2⟩
    have hb3 := below_self hb1 hb2
    obtain ⟨U, cu, rfl, hcu⟩ := own_form hu
    -- the reversed copy
    have hrev : Calls Try.prog 14 #[.slice U n cu] w2 fun e w' => e = .returned (.tuple #[]) ∧ Rd w' 2 U n (cellsS l.reverse) ∧ Below w1.heap.size w1 w' := by
      rcases U with _ | ad
      · obtain rfl : n = 0 := by
          rcases hu.2 with ⟨_, h⟩ | ⟨g, cap, cur, e, _⟩
          · exact h
          · cases e
        have hl : l = [] := by
          have := hr.1
          rw [cellsS_len] at this
          exact List.eq_nil_of_length_eq_zero (by omega)
        subst hl
        exact (revNoneS cu w2).mono fun e w' ⟨he, hw⟩ => ⟨he, by subst hw; exact Rd.nil_, by subst hw; exact hb2⟩
      · obtain ⟨g, rfl, hge⟩ : ∃ g, ad = ⟨g, 0, none⟩ ∧ w1.heap.size ≤ g := by
          rcases hu.2 with ⟨e, _⟩ | ⟨g, cap, cur, e, hbg, _⟩
          · cases e
          · injection e with e _ _
            injection e with e
            exact ⟨g, e, hbg⟩
        exact (revS_any hu (by omega)).mono fun e w' ⟨he, ho, hg⟩ => ⟨he, Rd.of_own ho, hb2.grown hg hb2.size (fun k hk => by injection hk with hk; omega)⟩
    have HREV := Lib.hid hrev
    clear hu hrev
    go_wp2_with fail
    refine HREV.out.mono ?_
    rintro e w3 ⟨rfl, hru, hb4⟩
    have hb5 := below_self hb1 hb4
    have hrw := hr.below hb5
    have hrv3 := hrv.below hb4
    clear hrv hb2 hb3 hb4 hb1
    by_cases hneg : 0 ≤ m
    · have HPW := Lib.hid (groups_whole (n := m) l (by omega))
      go_wp2_with fail
      refine (prParts_any V _ cv (groupsS m l) m w3 hrv3 HGM.out).mono ?_
      rintro e w3' ⟨rfl, hbp⟩
      rw [HPW.out]
      have hb5' := below_self hb5 hbp
      replace hrw := hrw.below hbp
      replace hrv3 := hrv3.below hbp
      replace hru := hru.below hbp
      clear hbp hb5
      have hb5 := hb5'
      clear hb5'
      go_wp2_with fail
      refine (refGroups_any m A n c l _ hrw (by unfold maxLen; omega) (by omega)).mono ?_
      rintro e w4 ⟨v4, rfl, hv4, hb6⟩
      obtain ⟨V4, cv4, rfl, hcv4⟩ := own_form hv4
      have hr4 := Rd.of_own hv4
      have hb7 := below_self hb5 hb6
      have hrv4 := hrv3.below hb6
      have hru4 := hru.below hb6
      clear hv4 hb6 hb5 hrv3 hru hrw
      go_wp2_with fail
      refine (equalS_b V V4 _ _ cv cv4 (groupsS m l) (groupsS m l) w4 hrv4 hr4 HGM.out HGM.out).mono ?_
      rintro e w5 ⟨rfl, hb6⟩
      rw [decide_eq_true rfl]
      have hb8 := below_self hb7 hb6
      have hrv5 := hrv4.below hb6
      have hru5 := hru4.below hb6
      clear hb6 hb7 hrv4 hru4 hr4
      go_wp2_with fail
      refine (prGroups_any m U n cu l.reverse w5 hru5 (by omega) (by omega) hf0).mono ?_
      rintro e w6 ⟨v6, rfl, hv6, hb6⟩
      rw [HBK.out] at hv6
      obtain ⟨V6, cv6, rfl, hcv6⟩ := own_form hv6
      have hr6 := Rd.of_own hv6
      have hb9 := below_self hb8 hb6
      have hrv6 := hrv5.below hb6
      clear hv6 hb6 hb8 hrv5 hru5
      go_wp2_with fail
      refine (equalS_b V V6 _ _ cv cv6 (groupsS m l) (groupsS m l) w6 hrv6 hr6 HGM.out HGM.out).mono ?_
      rintro e w7 ⟨rfl, hb6⟩
      rw [decide_eq_true rfl]
      have hb10 := below_self hb9 hb6
      clear hb6 hb9
      go_wp2_with fail
      refine (awakeS_any _).mono ?_
      rintro e w8 ⟨rfl, hb6⟩
      have hb11 := below_self hb10 hb6
      go_wp2
      go_ret
      exact ⟨rfl, hb11⟩
    · go_wp2_with fail
      refine (refGroups_any m A n c l _ hrw (by unfold maxLen; omega) (by omega)).mono ?_
      rintro e w4 ⟨v4, rfl, hv4, hb6⟩
      obtain ⟨V4, cv4, rfl, hcv4⟩ := own_form hv4
      have hr4 := Rd.of_own hv4
      have hb7 := below_self hb5 hb6
      have hrv4 := hrv3.below hb6
      have hru4 := hru.below hb6
      clear hv4 hb6 hb5 hrv3 hru hrw
      go_wp2_with fail
      refine (equalS_b V V4 _ _ cv cv4 (groupsS m l) (groupsS m l) w4 hrv4 hr4 HGM.out HGM.out).mono ?_
      rintro e w5 ⟨rfl, hb6⟩
      rw [decide_eq_true rfl]
      have hb8 := below_self hb7 hb6
      have hrv5 := hrv4.below hb6
      have hru5 := hru4.below hb6
      clear hb6 hb7 hrv4 hru4 hr4
      go_wp2_with fail
      refine (prGroups_any m U n cu l.reverse w5 hru5 (by omega) (by omega) hf0).mono ?_
      rintro e w6 ⟨v6, rfl, hv6, hb6⟩
      rw [HBK.out] at hv6
      obtain ⟨V6, cv6, rfl, hcv6⟩ := own_form hv6
      have hr6 := Rd.of_own hv6
      have hb9 := below_self hb8 hb6
      have hrv6 := hrv5.below hb6
      clear hv6 hb6 hb8 hrv5 hru5
      go_wp2_with fail
      refine (equalS_b V V6 _ _ cv cv6 (groupsS m l) (groupsS m l) w6 hrv6 hr6 HGM.out HGM.out).mono ?_
      rintro e w7 ⟨rfl, hb6⟩
      rw [decide_eq_true rfl]
      have hb10 := below_self hb9 hb6
      clear hb6 hb9
      go_wp2_with fail
      refine (awakeS_any _).mono ?_
      rintro e w8 ⟨rfl, hb6⟩
      have hb11 := below_self hb10 hb6
      go_wp2
      go_ret
      exact ⟨rfl, hb11⟩
end Go.Proofs.Ythhjcdnhlpjfnaa
