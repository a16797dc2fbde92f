/- naskhlaw03.SpanCuts returns true for every span and slice of places. -/
import Derived.Test.YtioglpfijdkffaaLawS
import Derived.Test.YtioglpfijdkffaaEqS
namespace Go.Proofs.Ytioglpfijdkffaa
open Go.RowKit

theorem partsFrom_cut {lo hi : Int} {r : List Int} {l : List Sp} (h0 : 0 ≤ lo) (hlt : lo < hi) (h : cutFrom lo hi r = some l) : partsFrom lo l hi = true := by
  induction r generalizing lo l with
  | nil =>
    simp [cutFrom] at h
    subst h
    simp [partsFrom, rightB, h0, hlt]
  | cons a r ih =>
    unfold cutFrom at h
    split at h
    · cases h
    · rename_i hn
      obtain ⟨l', h', rfl⟩ := Option.map_eq_some_iff.1 h
      have := ih (lo := a) (by omega) (by omega) h'
      unfold partsFrom
      simp only [rightB]
      rw [this]
      simp; omega

set_option maxRecDepth 100000 in
set_option maxHeartbeats 4000000 in
theorem spanCuts_any (lo hi : Int) (A : Option Addr) (n c : Nat) (at_ : List Int) (w : World) (hr : Rd w 1 A n (at_.map (Value.int .i64))) :
    Calls Try.prog 5 #[.agg #[.int .i64 lo, .int .i64 hi], .slice A n c] w fun e w' => e = .returned (.bool true) ∧ Below w.heap.size w w' := by
  have hlen : at_.length = n := by simpa using hr.len1
  have HL := Lib.hid hlen
  clear hlen
  by_cases hlt : n ≤ 200
  · go_enter Try.func5, Try.ntmps5
    go_wp2_with fail
    have hr1 := hr.alloc (.cells #[.int .i64 lo, .int .i64 hi] 23)
    have d0 : (w.alloc (.cells #[.int .i64 lo, .int .i64 hi] 23)).cell? ⟨w.heap.size, 0, none⟩ = some (.int .i64 lo) := by rw [World.cell?_alloc_at _ _ _ _ rfl]; rfl
    have d1 : (w.alloc (.cells #[.int .i64 lo, .int .i64 hi] 23)).cell? ⟨w.heap.size, 1, none⟩ = some (.int .i64 hi) := by rw [World.cell?_alloc_at _ _ _ _ rfl]; rfl
    refine (prCut_any lo hi A n c at_ _ hr1 (by omega)).mono ?_
    rintro e w1 h
    rcases h with ⟨h, rfl, hb⟩ | ⟨h, h', rfl, hb⟩ | ⟨h, l, v, h', rfl, hown, hb⟩
    · have HR := Lib.hid h
      have hb1 := below_self (below_new w _) hb
      replace d0 := cell_below hb d0
      replace d1 := cell_below hb d1
      clear h hb
      go_wp2_with fail
      refine (refCut_any lo hi A n c at_ _ (hr.below hb1) (by omega)).mono ?_
      rintro e w2 h
      rcases h with ⟨_, rfl, hb⟩ | ⟨h, _⟩ | ⟨h, _⟩
      · have hb2 := below_self hb1 hb
        clear hb hb1
        go_wp2_with fail
        refine (equalS_b none none 0 0 0 0 [] [] _ Rd.nil_ Rd.nil_ (by simp) (by simp)).mono ?_
        rintro e w3 ⟨rfl, hb⟩
        have hb3 := below_self hb2 hb
        simp only [decide_true]
        clear hb
        go_wp2_with fail
        refine (awakeS_any _).mono ?_
        rintro e w4 ⟨rfl, hb⟩
        have hb4 := below_self hb3 hb
        go_wp2
        go_ret
        exact ⟨rfl, hb4⟩
      · rw [HR.out] at h; cases h
      · rw [HR.out] at h; cases h
    · have HR := Lib.hid h
      have HC := Lib.hid h'
      have hb1 := below_self (below_new w _) hb
      replace d0 := cell_below hb d0
      replace d1 := cell_below hb d1
      clear h h' hb
      go_wp2_with fail
      refine (refCut_any lo hi A n c at_ _ (hr.below hb1) (by omega)).mono ?_
      rintro e w2 h
      rcases h with ⟨h, _⟩ | ⟨_, _, rfl, hb⟩ | ⟨_, l, v, h, _⟩
      · rw [HR.out] at h; cases h
      · have hb2 := below_self hb1 hb
        clear hb hb1
        go_wp2_with fail
        refine (equalS_b none none 0 0 0 0 [] [] _ Rd.nil_ Rd.nil_ (by simp) (by simp)).mono ?_
        rintro e w3 ⟨rfl, hb⟩
        have hb3 := below_self hb2 hb
        simp only [decide_true]
        clear hb
        go_wp2_with fail
        refine (awakeS_any _).mono ?_
        rintro e w4 ⟨rfl, hb⟩
        have hb4 := below_self hb3 hb
        go_wp2
        go_ret
        exact ⟨rfl, hb4⟩
      · rw [HC.out] at h; cases h
    · have HR := Lib.hid h
      have HC := Lib.hid h'
      have hln : l.length = n + 1 := by rw [cutFrom_len h', HL.out]
      have HN := Lib.hid hln
      have hln' : l.length ≤ 1000 := by omega
      have hb1 := below_self (below_new w _) hb
      obtain ⟨A1, c1, rfl, _⟩ := own_form hown
      have hd1 := Rd.of_own hown
      replace d0 := cell_below hb d0
      replace d1 := cell_below hb d1
      clear h h' hb hown hln
      go_wp2_with fail
      refine (refCut_any lo hi A n c at_ _ (hr.below hb1) (by omega)).mono ?_
      rintro e w2 h
      rcases h with ⟨h, _⟩ | ⟨_, h, _⟩ | ⟨_, l2, v2, h, rfl, hown, hb⟩
      · rw [HR.out] at h; cases h
      · rw [HC.out] at h; cases h
      · obtain rfl : l = l2 := Option.some.inj (HC.out.symm.trans h)
        obtain ⟨A2, c2, rfl, _⟩ := own_form hown
        have hd2 := Rd.of_own hown
        have hd1' := hd1.below hb
        replace d0 := cell_below hb d0
        replace d1 := cell_below hb d1
        have hb2 := below_self hb1 hb
        clear hb hb1 h hown hd1
        go_wp2_with fail
        refine (equalS_b A1 A2 _ _ c1 c2 l l _ hd1' hd2 (by unfold maxLen; omega) (by unfold maxLen; omega)).mono ?_
        rintro e w3 ⟨rfl, hb⟩
        have hb3 := below_self hb2 hb
        replace d0 := cell_below hb d0
        replace d1 := cell_below hb d1
        have hd1'' := hd1'.below hb
        simp only [decide_true]
        clear hb hb2 hd1' hd2
        by_cases h0 : lo = 0
        · subst h0
          have hpt : partsS l hi = true := by
            have := of_decide_eq_true HR.out
            exact partsFrom_cut (Int.le_refl _) this.2 HC.out
          have HP := Lib.hid hpt
          have HN2 := Lib.hid (show (l.length : Int) = (n : Int) + 1 by rw [HN.out]; push_cast; rfl)
          clear hpt
          go_wp2_with fail
          refine (prParts_any A1 l.length c1 l hi _ hd1'' (by unfold maxLen; omega)).mono ?_
          rintro e w4 ⟨rfl, hb⟩
          have hb4 := below_self hb3 hb
          rw [HP.out]
          have hn2 := HN2.out
          clear hb
          go_wp2_with fail
          refine (awakeS_any _).mono ?_
          rintro e w5 ⟨rfl, hb⟩
          have hb5 := below_self hb4 hb
          go_wp2
          go_ret
          exact ⟨rfl, hb5⟩
        · have h0' : (lo == 0) = false := by simpa using h0
          have h0'' : (lo != 0) = true := by simpa using h0
          go_wp2_with fail
          refine (awakeS_any _).mono ?_
          rintro e w4 ⟨rfl, hb⟩
          have hb4 := below_self hb3 hb
          go_wp2
          go_ret
          exact ⟨rfl, hb4⟩
  · go_enter Try.func5, Try.ntmps5
    go_wp2_with fail
    refine (awakeS_any _).mono ?_
    rintro e w1 ⟨rfl, hb⟩
    have hb1 := below_self (below_new w _) hb
    go_wp2
    go_ret
    exact ⟨rfl, hb1⟩
end Go.Proofs.Ytioglpfijdkffaa
