/- Texts of one claim, one behind the other. -/
import Derived.Test.YtnmefomipldalaaMgTu1
import Derived.Test.YtnmefomipldalaaMgTu2
import Derived.Test.YtnmefomipldalaaMgTu4
import Derived.Test.YtnmefomipldalaaMgTu6
import Derived.Test.YtnmefomipldalaaMgTu11
import Derived.Test.YtnmefomipldalaaMgTu14
import Derived.Test.YtnmefomipldalaaMgTu15
/- naskhlaw04's awake, and ClusterChecks. -/
namespace Go.Proofs.Ytnmefomipldalaa
open Go.RowKit

def crossL : List Cl := [((0, 1), (1, 2)), ((1, 2), (0, 1))]
theorem cross_cov : ∀ l', List.Perm l' (crossL.map Prod.snd) → LoSorted l' → covB ((2 : Nat) : Int) l' = true := fun l' hp hs => by
  refine (covB_iff hp hs (fun s h => ?_) (by omega)).2 (fun j h1 h2 => ?_)
  · have h' : s = (1, 2) ∨ s = (0, 1) := by simpa [crossL] using h
    rcases h' with rfl | rfl <;> simp
  · have h' : j = 0 ∨ j = 1 := by omega
    rcases h' with rfl | rfl
    · exact ⟨(0, 1), by simp [crossL], by simp, by simp⟩
    · exact ⟨(1, 2), by simp [crossL], by simp, by simp⟩
theorem cross_Finest (q : Nat) (hq : q = 2) (A : Option Addr) (c : Nat) (w : World) (hr : Rd w 4 A q (cellsC crossL)) :
    Calls Try.prog 16 #[.int .i64 2, .int .i64 2, .slice A q c] w fun e w' => ∃ v, e = .returned (.tuple #[v, .int .i64 0]) ∧ w'.ownsRow w.heap.size 33 4 v 2 (cellsC crossL) ∧ Below w.heap.size w w' := by
  refine (prFinest_ok 2 2 q c A crossL w hr (by omega) rfl (by omega) (by omega) cross_cov (by simp [crossL])).mono ?_
  rintro e w' ⟨v, l', rfl, hf, hown, hb⟩
  have h9 : l' = crossK := Finest.only hf cross_finest
  rw [h9] at hown
  exact ⟨v, rfl, hown, hb⟩
theorem rd_cross (w : World) : Rd (w.alloc (.cells #[.int .i64 0, .int .i64 1, .int .i64 1, .int .i64 2, .int .i64 1, .int .i64 2, .int .i64 0, .int .i64 1] 33)) 4 (some ⟨w.heap.size, 0, none⟩) 2 (cellsC crossL) :=
  ⟨rfl, fun _ => ⟨_, rfl, by simp, cells_new w [.int .i64 0, .int .i64 1, .int .i64 1, .int .i64 2, .int .i64 1, .int .i64 2, .int .i64 0, .int .i64 1] 33⟩⟩
set_option maxRecDepth 100000 in
set_option maxHeartbeats 1000000 in
theorem awakeCl_any (w : World) : Calls Try.prog 12 #[] w fun e w' => e = .returned (.bool true) ∧ Below w.heap.size w w' := by
  go_enter Try.func12, Try.ntmps12
  have s1 := SpanBlk.new_ w 0 1 31
  have b1 := below_new w (.cells #[.int .i64 0, .int .i64 1] 31)
  have s2 := SpanBlk.new_ (w.alloc (.cells #[.int .i64 0, .int .i64 1] 31)) 1 2 31
  have b2 := below_new (w.alloc (.cells #[.int .i64 0, .int .i64 1] 31)) (.cells #[.int .i64 1, .int .i64 2] 31)
  have b3 := below_new ((w.alloc (.cells #[.int .i64 0, .int .i64 1] 31)).alloc (.cells #[.int .i64 1, .int .i64 2] 31)) (.cells #[.int .i64 0, .int .i64 1, .int .i64 1, .int .i64 2, .int .i64 1, .int .i64 2, .int .i64 0, .int .i64 1] 33)
  have r1 := rd_cross ((w.alloc (.cells #[.int .i64 0, .int .i64 1] 31)).alloc (.cells #[.int .i64 1, .int .i64 2] 31))
  have t1 := (s1.below b2).below b3
  have t2 := s2.below b3
  simp only [World.size_alloc] at t2 r1
  have hall := below_self (below_self b1 b2) b3
  clear s1 s2 b1 b2 b3
  go_wp2_with fail
  refine (cross_Finest 2 rfl _ _ _ r1).mono ?_
  rintro e w1 ⟨v, rfl, hown, hb1⟩
  have hb2 := below_self hall hb1
  obtain ⟨V, cv, rfl, _⟩ := own_form hown
  have r2 := Rd.of_own hown
  obtain ⟨u0, u1, _, _⟩ := t1.below hb1
  obtain ⟨u2, u3, _, _⟩ := t2.below hb1
  clear hown hall t1 t2 r1 hb1
  go_wp2_with fail
  have hb3 := below_new w1 (.cells #[.int .i64 0, .int .i64 1, .int .i64 1, .int .i64 2, .int .i64 1, .int .i64 2, .int .i64 0, .int .i64 1] 33)
  refine (equalC_b V (some ⟨w1.heap.size, 0, none⟩) 2 2 cv 2 crossL crossL _ (r2.below hb3) (rd_cross w1) (by unfold maxLen; omega) (by unfold maxLen; omega)).mono ?_
  rintro e w2 ⟨rfl, hb4⟩
  rw [show decide (crossL = crossL) = true from decide_eq_true rfl]
  have hb5 := below_self hb3 hb4
  have hb6 := below_self hb2 hb5
  have r3 := r2.below hb5
  clear r2 hb3 hb4 hb5 hb2
  go_wp2_with fail
  refine (prCheckC_any V 2 cv crossL 2 2 w2 r3 (by omega)).mono ?_
  rintro e w3 ⟨rfl, hb7⟩
  rw [show checkC crossL 2 2 = true by decide]
  have hb8 := below_self hb6 hb7
  go_wp2_with fail
  refine (prIdentity_any 3 w3 (by omega)).mono ?_
  rintro e w4 ⟨v, rfl, hown, hb9⟩
  obtain ⟨V2, cv2, rfl, _⟩ := own_form hown
  have hb10 := below_self hb8 hb9
  clear hown
  go_wp2_with fail
  go_ret
  exact ⟨rfl, hb10⟩
set_option maxRecDepth 100000 in
set_option maxHeartbeats 1000000 in
theorem clusterChecks_any (A : Option Addr) (n c : Nat) (l : List Cl) (m p : Int) (w : World) (hr : Rd w 4 A n (cellsC l)) (hn : n ≤ maxLen) :
    Calls Try.prog 3 #[.slice A n c, .int .i64 m, .int .i64 p] w fun e w' => e = .returned (.bool true) ∧ Below w.heap.size w w' := by
  unfold maxLen at hn
  go_enter Try.func3, Try.ntmps3
  by_cases h : 60 < n
  · go_wp2_with fail
    refine (awakeCl_any w).mono ?_
    rintro e w1 ⟨rfl, hb1⟩
    go_wp2_with fail
    go_ret
    exact ⟨rfl, hb1⟩
  · go_wp2_with fail
    refine (prCheckC_any A n c l m p w hr (by omega)).mono ?_
    rintro e w1 ⟨rfl, hb1⟩
    go_wp2_with fail
    refine (refCheckC_any A n c l m p w1 (hr.below hb1) (by omega)).mono ?_
    rintro e w2 ⟨rfl, hb2⟩
    have hb3 := below_self hb1 hb2
    obtain ⟨b, hb⟩ : ∃ b, checkC l m p = b := ⟨_, rfl⟩
    rw [hb]
    clear hb
    cases b
    all_goals
      go_wp2_with fail
      refine (awakeCl_any w2).mono ?_
      rintro e w3 ⟨rfl, hb4⟩
      have hb5 := below_self hb3 hb4
      go_wp2_with fail
      go_ret
      exact ⟨rfl, hb5⟩
end Go.Proofs.Ytnmefomipldalaa
/- naskhlaw04's ClusterTurns, walked. -/
namespace Go.Proofs.Ytnmefomipldalaa
open Go.RowKit

set_option maxRecDepth 100000 in
set_option maxHeartbeats 1000000 in
theorem prIdentity_neg (n : Int) (w : World) (hn : n < 0) :
    Calls Try.prog 21 #[.int .i64 n] w fun e w' => e = .returned (.slice none 0 0) ∧ w = w' := by
  go_enter Try.func21, Try.ntmps21
  go_wp2_with fail
  go_ret
  exact ⟨rfl, rfl⟩
theorem prIdentity_all (n : Int) (w : World) (hn : n ≤ 1000000) :
    Calls Try.prog 21 #[.int .i64 n] w fun e w' => ∃ v, e = .returned v ∧ w'.ownsRow w.heap.size 33 4 v n.toNat (cellsC (identS n.toNat)) ∧ Below w.heap.size w w' := by
  by_cases h : n < 0
  · refine (prIdentity_neg n w h).mono ?_
    rintro e w' ⟨rfl, rfl⟩
    rw [Int.toNat_of_nonpos (by omega)]
    exact ⟨_, rfl, ⟨rfl, .inl ⟨rfl, rfl⟩⟩, Below.refl _ _⟩
  · obtain ⟨N, rfl⟩ := Int.eq_ofNat_of_zero_le (Int.not_lt.1 h)
    exact prIdentity_any N w (by omega)
set_option maxRecDepth 100000 in
set_option maxHeartbeats 2000000 in
theorem clusterTurns_any (A : Option Addr) (q c : Nat) (l : List Cl) (n : Int) (w : World) (hr : Rd w 4 A q (cellsC l)) (hq : q ≤ maxLen) :
    Calls Try.prog 8 #[.slice A q c, .int .i64 n] w fun e w' => e = .returned (.bool true) ∧ Below w.heap.size w w' := by
  have HR := Lib.hid hr
  unfold maxLen at hq
  clear hr
  have hcase : 60 < q ∨ (q ≤ 60 ∧ 200 < n) ∨ (q ≤ 60 ∧ n ≤ 200) := by omega
  go_enter Try.func8, Try.ntmps8
  rcases hcase with h1 | ⟨h1, h2⟩ | ⟨h1, h2⟩
  iterate 2
    · go_wp2_with fail
      refine (awakeCl_any _).mono ?_
      rintro e w2 ⟨rfl, hb2⟩
      go_wp2_with fail
      go_ret
      exact ⟨rfl, hb2⟩
  · go_wp2_with fail
    refine (prTurn_any A q c l _ HR.out (by omega)).mono ?_
    rintro e w1 ⟨v1, ys1, rfl, ho1, hs1, ht1, hb1⟩
    obtain ⟨V1, c1, rfl, _⟩ := own_form ho1
    have HL1 := Lib.hid (Rd.of_own ho1)
    have HS1 := Lib.hid hs1
    have HT1 := Lib.hid ht1
    clear ho1 hs1 ht1
    go_wp2_with fail
    refine (refTurn_any A q c l w1 (HR.out.below hb1) (by omega)).mono ?_
    rintro e w2 ⟨v2, ys2, rfl, ho2, hs2, ht2, hb2⟩
    obtain ⟨V2, c2, rfl, _⟩ := own_form ho2
    have HL2 := Lib.hid (Rd.of_own ho2)
    have HL3 := Lib.hid (HL1.out.below hb2)
    have HE := Lib.hid (show decide (ys1 = ys2) = true from decide_eq_true (same_only HT1.out ht2 (HS1.out.symm.trans hs2)))
    have hb12 := below_self hb1 hb2
    clear ho2 hs2 ht2 hb1 hb2
    go_wp2_with fail
    refine (equalC_b V1 V2 q q c1 c2 ys1 ys2 w2 HL3.out HL2.out (by unfold maxLen; omega) (by unfold maxLen; omega)).mono ?_
    rintro e w3 ⟨rfl, hb3⟩
    rw [HE.out]
    have hb13 := below_self hb12 hb3
    clear hb12 hb3
    go_wp2_with fail
    refine (prIdentity_all n w3 (by omega)).mono ?_
    rintro e w4 ⟨v4, rfl, ho4, hb4⟩
    obtain ⟨V4, c4, rfl, _⟩ := own_form ho4
    have HL4 := Lib.hid (Rd.of_own ho4)
    have hb14 := below_self hb13 hb4
    clear ho4 hb13 hb4
    go_wp2_with fail
    refine (refIdentity_any n w4 (by omega)).mono ?_
    rintro e w5 ⟨v5, rfl, ho5, hb5⟩
    obtain ⟨V5, c5, rfl, _⟩ := own_form ho5
    have HL5 := Lib.hid (Rd.of_own ho5)
    have HL6 := Lib.hid (HL4.out.below hb5)
    have hb15 := below_self hb14 hb5
    clear ho5 hb14 hb5
    obtain ⟨p, hp⟩ : ∃ p, n.toNat = p := ⟨_, rfl⟩
    rw [hp] at HL5 HL6 ⊢
    have hp2 : p ≤ 200 := by omega
    clear hp
    go_wp2_with fail
    refine (equalC_b V4 V5 p p c4 c5 (identS p) (identS p) w5 HL6.out HL5.out (by unfold maxLen; omega) (by unfold maxLen; omega)).mono ?_
    rintro e w6 ⟨rfl, hb6⟩
    rw [show decide (identS p = identS p) = true from decide_eq_true rfl]
    have hb16 := below_self hb15 hb6
    go_wp2_with fail
    refine (awakeCl_any w6).mono ?_
    rintro e w7 ⟨rfl, hb7⟩
    have hb17 := below_self hb16 hb7
    go_wp2_with fail
    go_ret
    exact ⟨rfl, hb17⟩
end Go.Proofs.Ytnmefomipldalaa
