/- naskhlaw29.OrderTells. -/
import Derived.Test.YtaiefneimjdmhaaOrAw
namespace Go.Proofs.Ytaiefneimjdmhaa
open Go.RowKit
theorem invE_len (o : List Int) : (invE o).1.length ≤ o.length := by
  unfold invE
  split
  · rw [List.length_map, invF_len, natL_len]; exact Nat.le_refl _
  · simp
theorem appE_len (o l : List Int) : (appE o l).1.length ≤ o.length := by
  unfold appE
  split
  · rw [List.length_map, natL_len]; exact Nat.le_refl _
  · simp
set_option maxRecDepth 100000 in
set_option maxHeartbeats 2000000 in
theorem orderTells_any (A B : Option Addr) (n c m d : Nat) (o l : List Int) (w : World) (hr : Rd w 1 A n (o.map (Value.int .i64))) (hs : Rd w 1 B m (l.map (Value.int .i64))) (hn : n ≤ maxLen) (hm : m ≤ maxLen) :
    Calls Try.prog 4 #[.slice A n c, .slice B m d] w fun e w' => e = .returned (.bool true) ∧ Below w.heap.size w w' := by
  unfold maxLen at hn hm
  have HAW := Lib.hid awakeOr_any
  by_cases hn3 : 300 < n
  · have g1 : (300 : Int) < (n : Int) := by omega
    clear hr hs
    go_enter Try.func4, Try.ntmps4
    go_wp2_with (first
      | (go_at_call 10; refine (HAW.out _).mono ?_; rintro e w1 ⟨rfl, hb1⟩)
      | fail)
    go_ret
    exact ⟨rfl, hb1⟩
  · have g1 : ¬ (300 : Int) < (n : Int) := by omega
    by_cases hm3 : 300 < m
    · have g2 : (300 : Int) < (m : Int) := by omega
      clear hr hs
      go_enter Try.func4, Try.ntmps4
      go_wp2_with (first
        | (go_at_call 10; refine (HAW.out _).mono ?_; rintro e w1 ⟨rfl, hb1⟩)
        | fail)
      go_ret
      exact ⟨rfl, hb1⟩
    · have g2 : ¬ (300 : Int) < (m : Int) := by omega
      have hl : o.length = n := by simpa using hr.len1
      have h1l := invE_len o
      have h2l := appE_len o l
      have H1 := Lib.hid (orInverse_any A n c o w hr (by omega))
      have H2 := Lib.hid (fun W (hB : Below w.heap.size w W) => roInverse_any A n c o W (hr.below hB) (by omega))
      have H3 := Lib.hid (fun W (hB : Below w.heap.size w W) => orApply_any A B n c m d o l W (hr.below hB) (hs.below hB) (by omega) (by omega))
      have H4 := Lib.hid (fun W (hB : Below w.heap.size w W) => roApply_any A B n c m d o l W (hr.below hB) (hs.below hB) (by omega) (by omega))
      have H5 := Lib.hid (fun W (hB : Below w.heap.size w W) => orPermutes_any A n c o W (hr.below hB) (by omega))
      have H6 := Lib.hid (fun W (hB : Below w.heap.size w W) => roPermutes_any A n c o W (hr.below hB) (by omega))
      obtain ⟨I, hI⟩ : ∃ I, (invE o).1 = I := ⟨_, rfl⟩
      obtain ⟨E, hE⟩ : ∃ E, (invE o).2 = E := ⟨_, rfl⟩
      obtain ⟨P, hP⟩ : ∃ P, (appE o l).1 = P := ⟨_, rfl⟩
      obtain ⟨F, hF⟩ : ∃ F, (appE o l).2 = F := ⟨_, rfl⟩
      obtain ⟨pb, hpb⟩ : ∃ pb, permB o = pb := ⟨_, rfl⟩
      rw [hI] at h1l H1 H2
      rw [hE] at H1 H2
      rw [hP] at h2l H3 H4
      rw [hF] at H3 H4
      rw [hpb] at H5 H6
      obtain ⟨ni, hni⟩ : ∃ k, I.length = k := ⟨_, rfl⟩
      obtain ⟨np, hnp⟩ : ∃ k, P.length = k := ⟨_, rfl⟩
      rw [hni] at h1l H1 H2
      rw [hnp] at h2l H3 H4
      clear hr hs hI hE hP hF hpb hni hnp
      cases pb
      all_goals (
        go_enter Try.func4, Try.ntmps4
        go_wp2_with (first
          | (go_at_call 15; refine H1.out.mono ?_; rintro e w1 ⟨v1, rfl, hv1, hb1⟩; obtain ⟨A1, c1, he1, _⟩ := own_form hv1; subst he1; have HR1 := Lib.hid (Rd.of_own hv1); have HB1 := Lib.hid hb1; clear hv1 hb1)
          | (go_at_call 16; refine (H2.out _ HB1.out).mono ?_; rintro e w2 ⟨v2, rfl, hv2, hb2⟩; obtain ⟨A2, c2, he2, _⟩ := own_form hv2; subst he2; have HR2 := Lib.hid (Rd.of_own hv2); have HR12 := Lib.hid (HR1.out.below hb2); have HB2 := Lib.hid (below_self HB1.out hb2); clear hv2 hb2)
          | (go_at_call 17; refine (H3.out _ HB2.out).mono ?_; rintro e w3 ⟨v3, rfl, hv3, hb3⟩; obtain ⟨A3, c3, he3, _⟩ := own_form hv3; subst he3; have HR3 := Lib.hid (Rd.of_own hv3); have HB3 := Lib.hid (below_self HB2.out hb3); have HR13 := Lib.hid (HR12.out.below hb3); have HR23 := Lib.hid (HR2.out.below hb3); clear hv3 hb3)
          | (go_at_call 18; refine (H4.out _ HB3.out).mono ?_; rintro e w4 ⟨v4, rfl, hv4, hb4⟩; obtain ⟨A4, c4, he4, _⟩ := own_form hv4; subst he4; have HR4 := Lib.hid (Rd.of_own hv4); have HB4 := Lib.hid (below_self HB3.out hb4); have HR14 := Lib.hid (HR13.out.below hb4); have HR24 := Lib.hid (HR23.out.below hb4); have HR34 := Lib.hid (HR3.out.below hb4); clear hv4 hb4)
          | (go_at_call 14; refine (H5.out _ HB4.out).mono ?_; rintro e w5 ⟨rfl, hb5⟩; have HB5 := Lib.hid (below_self HB4.out hb5); have HR15 := Lib.hid (HR14.out.below hb5); have HR25 := Lib.hid (HR24.out.below hb5); have HR35 := Lib.hid (HR34.out.below hb5); have HR45 := Lib.hid (HR4.out.below hb5); clear hb5)
          | (go_at_call 19; refine (H6.out _ HB5.out).mono ?_; rintro e w6 ⟨rfl, hb6⟩; have HB6 := Lib.hid (below_self HB5.out hb6); have HR16 := Lib.hid (HR15.out.below hb6); have HR26 := Lib.hid (HR25.out.below hb6); have HR36 := Lib.hid (HR35.out.below hb6); have HR46 := Lib.hid (HR45.out.below hb6); clear hb6)
          | (go_at_call 12; with_reducible refine (equalInt_b A1 A2 ni ni c1 c2 I I w6 HR16.out HR26.out (by unfold maxLen; omega) (by unfold maxLen; omega)).mono ?_; rintro e w7 ⟨rfl, hb7⟩; rw [decide_eq_true rfl]; have HB7 := Lib.hid (below_self HB6.out hb7); have HR37 := Lib.hid (HR36.out.below hb7); have HR47 := Lib.hid (HR46.out.below hb7); clear hb7)
          | (go_at_call 12; with_reducible refine (equalInt_b A3 A4 np np c3 c4 P P w7 HR37.out HR47.out (by unfold maxLen; omega) (by unfold maxLen; omega)).mono ?_; rintro e w8 ⟨rfl, hb8⟩; rw [decide_eq_true rfl]; have HB8 := Lib.hid (below_self HB7.out hb8); clear hb8)
          | (go_at_call 10; refine (HAW.out _).mono ?_; rintro e w9 ⟨rfl, hb9⟩; have HB9 := Lib.hid (below_self HB8.out hb9); clear hb9)
          | fail)
        go_ret
        exact ⟨rfl, HB9.out⟩)
end Go.Proofs.Ytaiefneimjdmhaa
