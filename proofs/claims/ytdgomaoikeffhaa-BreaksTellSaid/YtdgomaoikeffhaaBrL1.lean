/- naskhlaw28.BreaksTell. -/
import Derived.Test.YtdgomaoikeffhaaBrAw
import Derived.Test.YtdgomaoikeffhaaCutPt
import Derived.Test.YtdgomaoikeffhaaPartsP
import Derived.Test.YtdgomaoikeffhaaEqS
namespace Go.Proofs.Ytdgomaoikeffhaa
open Go.RowKit

theorem split_parts {n : Int} {bs : List Int} (h : (splitF n bs).2 = 0) (hn : ¬ n < 0) : partsS (splitF n bs).1 n = true := by
  rcases hc : cutFrom 0 n bs with _ | l
  · rw [split_no hc] at h
    exact absurd h (by decide)
  · rw [split_yes hc]
    by_cases h1 : n < 1
    · obtain rfl : n = 0 := by omega
      rw [if_pos h1]
      rfl
    · rw [if_neg h1]
      exact partsFrom_cut (by omega) (by omega) hc
theorem split_two (n : Int) (bs : List Int) : (splitF n bs).2 = 0 ∨ (splitF n bs).2 = 4 := by
  unfold splitF
  split
  · exact .inr rfl
  · exact .inl rfl
theorem split_len (n : Int) (bs : List Int) : (splitF n bs).1.length ≤ bs.length + 1 := by
  rcases hc : cutFrom 0 n bs with _ | l
  · rw [split_no hc]; simp
  · rw [split_yes hc]
    have := cutFrom_len hc
    simp only
    split <;> simp <;> omega
set_option maxRecDepth 100000 in
set_option maxHeartbeats 2000000 in
theorem breaksTell_any (n : Int) (A : Option Addr) (m c : Nat) (bs : List Int) (w : World) (hr : Rd w 1 A m (bs.map (Value.int .i64))) (hm : m ≤ maxLen) :
    Calls Try.prog 5 #[.int .i64 n, .slice A m c] w fun e w' => e = .returned (.bool true) ∧ Below w.heap.size w w' := by
  unfold maxLen at hm
  have HAW := Lib.hid awakeBr_any
  by_cases hm3 : 200 < m
  · have g1 : (200 : Int) < (m : Int) := by omega
    clear hr
    go_enter Try.func5, Try.ntmps5
    go_wp2_with (first
      | (go_at_call 11; refine (HAW.out _).mono ?_; rintro e w1 ⟨rfl, hb1⟩)
      | fail)
    go_ret
    exact ⟨rfl, hb1⟩
  · have g1 : ¬ (200 : Int) < (m : Int) := by omega
    have hl : bs.length = m := by simpa using hr.len1
    have hsl := split_len n bs
    have H1 := Lib.hid (brSplit_any n A m c bs w hr (by omega))
    have H2 := Lib.hid (fun W (hB : Below w.heap.size w W) => rbSplit_any n A m c bs W (hr.below hB) (by omega))
    have H3 := Lib.hid (fun W (hB : Below w.heap.size w W) => brCheck_any n A m c bs W (hr.below hB) (by omega))
    have H4 := Lib.hid (fun W (hB : Below w.heap.size w W) => rbCheck_any n A m c bs W (hr.below hB) (by omega))
    have hpt := fun h hn => split_parts (n := n) (bs := bs) h hn
    have htw := split_two n bs
    obtain ⟨L, hL⟩ : ∃ L, (splitF n bs).1 = L := ⟨_, rfl⟩
    obtain ⟨E, hE⟩ : ∃ E, (splitF n bs).2 = E := ⟨_, rfl⟩
    rw [hL] at hsl hpt H1 H2
    rw [hE] at hpt htw H1 H2 H3 H4
    obtain ⟨K, hK⟩ : ∃ K, L.length = K := ⟨_, rfl⟩
    rw [hK] at hsl H1 H2
    clear hr hL hE hK
    rcases htw with rfl | rfl
    · by_cases hn0 : n < 0
      · have d1 : decide (n < 0) = true := decide_eq_true hn0
        clear hpt
        go_enter Try.func5, Try.ntmps5
        go_wp2_with (first
          | (go_at_call 12; refine H1.out.mono ?_; rintro e w1 ⟨v1, rfl, hv1, hb1⟩; obtain ⟨A1, c1, he1, _⟩ := own_form hv1; subst he1; have HR1 := Lib.hid (Rd.of_own hv1); have HB1 := Lib.hid hb1; clear hv1 hb1)
          | (go_at_call 13; refine (H2.out _ HB1.out).mono ?_; rintro e w2 ⟨v2, rfl, hv2, hb2⟩; obtain ⟨A2, c2, he2, _⟩ := own_form hv2; subst he2; have HR2 := Lib.hid (Rd.of_own hv2); have HR3 := Lib.hid (HR1.out.below hb2); have HB2 := Lib.hid (below_self HB1.out hb2); clear hv2 hb2)
          | (go_at_call 14; refine (H3.out _ HB2.out).mono ?_; rintro e w3 ⟨rfl, he3⟩; subst he3)
          | (go_at_call 15; refine (H4.out _ HB2.out).mono ?_; rintro e w4 ⟨rfl, q4, he4⟩; subst he4; have HB4 := Lib.hid (below_drew HB2.out q4))
          | (go_at_call 16; refine (equalS_b A1 A2 K K c1 c2 L L _ (HR3.out.drewN q4) (HR2.out.drewN q4) (by unfold maxLen; omega) (by unfold maxLen; omega)).mono ?_; rintro e w5 ⟨rfl, hb5⟩; rw [decide_eq_true rfl]; have HB5 := Lib.hid (below_self HB4.out hb5); clear hb5)
          | (go_at_call 11; refine (HAW.out _).mono ?_; rintro e w6 ⟨rfl, hb6⟩; have HB6 := Lib.hid (below_self HB5.out hb6); clear hb6)
          | fail)
        go_ret
        exact ⟨rfl, HB6.out⟩
      · have d1 : decide (n < 0) = false := decide_eq_false hn0
        have HPT := Lib.hid (hpt rfl hn0)
        clear hpt
        go_enter Try.func5, Try.ntmps5
        go_wp2_with (first
          | (go_at_call 12; refine H1.out.mono ?_; rintro e w1 ⟨v1, rfl, hv1, hb1⟩; obtain ⟨A1, c1, he1, _⟩ := own_form hv1; subst he1; have HR1 := Lib.hid (Rd.of_own hv1); have HB1 := Lib.hid hb1; clear hv1 hb1)
          | (go_at_call 13; refine (H2.out _ HB1.out).mono ?_; rintro e w2 ⟨v2, rfl, hv2, hb2⟩; obtain ⟨A2, c2, he2, _⟩ := own_form hv2; subst he2; have HR2 := Lib.hid (Rd.of_own hv2); have HR3 := Lib.hid (HR1.out.below hb2); have HB2 := Lib.hid (below_self HB1.out hb2); clear hv2 hb2)
          | (go_at_call 14; refine (H3.out _ HB2.out).mono ?_; rintro e w3 ⟨rfl, he3⟩; subst he3)
          | (go_at_call 15; refine (H4.out _ HB2.out).mono ?_; rintro e w4 ⟨rfl, q4, he4⟩; subst he4; have HB4 := Lib.hid (below_drew HB2.out q4))
          | (go_at_call 16; refine (equalS_b A1 A2 K K c1 c2 L L _ (HR3.out.drewN q4) (HR2.out.drewN q4) (by unfold maxLen; omega) (by unfold maxLen; omega)).mono ?_; rintro e w5 ⟨rfl, hb5⟩; rw [decide_eq_true rfl]; have HB5 := Lib.hid (below_self HB4.out hb5); have HR5 := Lib.hid ((HR3.out.drewN q4).below hb5); clear hb5)
          | (go_at_call 17; refine (prParts_any A1 K c1 L n _ HR5.out (by unfold maxLen; omega)).mono ?_; rintro e w7 ⟨rfl, hb7⟩; rw [HPT.out]; have HB7 := Lib.hid (below_self HB5.out hb7); clear hb7)
          | (go_at_call 11; refine (HAW.out _).mono ?_; rintro e w6 ⟨rfl, hb6⟩; have HB6 := Lib.hid (below_self HB7.out hb6); clear hb6)
          | fail)
        go_ret
        exact ⟨rfl, HB6.out⟩
    · clear hpt
      go_enter Try.func5, Try.ntmps5
      go_wp2_with (first
        | (go_at_call 12; refine H1.out.mono ?_; rintro e w1 ⟨v1, rfl, hv1, hb1⟩; obtain ⟨A1, c1, he1, _⟩ := own_form hv1; subst he1; have HR1 := Lib.hid (Rd.of_own hv1); have HB1 := Lib.hid hb1; clear hv1 hb1)
        | (go_at_call 13; refine (H2.out _ HB1.out).mono ?_; rintro e w2 ⟨v2, rfl, hv2, hb2⟩; obtain ⟨A2, c2, he2, _⟩ := own_form hv2; subst he2; have HR2 := Lib.hid (Rd.of_own hv2); have HR3 := Lib.hid (HR1.out.below hb2); have HB2 := Lib.hid (below_self HB1.out hb2); clear hv2 hb2)
        | (go_at_call 14; refine (H3.out _ HB2.out).mono ?_; rintro e w3 ⟨rfl, he3⟩; subst he3)
        | (go_at_call 15; refine (H4.out _ HB2.out).mono ?_; rintro e w4 ⟨rfl, q4, he4⟩; subst he4; have HB4 := Lib.hid (below_drew HB2.out q4))
        | (go_at_call 16; refine (equalS_b A1 A2 K K c1 c2 L L _ (HR3.out.drewN q4) (HR2.out.drewN q4) (by unfold maxLen; omega) (by unfold maxLen; omega)).mono ?_; rintro e w5 ⟨rfl, hb5⟩; rw [decide_eq_true rfl]; have HB5 := Lib.hid (below_self HB4.out hb5); clear hb5)
        | (go_at_call 11; refine (HAW.out _).mono ?_; rintro e w6 ⟨rfl, hb6⟩; have HB6 := Lib.hid (below_self HB5.out hb6); clear hb6)
        | fail)
      go_ret
      exact ⟨rfl, HB6.out⟩
end Go.Proofs.Ytdgomaoikeffhaa
