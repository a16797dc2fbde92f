/- naskhlaw31.AccentTells. -/
import Derived.Test.YtbnjflkafdkcpaaAcAw
import Derived.Test.YtbnjflkafdkcpaaEqS
namespace Go.Proofs.Ytbnjflkafdkcpaa
open Go.RowKit

theorem accR_len (o ls : List Int) (ms : List Bool) : (accR o ls ms).length ≤ o.length := by
  unfold accR
  split
  · simp
  · split
    · simp
    · exact Nat.le_of_eq (acc_len o _ o rfl)
theorem grpF_len (ls : List Int) (ms : List Bool) : (grpF ls ms).length ≤ ls.length := by
  unfold grpF
  split
  · exact grpA_len ls ms _
  · simp
set_option maxRecDepth 100000 in
set_option maxHeartbeats 2000000 in
theorem accentTells_any (A B C : Option Addr) (n c m d p e : Nat) (o ls : List Int) (ms : List Bool) (w : World) (hr : Rd w 1 A n (o.map (Value.int .i64))) (hs : Rd w 1 B m (ls.map (Value.int .i64))) (ht : Rd w 1 C p (ms.map Value.bool)) :
    Calls Try.prog 3 #[.slice A n c, .slice B m d, .slice C p e] w fun e w' => e = .returned (.bool true) ∧ Below w.heap.size w w' := by
  have HAW := Lib.hid awakeAc_any
  by_cases hg : 100 < n ∨ 100 < m ∨ 100 < p
  · clear hr hs ht
    by_cases h1 : 100 < n
    · have g1 : (100 : Int) < (n : Int) := by omega
      clear hg
      go_enter Try.func3, Try.ntmps3
      go_wp2_with (first
        | (go_at_call 8; refine (HAW.out _).mono ?_; rintro e w1 ⟨rfl, hb1⟩)
        | fail)
      go_ret
      exact ⟨rfl, hb1⟩
    · have g1 : ¬ (100 : Int) < (n : Int) := by omega
      by_cases h2 : 100 < m
      · have g2 : (100 : Int) < (m : Int) := by omega
        clear hg
        go_enter Try.func3, Try.ntmps3
        go_wp2_with (first
          | (go_at_call 8; refine (HAW.out _).mono ?_; rintro e w1 ⟨rfl, hb1⟩)
          | fail)
        go_ret
        exact ⟨rfl, hb1⟩
      · have g2 : ¬ (100 : Int) < (m : Int) := by omega
        have g3 : (100 : Int) < (p : Int) := by omega
        clear hg
        go_enter Try.func3, Try.ntmps3
        go_wp2_with (first
          | (go_at_call 8; refine (HAW.out _).mono ?_; rintro e w1 ⟨rfl, hb1⟩)
          | fail)
        go_ret
        exact ⟨rfl, hb1⟩
  · have g1 : ¬ (100 : Int) < (n : Int) := by omega
    have g2 : ¬ (100 : Int) < (m : Int) := by omega
    have g3 : ¬ (100 : Int) < (p : Int) := by omega
    have hol : o.length = n := by simpa using hr.len1
    have hll : ls.length = m := by simpa using hs.len1
    have H1 := Lib.hid (acOrder_any A B C n m p c d e o ls ms w hr hs ht (by omega))
    have H2 := Lib.hid (fun W (hB : Below w.heap.size w W) => raOrder_any A B C n m p c d e o ls ms W (hr.below hB) (hs.below hB) (ht.below hB) (by omega) (by omega))
    have H3 := Lib.hid (fun W (hB : Below w.heap.size w W) => acGroups_any B C m p d e ls ms W (hs.below hB) (ht.below hB) (by omega))
    have H4 := Lib.hid (fun W (hB : Below w.heap.size w W) => raGroups_any B C m p d e ls ms W (hs.below hB) (ht.below hB) (by omega))
    have hrl := accR_len o ls ms
    have hgl := grpF_len ls ms
    obtain ⟨E, hE⟩ : ∃ E, accE o ls ms = E := ⟨_, rfl⟩
    obtain ⟨V, hV⟩ : ∃ V, accR o ls ms = V := ⟨_, rfl⟩
    obtain ⟨G, hG⟩ : ∃ G, grpF ls ms = G := ⟨_, rfl⟩
    rw [hE, hV] at H1 H2
    rw [hG] at H3 H4 hgl
    rw [hV] at hrl
    obtain ⟨q, hq⟩ : ∃ q, V.length = q := ⟨_, rfl⟩
    obtain ⟨r, hr9⟩ : ∃ r, G.length = r := ⟨_, rfl⟩
    rw [hq] at H1 H2 hrl
    rw [hr9] at H3 H4 hgl
    have hq5 : q ≤ 100 := by omega
    have hr5 : r ≤ 100 := by omega
    clear hr hs ht hg hE hV hG hq hr9 hrl hgl hol hll
    go_enter Try.func3, Try.ntmps3
    go_wp2_with (first
      | (go_at_call 9; refine H1.out.mono ?_; rintro e w1 ⟨v1, rfl, hv1, hb1⟩; obtain ⟨A1, c1, he1, _⟩ := own_form hv1; subst he1; have HR1 := Lib.hid (Rd.of_own hv1); have HB1 := Lib.hid hb1; clear hv1 hb1)
      | (go_at_call 10; refine (H2.out _ HB1.out).mono ?_; rintro e w2 ⟨v2, rfl, hv2, hb2⟩; obtain ⟨A2, c2, he2, _⟩ := own_form hv2; subst he2; have HR2 := Lib.hid (Rd.of_own hv2); have HR12 := Lib.hid (HR1.out.below hb2); have HB2 := Lib.hid (below_self HB1.out hb2); clear hv2 hb2)
      | (go_at_call 12; refine (H3.out _ HB2.out).mono ?_; rintro e w3 ⟨v3, rfl, hv3, hb3⟩; obtain ⟨A3, c3, he3, _⟩ := own_form hv3; subst he3; have HR3 := Lib.hid (Rd.of_own hv3); have HR13 := Lib.hid (HR12.out.below hb3); have HR23 := Lib.hid (HR2.out.below hb3); have HB3 := Lib.hid (below_self HB2.out hb3); clear hv3 hb3)
      | (go_at_call 13; refine (H4.out _ HB3.out).mono ?_; rintro e w4 ⟨v4, rfl, hv4, hb4⟩; obtain ⟨A4, c4, he4, _⟩ := own_form hv4; subst he4; have HR4 := Lib.hid (Rd.of_own hv4); have HR14 := Lib.hid (HR13.out.below hb4); have HR24 := Lib.hid (HR23.out.below hb4); have HR34 := Lib.hid (HR3.out.below hb4); have HB4 := Lib.hid (below_self HB3.out hb4); clear hv4 hb4)
      | (go_at_call 11; refine (equalS_b A3 A4 r r c3 c4 G G _ HR34.out HR4.out (by unfold maxLen; omega) (by unfold maxLen; omega)).mono ?_; rintro e w5 ⟨rfl, hb5⟩; rw [decide_eq_true rfl]; have HB5 := Lib.hid (below_self HB4.out hb5); have HR15 := Lib.hid (HR14.out.below hb5); have HR25 := Lib.hid (HR24.out.below hb5); clear hb5)
      | (go_at_call 14; refine (equalInt_b A1 A2 q q c1 c2 V V _ HR15.out HR25.out (by unfold maxLen; omega) (by unfold maxLen; omega)).mono ?_; rintro e w6 ⟨rfl, hb6⟩; rw [decide_eq_true rfl]; have HB6 := Lib.hid (below_self HB5.out hb6); clear hb6)
      | (go_at_call 8; refine (HAW.out _).mono ?_; rintro e w8 ⟨rfl, hb8⟩; have HB8 := Lib.hid (below_self HB6.out hb8); clear hb8)
      | fail)
    go_ret
    exact ⟨rfl, HB8.out⟩
end Go.Proofs.Ytbnjflkafdkcpaa
