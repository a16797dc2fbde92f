/- naskhlaw30.RunsTell. -/
import Derived.Test.YtaiefneimjdmhaaRuAw
import Derived.Test.YtaiefneimjdmhaaRuVi
import Derived.Test.YtaiefneimjdmhaaRoY
namespace Go.Proofs.Ytaiefneimjdmhaa
open Go.RowKit
set_option maxRecDepth 100000 in
set_option maxHeartbeats 2000000 in
theorem runsTell_any (A : Option Addr) (n c : Nat) (ls : List Int) (w : World) (hr : Rd w 1 A n (ls.map (Value.int .i64))) (hn : n ≤ maxLen) :
    Calls Try.prog 7 #[.slice A n c] w fun e w' => e = .returned (.bool true) ∧ Below w.heap.size w w' := by
  unfold maxLen at hn
  have HAW := Lib.hid awakeRu_any
  by_cases hm3 : 200 < n
  · have g1 : (200 : Int) < (n : Int) := by omega
    clear hr
    go_enter Try.func7, Try.ntmps7
    go_wp2_with (first
      | (go_at_call 21; refine (HAW.out _).mono ?_; rintro e w1 ⟨rfl, hb1⟩)
      | fail)
    go_ret
    exact ⟨rfl, hb1⟩
  · have g1 : ¬ (200 : Int) < (n : Int) := by omega
    have hql := logR_len ls n
    have H1 := Lib.hid (ruLogical_any A n c ls w hr (by omega))
    have H2 := Lib.hid (fun W (hB : Below w.heap.size w W) => roLogical_any A n c ls W (hr.below hB) (by omega))
    have H3 := Lib.hid (fun W (hB : Below w.heap.size w W) => ruVisual_any A n c ls W (hr.below hB) (by omega))
    have H4 := Lib.hid (fun W (hB : Below w.heap.size w W) => roVisG_any A n c ls W (hr.below hB) (by omega))
    obtain ⟨L, hL⟩ : ∃ L, logR ls n = L := ⟨_, rfl⟩
    rw [hL] at H1 H2 H3 H4 hql
    obtain ⟨V, hV⟩ : ∃ V, visG L = V := ⟨_, rfl⟩
    rw [hV] at H3 H4
    obtain ⟨q, hq⟩ : ∃ q, L.length = q := ⟨_, rfl⟩
    rw [hq] at H1 H2 H3 H4 hql
    clear hr hL hV hq
    go_enter Try.func7, Try.ntmps7
    go_wp2_with (first
      | (go_at_call 23; refine H1.out.mono ?_; rintro e w1 ⟨v1, rfl, hv1, hb1⟩; obtain ⟨A1, c1, he1, _⟩ := own_form hv1; subst he1; have HR1 := Lib.hid (Rd.of_own hv1); have HB1 := Lib.hid hb1; clear hv1 hb1)
      | (go_at_call 24; refine (H2.out _ HB1.out).mono ?_; rintro e w2 ⟨v2, rfl, hv2, hb2⟩; obtain ⟨A2, c2, he2, _⟩ := own_form hv2; subst he2; have HR2 := Lib.hid (Rd.of_own hv2); have HR12 := Lib.hid (HR1.out.below hb2); have HB2 := Lib.hid (below_self HB1.out hb2); clear hv2 hb2)
      | (go_at_call 22; with_reducible refine (equalU_b A1 A2 q q c1 c2 L L w2 HR12.out HR2.out (by unfold maxLen; omega) (by unfold maxLen; omega)).mono ?_; rintro e w3 ⟨rfl, hb3⟩; rw [decide_eq_true rfl]; have HB3 := Lib.hid (below_self HB2.out hb3); clear hb3)
      | (go_at_call 25; refine (H3.out _ HB3.out).mono ?_; rintro e w4 ⟨v4, rfl, hv4, hb4⟩; obtain ⟨A4, c4, he4, _⟩ := own_form hv4; subst he4; have HR4 := Lib.hid (Rd.of_own hv4); have HB4 := Lib.hid (below_self HB3.out hb4); clear hv4 hb4)
      | (go_at_call 26; refine (H4.out _ HB4.out).mono ?_; rintro e w5 ⟨v5, rfl, hv5, hb5⟩; obtain ⟨A5, c5, he5, _⟩ := own_form hv5; subst he5; have HR5 := Lib.hid (Rd.of_own hv5); have HR45 := Lib.hid (HR4.out.below hb5); have HB5 := Lib.hid (below_self HB4.out hb5); clear hv5 hb5)
      | (go_at_call 22; with_reducible refine (equalU_b A4 A5 q q c4 c5 V V w5 HR45.out HR5.out (by unfold maxLen; omega) (by unfold maxLen; omega)).mono ?_; rintro e w6 ⟨rfl, hb6⟩; rw [decide_eq_true rfl]; have HB6 := Lib.hid (below_self HB5.out hb6); clear hb6)
      | (go_at_call 21; refine (HAW.out _).mono ?_; rintro e w7 ⟨rfl, hb7⟩; have HB7 := Lib.hid (below_self HB6.out hb7); clear hb7)
      | fail)
    go_ret
    exact ⟨rfl, HB7.out⟩
end Go.Proofs.Ytaiefneimjdmhaa
