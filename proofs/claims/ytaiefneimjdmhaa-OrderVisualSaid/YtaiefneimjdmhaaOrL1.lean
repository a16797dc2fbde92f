/- naskhlaw29.OrderVisual. -/
import Derived.Test.YtaiefneimjdmhaaOrAw
namespace Go.Proofs.Ytaiefneimjdmhaa
open Go.RowKit
set_option maxRecDepth 100000 in
set_option maxHeartbeats 2000000 in
theorem orderVisual_any (A : Option Addr) (n c : Nat) (ls : List Int) (w : World) (hr : Rd w 1 A n (ls.map (Value.int .i64))) (hn : n ≤ maxLen) :
    Calls Try.prog 3 #[.slice A n c] w fun e w' => e = .returned (.bool true) ∧ Below w.heap.size w w' := by
  unfold maxLen at hn
  have HAW := Lib.hid awakeOr_any
  by_cases hm3 : 200 < n
  · have g1 : (200 : Int) < (n : Int) := by omega
    clear hr
    go_enter Try.func3, Try.ntmps3
    go_wp2_with (first
      | (go_at_call 10; refine (HAW.out _).mono ?_; rintro e w1 ⟨rfl, hb1⟩)
      | fail)
    go_ret
    exact ⟨rfl, hb1⟩
  · have g1 : ¬ (200 : Int) < (n : Int) := by omega
    have H1 := Lib.hid (orVis_any A n c ls w hr (by omega))
    have H2 := Lib.hid (fun W (hB : Below w.heap.size w W) => roVis_any A n c ls W (hr.below hB) (by omega))
    have HP := Lib.hid (visI_perm ls)
    obtain ⟨V, hV⟩ : ∃ V, visI ls = V := ⟨_, rfl⟩
    rw [hV] at H1 H2 HP
    clear hr hV
    go_enter Try.func3, Try.ntmps3
    go_wp2_with (first
      | (go_at_call 11; refine H1.out.mono ?_; rintro e w1 ⟨v1, rfl, hv1, hb1⟩; obtain ⟨A1, c1, he1, _⟩ := own_form hv1; subst he1; have HR1 := Lib.hid (Rd.of_own hv1); have HB1 := Lib.hid hb1; clear hv1 hb1)
      | (go_at_call 13; refine (H2.out _ HB1.out).mono ?_; rintro e w2 ⟨v2, rfl, hv2, hb2⟩; obtain ⟨A2, c2, he2, _⟩ := own_form hv2; subst he2; have HR2 := Lib.hid (Rd.of_own hv2); have HR3 := Lib.hid (HR1.out.below hb2); have HB2 := Lib.hid (below_self HB1.out hb2); clear hv2 hb2)
      | (go_at_call 12; refine (equalInt_b A1 A2 n n c1 c2 V V _ HR3.out HR2.out (by unfold maxLen; omega) (by unfold maxLen; omega)).mono ?_; rintro e w5 ⟨rfl, hb5⟩; rw [decide_eq_true rfl]; have HR5 := Lib.hid (HR3.out.below hb5); have HB5 := Lib.hid (below_self HB2.out hb5); clear hb5)
      | (go_at_call 14; refine (orPermutes_any A1 n c1 V _ HR5.out (by omega)).mono ?_; rintro e w6 ⟨rfl, hb6⟩; rw [HP.out]; have HB6 := Lib.hid (below_self HB5.out hb6); clear hb6)
      | (go_at_call 10; refine (HAW.out _).mono ?_; rintro e w7 ⟨rfl, hb7⟩; have HB7 := Lib.hid (below_self HB6.out hb7); clear hb7)
      | fail)
    go_ret
    exact ⟨rfl, HB7.out⟩
end Go.Proofs.Ytaiefneimjdmhaa
