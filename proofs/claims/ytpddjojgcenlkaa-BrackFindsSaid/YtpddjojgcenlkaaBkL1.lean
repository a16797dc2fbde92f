/- naskhlaw25.BrackFinds. -/
import Derived.Test.YtpddjojgcenlkaaBkAw
import Derived.Test.YtpddjojgcenlkaaRbF
import Derived.Test.YtpddjojgcenlkaaEqPr
namespace Go.Proofs.Ytpddjojgcenlkaa
open Go.RowKit

set_option maxRecDepth 100000 in
set_option maxHeartbeats 2000000 in
theorem brackFinds_any (A B : Option Addr) (n m c d : Nat) (cs ls : List Int) (w : World) (hr : Rd w 1 A n (cs.map (Value.int .i64))) (hs : Rd w 1 B m (ls.map (Value.int .i64))) (hn : n ≤ maxLen) (hm : m ≤ maxLen) :
    Calls Try.prog 3 #[.slice A n c, .slice B m d] w fun e w' => e = .returned (.bool true) ∧ Below w.heap.size w w' := by
  unfold maxLen at hn hm
  have HAW := Lib.hid awakeBk_any
  by_cases hn3 : 300 < n
  · have g1 : decide ((300 : Int) < (n : Int)) = true := decide_eq_true (by omega)
    go_enter Try.func3, Try.ntmps3
    go_wp2_with (first
      | (go_at_call 6; refine (HAW.out _).mono ?_; rintro e w1 ⟨rfl, hb1⟩)
      | fail)
    go_ret
    exact ⟨rfl, hb1⟩
  · have g1 : decide ((300 : Int) < (n : Int)) = false := decide_eq_false (by omega)
    by_cases hm3 : 300 < m
    · have g2 : decide ((300 : Int) < (m : Int)) = true := decide_eq_true (by omega)
      go_enter Try.func3, Try.ntmps3
      go_wp2_with (first
        | (go_at_call 6; refine (HAW.out _).mono ?_; rintro e w1 ⟨rfl, hb1⟩)
        | fail)
      go_ret
      exact ⟨rfl, hb1⟩
    · have g2 : decide ((300 : Int) < (m : Int)) = false := decide_eq_false (by omega)
      have HF := Lib.hid (bkFind_any A B n c m d cs ls w hr hs (by omega) (by omega))
      have HG := Lib.hid (fun W (hB : Below w.heap.size w W) => rbFind_any A B n c m d cs ls W (hr.below hB) (hs.below hB) (by omega) (by omega))
      obtain ⟨K, hK⟩ : ∃ K, (bkF cs ls).length = K := ⟨_, rfl⟩
      have hK3 : K ≤ 300 := by
        rw [← hK]
        unfold bkF
        split
        · have h1 := bk_outs (fun i => decide (ls.getD i 0 = 13)) (fun i => (braF (cs.getD i 0)).1) (fun o i => bmF (cs.getD o 0) (cs.getD i 0)) cs.length
          have h2 : cs.length = n := by simpa using hr.len1
          omega
        · simp
      rw [hK] at HF HG
      clear hr hs hK
      go_enter Try.func3, Try.ntmps3
      go_wp2_with (first
        | (go_at_call 8; refine HF.out.mono ?_; rintro e w1 ⟨v1, rfl, hv1, hb1⟩; obtain ⟨A1, c1, he1, _⟩ := own_form hv1; subst he1; have HR1 := Lib.hid (Rd.of_own hv1); have HB1 := Lib.hid hb1; clear hv1 hb1)
        | (go_at_call 9; refine (HG.out _ HB1.out).mono ?_; rintro e w2 ⟨v2, rfl, hv2, hb2⟩; obtain ⟨A2, c2, he2, _⟩ := own_form hv2; subst he2; have HR2 := Lib.hid (Rd.of_own hv2); have HR3 := Lib.hid (HR1.out.below hb2); have HB2 := Lib.hid (below_self HB1.out hb2); clear hv2 hb2)
        | (go_at_call 7; refine (equalPr_b A1 A2 K K c1 c2 _ _ w2 HR3.out HR2.out (by unfold maxLen; omega) (by unfold maxLen; omega)).mono ?_; rintro e w3 ⟨rfl, hb3⟩; rw [decide_eq_true rfl]; have HB3 := Lib.hid (below_self HB2.out hb3); clear hb3)
        | (go_at_call 6; refine (HAW.out _).mono ?_; rintro e w4 ⟨rfl, hb4⟩; have HB4 := Lib.hid (below_self HB3.out hb4); clear hb4)
        | fail)
      go_ret
      exact ⟨rfl, HB4.out⟩
end Go.Proofs.Ytpddjojgcenlkaa
