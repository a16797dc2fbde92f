/- naskhlaw32.MirrorTells. -/
import Derived.Test.YtbnjflkafdkcpaaMrL
namespace Go.Proofs.Ytbnjflkafdkcpaa
open Go.RowKit
theorem oneIntsM (l : List Int) : ∀ u ∈ l.map (Value.int .i64), u.oneCell' = true := fun u hu => by
  obtain ⟨x, _, rfl⟩ := List.mem_map.1 hu
  rfl
set_option maxRecDepth 100000 in
set_option maxHeartbeats 2000000 in
theorem mirrorTells_any (A B : Option Addr) (n c m d : Nat) (cs lv : List Int) (w : World) (hr : Rd w 1 A n (cs.map (Value.int .i64))) (hs : Rd w 1 B m (lv.map (Value.int .i64))) (hwf : ∀ x ∈ cs, (Lit.int .i64 x).wf = true) :
    Calls Try.prog 6 #[.slice A n c, .slice B m d] w fun e w' => e = .returned (.bool true) ∧ Below w.heap.size w w' := by
  have hcl : cs.length = n := by simpa using hr.len1
  have HAW := Lib.hid awakeMr_any
  by_cases hg : 500 < n ∨ 500 < m
  · clear hr hs hcl hwf
    by_cases hn5 : 500 < n
    · have g1 : (500 : Int) < (n : Int) := by omega
      clear hg
      go_enter Try.func6, Try.ntmps6
      go_wp2_with (first
        | (go_at_call 18; refine (HAW.out _).mono ?_; rintro e w1 ⟨rfl, hb1⟩)
        | fail)
      go_ret
      exact ⟨rfl, hb1⟩
    · have g1 : ¬ (500 : Int) < (n : Int) := by omega
      have g2 : (500 : Int) < (m : Int) := by omega
      clear hg
      go_enter Try.func6, Try.ntmps6
      go_wp2_with (first
        | (go_at_call 18; refine (HAW.out _).mono ?_; rintro e w1 ⟨rfl, hb1⟩)
        | fail)
      go_ret
      exact ⟨rfl, hb1⟩
  · have hn5 : n ≤ 500 := by omega
    have hm5 : m ≤ 500 := by omega
    have g1 : ¬ (500 : Int) < (n : Int) := by omega
    have g2 : ¬ (500 : Int) < (m : Int) := by omega
    have hml : (mrF cs lv).length ≤ 500 := by have := mr_len cs lv; omega
    have H0 := Lib.hid (cloneInt_any A n c (cs.map (Value.int .i64)) w hr (oneIntsM cs) (by omega))
    have H1 := Lib.hid (fun W (hB : Below w.heap.size w W) => mrCodes_any A B n c m d cs lv W (hr.below hB) (hs.below hB) hwf (by omega))
    have H2 := Lib.hid (fun W (hB : Below w.heap.size w W) => rmCodes_any A B n c m d cs lv W (hr.below hB) (hs.below hB) (by omega))
    have H3 := Lib.hid (fun W (hB : Below w.heap.size w W) => mrCount_any A B n c m d cs lv W (hr.below hB) (hs.below hB) hwf (by omega))
    have H4 := Lib.hid (fun W (hB : Below w.heap.size w W) => rmCount_any A B n c m d cs lv W (hr.below hB) (hs.below hB) (by omega))
    obtain ⟨q, hq⟩ : ∃ q, mrN cs lv (mrF cs lv).length = q := ⟨_, rfl⟩
    rw [hq] at H3 H4
    obtain ⟨V, hV⟩ : ∃ V, mrF cs lv = V := ⟨_, rfl⟩
    rw [hV] at H1 H2 hml
    obtain ⟨p, hp⟩ : ∃ p, V.length = p := ⟨_, rfl⟩
    rw [hp] at H1 H2 hml
    have HR := Lib.hid hr
    clear hr hs hV hwf hg hq hp hcl
    go_enter Try.func6, Try.ntmps6
    go_wp2_with (first
      | (go_at_call 19; refine H0.out.mono ?_; rintro e w1 ⟨v1, rfl, hv1, hb1⟩; obtain ⟨A1, c1, he1, _⟩ := own_form hv1; subst he1; have HR1 := Lib.hid (Rd.of_own hv1); have HB1 := Lib.hid hb1; clear hv1 hb1)
      | (go_at_call 20; refine (H1.out _ HB1.out).mono ?_; rintro e w2 ⟨v2, rfl, hv2, hb2⟩; obtain ⟨A2, c2, he2, _⟩ := own_form hv2; subst he2; have HR2 := Lib.hid (Rd.of_own hv2); have HR12 := Lib.hid (HR1.out.below hb2); have HB2 := Lib.hid (below_self HB1.out hb2); clear hv2 hb2)
      | (go_at_call 21; refine (H2.out _ HB2.out).mono ?_; rintro e w3 ⟨v3, rfl, hv3, hb3⟩; obtain ⟨A3, c3, he3, _⟩ := own_form hv3; subst he3; have HR3 := Lib.hid (Rd.of_own hv3); have HR23 := Lib.hid (HR2.out.below hb3); have HR13 := Lib.hid (HR12.out.below hb3); have HB3 := Lib.hid (below_self HB2.out hb3); clear hv3 hb3)
      | (go_at_call 14; refine (equalInt_b A2 A3 p p c2 c3 V V _ HR23.out HR3.out (by unfold maxLen; omega) (by unfold maxLen; omega)).mono ?_; rintro e w4 ⟨rfl, hb4⟩; rw [decide_eq_true rfl]; have HB4 := Lib.hid (below_self HB3.out hb4); have HR14 := Lib.hid (HR13.out.below hb4); clear hb4 HR23)
      | (go_at_call 22; refine (H3.out _ HB4.out).mono ?_; rintro e w5 ⟨rfl, hb5⟩; have HB5 := Lib.hid (below_self HB4.out hb5); have HR15 := Lib.hid (HR14.out.below hb5); clear hb5)
      | (go_at_call 23; refine (H4.out _ HB5.out).mono ?_; rintro e w6 ⟨rfl, hb6⟩; have HB6 := Lib.hid (below_self HB5.out hb6); have HR16 := Lib.hid (HR15.out.below hb6); clear hb6)
      | (go_at_call 14; refine (equalInt_b A A1 n n c c1 cs cs _ (HR.out.below HB6.out) HR16.out (by unfold maxLen; omega) (by unfold maxLen; omega)).mono ?_; rintro e w7 ⟨rfl, hb7⟩; rw [decide_eq_true rfl]; have HB7 := Lib.hid (below_self HB6.out hb7); clear hb7)
      | (go_at_call 18; refine (HAW.out _).mono ?_; rintro e w8 ⟨rfl, hb8⟩; have HB8 := Lib.hid (below_self HB7.out hb8); clear hb8)
      | fail)
    go_ret
    exact ⟨rfl, HB8.out⟩
end Go.Proofs.Ytbnjflkafdkcpaa
