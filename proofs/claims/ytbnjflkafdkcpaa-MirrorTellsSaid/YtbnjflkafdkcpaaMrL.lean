/- naskhlaw32: awake, MirrorTells, MirrorBack. -/
import Derived.Test.YtbnjflkafdkcpaaMrN
import Derived.Test.YtbnjflkafdkcpaaEq
import Derived.Test.YtbnjflkafdkcpaaCloneI
namespace Go.Proofs.Ytbnjflkafdkcpaa
open Go.RowKit

theorem mirF_wf {c : Int} (h : (Lit.int .i64 c).wf = true) : (Lit.int .i64 (mirF c)).wf = true := by
  by_cases hm : c ∈ codesP mirL
  · have hall : ((codesP mirL).all fun c => (Lit.int .i64 (mirF c)).wf) = true := by decide +kernel
    exact List.all_eq_true.1 hall c hm
  · rw [mirF_apart hm]; exact h
theorem mrV_wf {c y : Int} (h : (Lit.int .i64 c).wf = true) : (Lit.int .i64 (mrV c y)).wf = true := by
  unfold mrV
  split
  · exact h
  · exact mirF_wf h
theorem mr_awake : mrF [40, 40] [0, 1] = [40, 41] := by decide +kernel
theorem mr_awake2 : mrN [40] [1] (mrF [40] [1]).length = 1 := by decide +kernel
theorem mr_len (cs lv : List Int) : (mrF cs lv).length ≤ cs.length := by
  unfold mrF
  split
  · rw [List.length_zipWith]; omega
  · simp
set_option maxRecDepth 100000 in
set_option maxHeartbeats 2000000 in
theorem awakeMr_any (w : World) : Calls Try.prog 18 #[] w fun e w' => e = .returned (.bool true) ∧ Below w.heap.size w w' := by
  have HV := Lib.hid (mrCodes_any (some ⟨w.heap.size, 0, none⟩) (some ⟨w.heap.size + 1, 0, none⟩) 2 2 2 2 [40, 40] [0, 1] ((w.alloc (.cells #[.int .i64 40, .int .i64 40] 3)).alloc (.cells #[.int .i64 0, .int .i64 1] 3)) ((Rd.new_ w [.int .i64 40, .int .i64 40] 3).alloc _) (by have := Rd.new_ (w.alloc (.cells #[.int .i64 40, .int .i64 40] 3)) [.int .i64 0, .int .i64 1] 3; simpa using this) (by decide) (by omega))
  rw [mr_awake] at HV
  have HB1 : Hid (Below w.heap.size w ((w.alloc (.cells #[.int .i64 40, .int .i64 40] 3)).alloc (.cells #[.int .i64 0, .int .i64 1] 3))) := Lib.hid ((below_new w _).alloc (by simp) _)
  have HC := Lib.hid (fun (W : World) => mrCount_any (some ⟨W.heap.size, 0, none⟩) (some ⟨W.heap.size + 1, 0, none⟩) 1 1 1 1 [40] [1] ((W.alloc (.cells #[.int .i64 40] 3)).alloc (.cells #[.int .i64 1] 3)) ((Rd.new_ W [.int .i64 40] 3).alloc _) (by have := Rd.new_ (W.alloc (.cells #[.int .i64 40] 3)) [.int .i64 1] 3; simpa using this) (by decide) (by omega))
  rw [mr_awake2] at HC
  have HB9 := Lib.hid (fun (W : World) => show Below W.heap.size W ((W.alloc (.cells #[.int .i64 40] 3)).alloc (.cells #[.int .i64 1] 3)) from (below_new W _).alloc (by simp) _)
  go_enter Try.func18, Try.ntmps18
  go_wp2_with (first
    | (go_at_call 20; refine HV.out.mono ?_; rintro e w3 ⟨v3, rfl, hv3, hb3⟩; obtain ⟨A3, c3, he3, _⟩ := own_form hv3; subst he3; have HV3 := Lib.hid hv3; have HB3 := Lib.hid (below_self HB1.out hb3); clear hv3 hb3)
    | (go_at_call 14; refine (equalInt_b A3 (some ⟨w3.heap.size, 0, none⟩) 2 2 c3 2 [40, 41] [40, 41] (w3.alloc (.cells #[.int .i64 40, .int .i64 41] 3)) ((Rd.of_own HV3.out).alloc _) (Rd.new_ w3 [.int .i64 40, .int .i64 41] _) (by unfold maxLen; omega) (by unfold maxLen; omega)).mono ?_; rintro e w5 ⟨rfl, hb5⟩; have HB5 := Lib.hid (below_self HB3.out (below_self (below_new w3 _) hb5)); clear hb5)
    | (go_at_call 22; refine (HC.out w5).mono ?_; rintro e w6 ⟨rfl, hb6⟩; have HB6 := Lib.hid (below_self HB5.out (below_self (HB9.out w5) hb6)); clear hb6)
    | fail)
  go_ret
  exact ⟨rfl, HB6.out⟩
set_option maxRecDepth 100000 in
set_option maxHeartbeats 2000000 in
theorem mirrorBack_any (A B : Option Addr) (n c m d : Nat) (cs lv : List Int) (w : World) (hr : Rd w 1 A n (cs.map (Value.int .i64))) (hs : Rd w 1 B m (lv.map (Value.int .i64))) (hwf : ∀ x ∈ cs, (Lit.int .i64 x).wf = true) :
    Calls Try.prog 7 #[.slice A n c, .slice B m d] w fun e w' => e = .returned (.bool true) ∧ Below w.heap.size w w' := by
  have hcl : cs.length = n := by simpa using hr.len1
  have hll : lv.length = m := by simpa using hs.len1
  have HAW := Lib.hid awakeMr_any
  by_cases hg : 500 < n ∨ n ≠ m
  · have HG : Hid (500 < n ∨ n ≠ m) := Lib.hid hg
    clear hr hs hcl hll hwf
    by_cases hn5 : 500 < n
    · have g1 : (500 : Int) < (n : Int) := by omega
      clear hg HG
      go_enter Try.func7, Try.ntmps7
      go_wp2_with (first
        | (go_at_call 18; refine (HAW.out _).mono ?_; rintro e w1 ⟨rfl, hb1⟩)
        | fail)
      go_ret
      exact ⟨rfl, hb1⟩
    · have g1 : ¬ (500 : Int) < (n : Int) := by omega
      have g2 : ((n : Int) != (m : Int)) = true := by simp; omega
      clear hg HG
      go_enter Try.func7, Try.ntmps7
      go_wp2_with (first
        | (go_at_call 18; refine (HAW.out _).mono ?_; rintro e w1 ⟨rfl, hb1⟩)
        | fail)
      go_ret
      exact ⟨rfl, hb1⟩
  · obtain rfl : n = m := by omega
    have hn5 : n ≤ 500 := by omega
    have g1 : ¬ (500 : Int) < (n : Int) := by omega
    have hE : cs.length = lv.length := by omega
    have hml : (mrF cs lv).length = n := by rw [mrF_len hE, hcl]
    have HBK := Lib.hid (mr_back hE)
    have H1 := Lib.hid (mrCodes_any A B n c n d cs lv w hr hs hwf (by omega))
    have HWF : Hid (∀ x ∈ mrF cs lv, (Lit.int .i64 x).wf = true) := Lib.hid (fun x hx => by
      obtain ⟨k, hk⟩ := List.getElem?_of_mem hx
      have hkl := (List.getElem?_eq_some_iff.1 hk).1
      have e := mrF_at hE (List.getElem?_eq_getElem (show k < cs.length by omega)) (List.getElem?_eq_getElem (show k < lv.length by omega))
      rw [e] at hk
      obtain rfl := Option.some.inj hk
      exact mrV_wf (hwf _ (List.getElem_mem _)))
    obtain ⟨V, hV⟩ : ∃ V, mrF cs lv = V := ⟨_, rfl⟩
    rw [hV] at H1 HBK hml HWF
    have H2 := Lib.hid (fun (W : World) (A1 : Option Addr) (c1 : Nat) (hB : Below w.heap.size w W) (h : Rd W 1 A1 n (V.map (Value.int .i64))) => mrCodes_any A1 B n c1 n d V lv W h (hs.below hB) HWF.out (by omega))
    rw [HBK.out] at H2
    have HR := Lib.hid hr
    rw [hml] at H1
    rw [hcl] at H2
    clear hr hs hV hwf hE hg
    go_enter Try.func7, Try.ntmps7
    go_wp2_with (first
      | (go_at_call 20; with_reducible (refine H1.out.mono ?_); rintro e w1 ⟨v1, rfl, hv1, hb1⟩; obtain ⟨A1, c1, he1, _⟩ := own_form hv1; subst he1; have HR1 := Lib.hid (Rd.of_own hv1); have HB1 := Lib.hid hb1; have H2' := Lib.hid (H2.out w1 A1 c1 HB1.out HR1.out); clear hv1 hb1 H1)
      | (go_at_call 20; with_reducible (refine H2'.out.mono ?_); rintro e w2 ⟨v2, rfl, hv2, hb2⟩; obtain ⟨A2, c2, he2, _⟩ := own_form hv2; subst he2; have HR2 := Lib.hid (Rd.of_own hv2); have HB2 := Lib.hid (below_self HB1.out hb2); clear hv2 hb2)
      | (go_at_call 14; refine (equalInt_b A2 A n n c2 c cs cs _ HR2.out (HR.out.below HB2.out) (by unfold maxLen; omega) (by unfold maxLen; omega)).mono ?_; rintro e w5 ⟨rfl, hb5⟩; rw [decide_eq_true rfl]; have HB5 := Lib.hid (below_self HB2.out hb5); clear hb5)
      | (go_at_call 18; refine (HAW.out _).mono ?_; rintro e w7 ⟨rfl, hb7⟩; have HB7 := Lib.hid (below_self HB5.out hb7); clear hb7)
      | fail)
    go_ret
    exact ⟨rfl, HB7.out⟩
end Go.Proofs.Ytbnjflkafdkcpaa
