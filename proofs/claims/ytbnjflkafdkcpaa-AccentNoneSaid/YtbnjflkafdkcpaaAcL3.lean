/- naskhlaw31.AccentNone. -/
import Derived.Test.YtbnjflkafdkcpaaAcAw
import Derived.Test.YtbnjflkafdkcpaaRoVi
namespace Go.Proofs.Ytbnjflkafdkcpaa
open Go.RowKit

theorem accR_none (ls : List Int) : accR (visI ls) ls (List.replicate ls.length false) = visI ls := by
  unfold accR
  rw [if_neg (by rw [visI_len, List.length_replicate]; omega), if_neg (by rw [visI_perm]; decide), grp_none]
  · rfl
  · intro k
    rw [List.getD_eq_getElem?_getD, List.getElem?_replicate]
    split <;> rfl
theorem accE_none (ls : List Int) : accE (visI ls) ls (List.replicate ls.length false) = 0 := by
  unfold accE
  rw [if_neg (by rw [visI_len, List.length_replicate]; omega), if_neg (by rw [visI_perm]; decide)]
set_option maxRecDepth 100000 in
set_option maxHeartbeats 2000000 in
theorem accentNone_any (A : Option Addr) (n c : Nat) (ls : List Int) (w : World) (hr : Rd w 1 A n (ls.map (Value.int .i64))) :
    Calls Try.prog 5 #[.slice A n c] w fun e w' => e = .returned (.bool true) ∧ Below w.heap.size w w' := by
  have HAW := Lib.hid awakeAc_any
  by_cases hg : 200 < n
  · have g1 : (200 : Int) < (n : Int) := by omega
    clear hr hg
    go_enter Try.func5, Try.ntmps5
    go_wp2_with (first
      | (go_at_call 8; refine (HAW.out _).mono ?_; rintro e w1 ⟨rfl, hb1⟩)
      | fail)
    go_ret
    exact ⟨rfl, hb1⟩
  · have g1 : ¬ (200 : Int) < (n : Int) := by omega
    have hll : ls.length = n := by simpa using hr.len1
    have H1 := Lib.hid (roVis_any A n c ls w hr (by omega))
    have H2 := Lib.hid (fun W (hB : Below w.heap.size w W) (A1 C : Option Addr) (c1 e : Nat) (h1 : Rd W 1 A1 n ((visI ls).map (Value.int .i64))) (h2 : Rd W 1 C n ((List.replicate n false).map Value.bool)) => acOrder_any A1 A C n n n c1 c e (visI ls) ls (List.replicate n false) W h1 (hr.below hB) h2 (by omega))
    have e1 := accR_none ls
    have e2 := accE_none ls
    rw [hll] at e1 e2
    have hvl : (visI ls).length = n := by rw [visI_len, hll]
    simp only [e1, e2, hvl] at H2
    obtain ⟨V, hV⟩ : ∃ V, visI ls = V := ⟨_, rfl⟩
    rw [hV] at H1 H2
    clear hr hg e1 e2 hvl hV hll
    go_enter Try.func5, Try.ntmps5
    go_wp2_with (first
      | (go_at_call 15; refine H1.out.mono ?_; rintro e w1 ⟨v1, rfl, hv1, hb1⟩; obtain ⟨A1, c1, he1, _⟩ := own_form hv1; subst he1; have HR1 := Lib.hid (Rd.of_own hv1); have HB1 := Lib.hid hb1; clear hv1 hb1)
      | (refine wpList_mkFull rfl _ _ _ rfl (base := w1.heap.size) (e := 4) (bytes := 1) (z := .bool false) Try.underlying23 (by kernel_rfl) rfl (n : Int) (n : Int) n rfl rfl rfl rfl (by omega) (by unfold maxLen; omega) (Nat.le_refl _) ?_; intro w2 hown2 hg2; have HBK := Lib.hid (below_make hg2); have HR2 : Hid (Rd w2 1 _ n ((List.replicate n false).map Value.bool)) := Lib.hid (by have := Rd.of_own hown2; rwa [List.map_replicate]); have HR12 := Lib.hid (HR1.out.below HBK.out); have HB2 := Lib.hid (below_self HB1.out HBK.out); clear hown2 hg2)
      | (go_at_call 9; refine (H2.out _ HB2.out _ _ _ _ HR12.out HR2.out).mono ?_; rintro e w3 ⟨v3, rfl, hv3, hb3⟩; obtain ⟨A3, c3, he3, _⟩ := own_form hv3; subst he3; have HR3 := Lib.hid (Rd.of_own hv3); have HR13 := Lib.hid (HR12.out.below hb3); have HB3 := Lib.hid (below_self HB2.out hb3); clear hv3 hb3)
      | (go_at_call 14; refine (equalInt_b A3 A1 n n c3 c1 V V _ HR3.out HR13.out (by unfold maxLen; omega) (by unfold maxLen; omega)).mono ?_; rintro e w6 ⟨rfl, hb6⟩; rw [decide_eq_true rfl]; have HB6 := Lib.hid (below_self HB3.out hb6); clear hb6)
      | (go_at_call 8; refine (HAW.out _).mono ?_; rintro e w8 ⟨rfl, hb8⟩; have HB8 := Lib.hid (below_self HB6.out hb8); clear hb8)
      | fail)
    go_ret
    exact ⟨rfl, HB8.out⟩
end Go.Proofs.Ytbnjflkafdkcpaa
