/- The reference's Tail; naskhlaw16: awake, TailGives, TailTakes, TailBack. -/
import Derived.Test.YtapdfnffpikeeaaTlR
import Derived.Test.YtapdfnffpikeeaaEq
import Derived.Deep.RegionHeld3
import Derived.Test.YtapdfnffpikeeaaMem3
namespace Go.Proofs.Ytapdfnffpikeeaa
open Go.RowKit

set_option maxRecDepth 100000 in
set_option maxHeartbeats 1000000 in
theorem rfTail_any (b f : Int) (s y : Bool) (w : World) : Calls Try.prog 7 #[.int .i64 b, .int .i64 f, .bool s, .bool y] w (TlGives w (tailF b f s y)) := by
  obtain ⟨v, hv⟩ : ∃ v, seenB b = v := ⟨_, rfl⟩
  obtain ⟨z, hz⟩ : ∃ z, decide (b = 1574) = z := ⟨_, rfl⟩
  obtain ⟨c3, o3, hc3⟩ : ∃ c ok, formF b 3 = (c, ok) := ⟨_, _, rfl⟩
  obtain ⟨c4, o4, hc4⟩ : ∃ c ok, formF b 4 = (c, ok) := ⟨_, _, rfl⟩
  have hy : (b == 1574) = z := by rw [eq_dec, hz]
  have HS := Lib.hid (fun w => rfSeen_of b v hv w)
  have H3 := Lib.hid (fun w => refForm_any b 3 c3 o3 hc3 w)
  have H4 := Lib.hid (fun w => refForm_any b 4 c4 o4 hc4 w)
  have key : (f = 1 ∨ f = 2) → tailF b f s y = if (s && v) = true then ([(formF b (goesF f)).1, 65139], true) else if (y && z) = true then ([(bareF f).1, 65152], true) else ([], false) := fun hf => by
    by_cases h1 : s = true ∧ seenB b = true
    · rw [tailF_seen y h1 hf, if_pos (by rw [← hv, h1.1, h1.2]; rfl)]
    · rw [if_neg (by rw [← hv]; simpa using h1)]
      by_cases h2 : y = true ∧ b = 1574
      · rw [tailF_yeh h1 h2 hf, if_pos (by rw [← hz, h2.1, decide_eq_true h2.2]; rfl)]
      · rw [tailF_no f h1 h2, if_neg (by rw [← hz]; simpa using h2)]
  by_cases h1 : f = 1
  · subst h1
    have HE := Lib.hid (key (.inl rfl))
    rw [show goesF 1 = 3 from rfl, show bareF 1 = (65263, true) from rfl, hc3] at HE
    clear key hv hz hc3 hc4
    cases s <;> cases v <;> cases y <;> cases z
    all_goals
      rw [HE.out]
      go_enter Try.func7, Try.ntmps7
      go_wp2_with (first
        | (go_at_call 10; with_reducible refine (HS.out _).mono ?_; rintro e w2 ⟨rfl, rfl⟩)
        | fail)
      first
        | exact bodyPost_ret (v := .tuple #[.slice none 0 0, .bool false]) (by simp [results, go_sem]) rfl ⟨none, 0, 0, rfl, Nat.le_refl _, by omega, Rd.nil_, Below.refl _ _⟩
        | exact bodyPost_ret (v := .tuple #[.slice (some ⟨w.heap.size, 0, none⟩) 2 2, .bool true]) (by simp [results, go_sem]) rfl ⟨_, 2, 2, rfl, Nat.le_refl _, Nat.le_refl _, rdTwo w _ _ _, below_new w _⟩
        | (refine (H4.out _).mono ?_
           rintro e w2 ⟨rfl, hb2⟩
           go_wp2_with fail
           refine (H3.out _).mono ?_
           rintro e w3 ⟨rfl, hb3⟩
           go_wp2_with fail
           exact bodyPost_ret (v := .tuple #[.slice (some ⟨w3.heap.size, 0, none⟩) 2 2, .bool true]) (by simp [results, go_sem]) rfl ⟨_, 2, 2, rfl, Nat.le_refl _, Nat.le_refl _, rdTwo w3 _ _ _, below_self (below_self hb2 hb3) (below_new w3 _)⟩)
  · by_cases h2 : f = 2
    · subst h2
      have HE := Lib.hid (key (.inr rfl))
      rw [show goesF 2 = 4 from rfl, show bareF 2 = (65264, true) from rfl, hc4] at HE
      clear key hv hz hc3 hc4 h1
      cases s <;> cases v <;> cases y <;> cases z
      all_goals
        rw [HE.out]
        go_enter Try.func7, Try.ntmps7
        go_wp2_with (first
          | (go_at_call 10; with_reducible refine (HS.out _).mono ?_; rintro e w2 ⟨rfl, rfl⟩)
          | fail)
        first
          | exact bodyPost_ret (v := .tuple #[.slice none 0 0, .bool false]) (by simp [results, go_sem]) rfl ⟨none, 0, 0, rfl, Nat.le_refl _, by omega, Rd.nil_, Below.refl _ _⟩
          | exact bodyPost_ret (v := .tuple #[.slice (some ⟨w.heap.size, 0, none⟩) 2 2, .bool true]) (by simp [results, go_sem]) rfl ⟨_, 2, 2, rfl, Nat.le_refl _, Nat.le_refl _, rdTwo w _ _ _, below_new w _⟩
          | (refine (H4.out _).mono ?_
             rintro e w2 ⟨rfl, hb2⟩
             go_wp2_with fail
             exact bodyPost_ret (v := .tuple #[.slice (some ⟨w2.heap.size, 0, none⟩) 2 2, .bool true]) (by simp [results, go_sem]) rfl ⟨_, 2, 2, rfl, Nat.le_refl _, Nat.le_refl _, rdTwo w2 _ _ _, below_self hb2 (below_new w2 _)⟩)
    · have HE := Lib.hid (tailF_form b f s y h1 h2)
      have g1 : (f == 1) = false := by simp [h1]
      have g2 : (f != 2) = true := by simp [h2]
      clear key hv hz hc3 hc4 h1 h2
      rw [HE.out]
      go_enter Try.func7, Try.ntmps7
      go_wp2_with fail
      exact bodyPost_ret (v := .tuple #[.slice none 0 0, .bool false]) (by simp [results, go_sem]) rfl ⟨none, 0, 0, rfl, Nat.le_refl _, by omega, Rd.nil_, Below.refl _ _⟩
set_option maxRecDepth 100000 in
set_option maxHeartbeats 4000000 in
theorem awakeTl_any (w : World) : Calls Try.prog 11 #[] w fun e w' => e = .returned (.bool true) ∧ Below w.heap.size w w' := by
  have H1 := Lib.hid (show tailF 1587 1 true false = ([65203, 65139], true) by decide +kernel)
  have H2 := Lib.hid (show backF 65203 65139 true false = (1587, true) by decide +kernel)
  go_enter Try.func11, Try.ntmps11
  go_wp2_with fail
  refine (tlTail_any 1587 1 true false _).mono ?_
  rintro e w1 ⟨A, n, k, rfl, hnk, hk, hrd, hb1⟩
  rw [H1.out] at hrd ⊢
  simp only at hrd ⊢
  have hn : n = 2 := by have := hrd.len1; simpa using this.symm
  subst hn
  have HRD := Lib.hid hrd
  have HB1 := Lib.hid hb1
  clear hrd hb1
  go_wp2_with fail
  refine (tlBack_any 65203 65139 true false _).mono ?_
  rintro e w2 ⟨rfl, hb2⟩
  rw [H2.out]
  simp only
  have HB2 := Lib.hid (below_self HB1.out hb2)
  have HRD2 := Lib.hid (HRD.out.below hb2)
  clear hb2
  go_wp2_with fail
  refine (equalInt_b A _ 2 2 k 2 [65203, 65139] [65203, 65139] _ (HRD2.out.alloc _) (rdTwo w2 65203 65139 _) (by unfold maxLen; omega) (by unfold maxLen; omega)).mono ?_
  rintro e w3 ⟨rfl, hb3⟩
  rw [decide_eq_true rfl]
  have HB3 := Lib.hid (below_self (below_self HB2.out (below_new w2 _)) hb3)
  clear hb3
  go_wp2_with fail
  refine (tlSeen_of 1590 true (by decide) _).mono ?_
  rintro e w4 ⟨rfl, rfl⟩
  go_wp2_with fail
  go_ret
  exact ⟨rfl, HB3.out⟩
set_option maxRecDepth 100000 in
set_option maxHeartbeats 4000000 in
theorem tailGives_any (b f : Int) (s y : Bool) (w : World) : Calls Try.prog 3 #[.int .i64 b, .int .i64 f, .bool s, .bool y] w fun e w' => e = .returned (.bool true) ∧ Below w.heap.size w w' := by
  obtain ⟨l, ok, h1⟩ : ∃ l ok, tailF b f s y = (l, ok) := ⟨_, _, rfl⟩
  obtain ⟨v, hv⟩ : ∃ v, seenB b = v := ⟨_, rfl⟩
  have HT := Lib.hid (fun w => tlTail_any b f s y w)
  have HR := Lib.hid (fun w => rfTail_any b f s y w)
  have HS := Lib.hid (fun w => tlSeen_of b v hv w)
  have HZ := Lib.hid (fun w => rfSeen_of b v hv w)
  rw [h1] at HT HR
  clear h1 hv
  go_enter Try.func3, Try.ntmps3
  go_wp2_with fail
  refine (HT.out _).mono ?_
  rintro e w1 ⟨A, n, k, rfl, hnk, hk, hrd, hb1⟩
  have HRD := Lib.hid hrd
  have HB1 := Lib.hid hb1
  clear hrd hb1
  go_wp2_with fail
  refine (HR.out _).mono ?_
  rintro e w2 ⟨B, m, j, rfl, hmj, hj, hrd, hb2⟩
  have HRE := Lib.hid hrd
  have HB2 := Lib.hid (below_self HB1.out hb2)
  have HRD2 := Lib.hid (HRD.out.below hb2)
  clear hrd hb2
  go_wp2_with fail
  refine (equalInt_b A B n m k j l l _ HRD2.out HRE.out (by unfold maxLen; omega) (by unfold maxLen; omega)).mono ?_
  rintro e w3 ⟨rfl, hb3⟩
  rw [decide_eq_true rfl]
  have hbz := below_self HB2.out hb3
  clear hb3
  cases ok <;> cases v
  all_goals
    go_wp2_with (first
      | (go_at_call 9; with_reducible refine (HS.out _).mono ?_; rintro e w3 ⟨rfl, rfl⟩)
      | (go_at_call 10; with_reducible refine (HZ.out _).mono ?_; rintro e w3 ⟨rfl, rfl⟩)
      | (go_at_call 11; with_reducible refine (awakeTl_any _).mono ?_; rintro e w3 ⟨rfl, h9⟩; replace hbz := below_self hbz h9; clear h9)
      | fail)
    go_ret
    exact ⟨rfl, hbz⟩
set_option maxRecDepth 100000 in
set_option maxHeartbeats 4000000 in
theorem tailTakes_any (a b : Int) (s y : Bool) (w : World) : Calls Try.prog 4 #[.int .i64 a, .int .i64 b, .bool s, .bool y] w fun e w' => e = .returned (.bool true) ∧ Below w.heap.size w w' := by
  obtain ⟨x, ok, h1⟩ : ∃ l ok, backF a b s y = (l, ok) := ⟨_, _, rfl⟩
  have HT := Lib.hid (fun w => tlBack_any a b s y w)
  have HR := Lib.hid (fun w => rfBack_any a b s y w)
  rw [h1] at HT HR
  clear h1
  go_enter Try.func4, Try.ntmps4
  go_wp2_with fail
  refine (HT.out _).mono ?_
  rintro e w1 ⟨rfl, hb1⟩
  go_wp2_with fail
  refine (HR.out _).mono ?_
  rintro e w2 ⟨rfl, hb2⟩
  have hbz := below_self hb1 hb2
  clear hb1 hb2
  cases ok
  all_goals
    go_wp2_with (first
      | (go_at_call 11; with_reducible refine (awakeTl_any _).mono ?_; rintro e w3 ⟨rfl, h9⟩; replace hbz := below_self hbz h9; clear h9)
      | fail)
    go_ret
    exact ⟨rfl, hbz⟩
set_option maxRecDepth 100000 in
set_option maxHeartbeats 4000000 in
theorem tailBack_any (b f : Int) (s y : Bool) (w : World) : Calls Try.prog 5 #[.int .i64 b, .int .i64 f, .bool s, .bool y] w fun e w' => e = .returned (.bool true) ∧ Below w.heap.size w w' := by
  have HT := Lib.hid (fun w => tlTail_any b f s y w)
  cases hok : (tailF b f s y).2 with
  | false =>
    have h1 : tailF b f s y = ([], false) := Prod.ext (tailF_len b f s y hok) hok
    rw [h1] at HT
    clear h1 hok
    go_enter Try.func5, Try.ntmps5
    go_wp2_with fail
    refine (HT.out _).mono ?_
    rintro e w1 ⟨A, n, k, rfl, hnk, hk, hrd, hb1⟩
    have hn : n = 0 := by have := hrd.len1; simpa using this.symm
    subst hn
    go_wp2_with fail
    refine (awakeTl_any _).mono ?_
    rintro e w2 ⟨rfl, hb2⟩
    go_wp2_with fail
    go_ret
    exact ⟨rfl, below_self hb1 hb2⟩
  | true =>
    obtain ⟨c, t, h2, h3⟩ := tail_back hok
    have h1 : tailF b f s y = ([c, t], true) := Prod.ext h2 hok
    rw [h1] at HT
    have HB := Lib.hid (fun w => tlBack_any c t s y w)
    rw [h3] at HB
    clear h1 h2 h3 hok
    go_enter Try.func5, Try.ntmps5
    go_wp2_with fail
    refine (HT.out _).mono ?_
    rintro e w1 ⟨A, n, k, rfl, hnk, hk, hrd, hb1⟩
    have hn : n = 2 := by have := hrd.len1; simpa using this.symm
    subst hn
    obtain ⟨ad, rfl, _, hc⟩ := hrd.2 (by omega)
    have c0 : w1.cell? (ad.add 0) = some (.int .i64 c) := hc 0 _ rfl
    have c1 : w1.cell? (ad.add 1) = some (.int .i64 t) := hc 1 _ rfl
    have e0 : ad.add 0 = ad := by unfold Addr.add; rw [if_pos rfl]
    have c00 : w1.cell? ad = some (.int .i64 c) := by rw [← e0]; exact c0
    have c11 : w1.cell? ⟨ad.block, ad.off + 1, none⟩ = some (.int .i64 t) := c1
    clear hc c0 c1 e0 hrd
    go_wp2_with fail
    go_region_held3 (fun w' => w'.cell? ad = some (.int .i64 c) ∧ w'.cell? ⟨ad.block, ad.off + 1, none⟩ = some (.int .i64 t))
      (first | go_keep | exact ⟨cell_below hb2 c00, cell_below hb2 c11⟩)
      (first
        | (go_at_call 12; with_reducible refine (HB.out _).mono ?_; rintro e w2 ⟨rfl, hb2⟩)
        | fail)
    go_wp2_with fail
    refine (awakeTl_any _).mono ?_
    rintro e w3 ⟨rfl, hb3⟩
    go_wp2_with fail
    go_ret
    exact ⟨rfl, below_self (below_self hb1 (below_of_drew hb2)) hb3⟩
end Go.Proofs.Ytapdfnffpikeeaa
