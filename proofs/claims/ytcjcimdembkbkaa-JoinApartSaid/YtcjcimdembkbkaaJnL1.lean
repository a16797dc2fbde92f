/- naskhlaw13: awake, JoinForms, JoinPlaces. -/
import Derived.Test.YtcjcimdembkbkaaJnR
import Derived.Test.YtcjcimdembkbkaaJnFo
import Derived.Test.YtcjcimdembkbkaaEq
namespace Go.Proofs.Ytcjcimdembkbkaa
open Go.RowKit

theorem rd_intsZ {w : World} {g n : Nat} {l : List Int} {t : TypeId} (h : w.heap[g]? = some (.cells (intsZ l).toArray t (0, 0))) (hl : l.length = n) : Rd w 1 (some ⟨g, 0, none⟩) n (l.map (Value.int .i64)) := by
  refine ⟨by simp [hl], fun _ => ⟨_, rfl, hp_lt h, fun j u hu => ?_⟩⟩
  rw [addNew]
  exact hp_cell h (by simpa [intsZ] using hu)
theorem rd_own {w : World} {base n : Nat} {e : TypeId} {v : Value} {l : List Int} (h : w.ownsRow base e 1 v n (l.map (Value.int .i64))) : ∃ A c, v = .slice A n c ∧ n ≤ c ∧ Rd w 1 A n (l.map (Value.int .i64)) := by
  obtain ⟨A, c, rfl, hc⟩ := own_form h
  exact ⟨A, c, rfl, hc, Rd.of_own h⟩
theorem rdNew3 (w : World) (a b c : Int) (t : TypeId) : Rd (w.alloc (.cells #[.int .i64 a, .int .i64 b, .int .i64 c] t)) 1 (some ⟨w.heap.size, 0, none⟩) 3 (([a, b, c] : List Int).map (Value.int .i64)) :=
  Rd.new_ w [.int .i64 a, .int .i64 b, .int .i64 c] t
set_option maxRecDepth 100000 in
set_option maxHeartbeats 4000000 in
theorem awakeJn_any (w : World) : Calls Try.prog 11 #[] w fun e w' => e = .returned (.bool true) ∧ Below w.heap.size w w' := by
  have H1 := Lib.hid (show jForms [3, 1, 2] = [3, 0, 2] by decide +kernel)
  have H2 := Lib.hid (show jOver [3, 1, 2] 1 = true by decide +kernel)
  obtain ⟨xs, hxs⟩ : ∃ xs : List Int, xs = [3, 1, 2] := ⟨_, rfl⟩
  obtain ⟨ys, hys⟩ : ∃ ys : List Int, ys = [3, 0, 2] := ⟨_, rfl⟩
  rw [← hxs, ← hys] at H1
  rw [← hxs] at H2
  have HX := Lib.hid hxs
  have HY := Lib.hid hys
  clear hxs hys
  have hbz := below_new w (.cells #[.int .i64 3, .int .i64 1, .int .i64 2] 3)
  go_enter Try.func11, Try.ntmps11
  go_wp2_with fail
  have hr1 := rdNew3 w 3 1 2 3
  rw [← HX.out] at hr1
  refine (jnForms_any _ 3 3 xs _ hr1 (by omega)).mono ?_
  rintro e w1 ⟨⟨g, _, rfl, hg⟩, hb1⟩
  have HB1 := Lib.hid (below_self hbz hb1)
  have hrf := rd_intsZ hg (n := 3) (by rw [H1.out, HY.out] <;> rfl)
  have HRF := Lib.hid hrf
  clear hbz hb1 hr1 hg hrf
  go_wp2_with fail
  have hr2 := rdNew3 w1 3 0 2 3
  rw [← HY.out] at hr2
  have HB2 := Lib.hid (below_self HB1.out (below_new w1 (.cells #[.int .i64 3, .int .i64 0, .int .i64 2] 3)))
  refine (equalInt_b _ _ 3 3 3 3 (jForms xs) ys _ (HRF.out.alloc _) hr2 (by unfold maxLen; omega) (by unfold maxLen; omega)).mono ?_
  rintro e w2 ⟨rfl, hb2⟩
  rw [decide_eq_true H1.out]
  have HB3 := Lib.hid (below_self HB2.out hb2)
  clear hb2 hr2
  go_wp2_with fail
  have hr3 := rdNew3 w2 3 1 2 3
  rw [← HX.out] at hr3
  have HB4 := Lib.hid (below_self HB3.out (below_new w2 (.cells #[.int .i64 3, .int .i64 1, .int .i64 2] 3)))
  refine (jnOver_of _ 3 3 xs 1 true H2.out _ hr3 (by omega) (by omega)).mono ?_
  rintro e w3 ⟨rfl, hb3⟩
  have HB5 := Lib.hid (below_self HB4.out hb3)
  clear hb3 hr3
  go_wp2
  go_ret
  exact ⟨rfl, HB5.out⟩
set_option maxRecDepth 100000 in
set_option maxHeartbeats 4000000 in
theorem joinForms_any (A : Option Addr) (n c : Nat) (ts : List Int) (w : World) (hr : Rd w 1 A n (ts.map (Value.int .i64))) (hn : n ≤ maxLen) :
    Calls Try.prog 3 #[.slice A n c] w fun e w' => e = .returned (.bool true) ∧ Below w.heap.size w w' := by
  have hlen : ts.length = n := by simpa using hr.len1
  have HL := Lib.hid hlen
  unfold maxLen at hn
  by_cases hs : n ≤ 200
  · have HP := Lib.hid (jnForms_any A n c ts w hr (by omega))
    have HR := Lib.hid hr
    clear hlen hr
    go_enter Try.func3, Try.ntmps3
    go_wp2_with fail
    refine HP.out.mono ?_
    rintro e w1 ⟨⟨g, _, rfl, hg⟩, hb1⟩
    have hrf := rd_intsZ hg (n := n) (by rw [jForms_len, HL.out])
    have HRF := Lib.hid hrf
    have HB1 := Lib.hid hb1
    clear hb1 hg hrf
    go_wp2_with fail
    refine (refForms_any A n c ts w1 (HR.out.below HB1.out) (by omega)).mono ?_
    rintro e w2 ⟨⟨v, rfl, hown⟩, hb2⟩
    obtain ⟨B, d, rfl, _, hr2⟩ := rd_own hown
    have HB2 := Lib.hid (below_self HB1.out hb2)
    have HRF2 := Lib.hid (HRF.out.below hb2)
    have HR2 := Lib.hid hr2
    clear hb2 hown hr2
    go_wp2_with fail
    refine (equalInt_b _ _ n n n d (jForms ts) (jForms ts) _ HRF2.out HR2.out (by unfold maxLen; omega) (by unfold maxLen; omega)).mono ?_
    rintro e w3 ⟨rfl, hb3⟩
    rw [decide_eq_true rfl]
    have HB3 := Lib.hid (below_self HB2.out hb3)
    clear hb3
    go_wp2_with fail
    refine (awakeJn_any _).mono ?_
    rintro e w4 ⟨rfl, hb4⟩
    have HB4 := Lib.hid (below_self HB3.out hb4)
    clear hb4
    go_wp2
    go_ret
    exact ⟨rfl, HB4.out⟩
  · clear hr hlen
    go_enter Try.func3, Try.ntmps3
    go_wp2_with fail
    refine (awakeJn_any _).mono ?_
    rintro e w4 ⟨rfl, hb4⟩
    go_wp2
    go_ret
    exact ⟨rfl, hb4⟩
set_option maxRecDepth 100000 in
set_option maxHeartbeats 4000000 in
theorem joinPlaces_any (A : Option Addr) (n c : Nat) (ts : List Int) (i : Int) (w : World) (hr : Rd w 1 A n (ts.map (Value.int .i64))) (hn : n ≤ maxLen) (hnc : n ≤ c) :
    Calls Try.prog 4 #[.slice A n c, .int .i64 i] w fun e w' => e = .returned (.bool true) ∧ Below w.heap.size w w' := by
  have HR := Lib.hid hr
  unfold maxLen at hn
  obtain ⟨qa, h1⟩ : ∃ q, jAhead ts i = q := ⟨_, rfl⟩
  obtain ⟨qb, h2⟩ : ∃ q, jBehind ts i = q := ⟨_, rfl⟩
  obtain ⟨qj, h3⟩ : ∃ q, jJoined ts i = q := ⟨_, rfl⟩
  obtain ⟨qo, h4⟩ : ∃ q, jOver ts i = q := ⟨_, rfl⟩
  by_cases hs : n ≤ 500
  · have HA := Lib.hid (fun w1 (h : Rd w1 1 A n (ts.map (Value.int .i64))) => jnAhead_any A n c ts i w1 h (by omega) hnc)
    have HA' := Lib.hid (fun w1 (h : Rd w1 1 A n (ts.map (Value.int .i64))) => refAhead_any A n c ts i w1 h (by omega))
    have HB := Lib.hid (fun w1 (h : Rd w1 1 A n (ts.map (Value.int .i64))) => jnBehind_any A n c ts i w1 h (by omega))
    have HB' := Lib.hid (fun w1 (h : Rd w1 1 A n (ts.map (Value.int .i64))) => refBehind_any A n c ts i w1 h (by omega))
    have HJ := Lib.hid (fun w1 (h : Rd w1 1 A n (ts.map (Value.int .i64))) => jnJoined_of A n c ts i qj h3 w1 h (by omega))
    have HJ' := Lib.hid (fun w1 (h : Rd w1 1 A n (ts.map (Value.int .i64))) => refJoined_of A n c ts i qj h3 w1 h (by omega))
    have HO := Lib.hid (fun w1 (h : Rd w1 1 A n (ts.map (Value.int .i64))) => jnOver_of A n c ts i qo h4 w1 h (by omega) hnc)
    have HO' := Lib.hid (fun w1 (h : Rd w1 1 A n (ts.map (Value.int .i64))) => refOver_of A n c ts i qo h4 w1 h (by omega))
    rw [h1] at HA HA'
    rw [h2] at HB HB'
    clear hr h1 h2 h3 h4
    have hbz := Below.refl w.heap.size w
    go_enter Try.func4, Try.ntmps4
    go_wp2_with (first
      | (go_at_call 15; with_reducible refine (HA.out _ (HR.out.below hbz)).mono ?_; rintro e w3 ⟨rfl, h9⟩; replace hbz := below_self hbz h9; clear h9)
      | (go_at_call 16; with_reducible refine (HA'.out _ (HR.out.below hbz)).mono ?_; rintro e w3 ⟨rfl, rfl⟩)
      | (go_at_call 17; with_reducible refine (HB.out _ (HR.out.below hbz)).mono ?_; rintro e w3 ⟨rfl, rfl⟩)
      | (go_at_call 18; with_reducible refine (HB'.out _ (HR.out.below hbz)).mono ?_; rintro e w3 ⟨rfl, rfl⟩)
      | (go_at_call 19; with_reducible refine (HJ.out _ (HR.out.below hbz)).mono ?_; rintro e w3 ⟨rfl, rfl⟩)
      | (go_at_call 20; with_reducible refine (HJ'.out _ (HR.out.below hbz)).mono ?_; rintro e w3 ⟨rfl, h9⟩; replace hbz := below_self hbz h9; clear h9)
      | (go_at_call 21; with_reducible refine (HO.out _ (HR.out.below hbz)).mono ?_; rintro e w3 ⟨rfl, h9⟩; replace hbz := below_self hbz h9; clear h9)
      | (go_at_call 22; with_reducible refine (HO'.out _ (HR.out.below hbz)).mono ?_; rintro e w3 ⟨rfl, h9⟩; replace hbz := below_self hbz h9; clear h9)
      | (go_at_call 11; with_reducible refine (awakeJn_any _).mono ?_; rintro e w3 ⟨rfl, h9⟩; replace hbz := below_self hbz h9; clear h9)
      | fail)
    go_ret
    exact ⟨rfl, hbz⟩
  · clear hr h1 h2 h3 h4
    go_enter Try.func4, Try.ntmps4
    go_wp2_with fail
    refine (awakeJn_any _).mono ?_
    rintro e w4 ⟨rfl, hb4⟩
    go_wp2
    go_ret
    exact ⟨rfl, hb4⟩
end Go.Proofs.Ytcjcimdembkbkaa
