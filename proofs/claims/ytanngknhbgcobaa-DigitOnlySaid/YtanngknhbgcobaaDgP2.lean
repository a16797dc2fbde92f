/- digit's exchange: the closures that it answers, walked. -/
import Derived.Test.YtanngknhbgcobaaDgP1
import Derived.Test.YtanngknhbgcobaaPpS
import Derived.Test.YtanngknhbgcobaaHp
import Derived.Test.YtanngknhbgcobaaKpt
import Derived.Deep.RegionWith
namespace Go.Proofs.Ytanngknhbgcobaa
open Go.RowKit

set_option maxRecDepth 100000 in
set_option maxHeartbeats 1000000 in
theorem dgEx1_any (x mode : Int) (ea : Bool) (s1 s2 : Nat) (A : World) (h1 : A.heap[s1]? = some (.cells #[.int .i64 mode] 3 (0, 0))) (h2 : A.heap[s2]? = some (.cells #[.bool ea] 4 (0, 0))) :
    Calls Try.prog 15 #[.int .i64 x, .pointer (some ⟨s1, 0, none⟩), .pointer (some ⟨s2, 0, none⟩)] A fun r B => r = .returned (.int .i64 (dOne x (decide (mode = 1)) ea)) ∧ Below A.heap.size A B := by
  have c1 := hp_cell (j := 0) h1 rfl
  have c2 := hp_cell (j := 0) h2 rfl
  obtain ⟨m, hm⟩ : ∃ m, decide (mode = 1) = m := ⟨_, rfl⟩
  have gm : (mode == 1) = m := by rw [← hm]; by_cases h : mode = 1 <;> simp [h]
  have H := Lib.hid (fun W => dgOne_any x _ m ea rfl W)
  rw [hm]
  obtain ⟨v, hv⟩ : ∃ v, dOne x m ea = v := ⟨_, rfl⟩
  rw [hv] at H ⊢
  clear h1 h2 hm hv
  go_enter Try.func15, Try.ntmps15
  go_wp2_with fail
  all_goals (first | (go_region_with (go_at_call 10; refine (H.out _).mono ?_; rintro r w1 ⟨rfl, hb⟩)) | (refine (H.out _).mono ?_; rintro r w1 ⟨rfl, hb⟩))
  all_goals
    go_wp2
    go_ret
    exact ⟨rfl, hb⟩
/-- The boxes of the second closure: the Props, whether what comes next stands among arabic letters, eastern. -/
structure DBox (w0 A : World) (s0 s3 s2 b : Nat) (am ea : Bool) : Prop where
  hp : A.heap[s0]? = some (.cells #[.pointer (some ⟨b, 0, none⟩)] 25 (0, 0))
  ha : A.heap[s3]? = some (.cells #[.bool am] 4 (0, 0))
  he : A.heap[s2]? = some (.cells #[.bool ea] 4 (0, 0))
  pr : PropAt A b
  low : Below w0.heap.size w0 A
theorem DBox.below {w0 A B : World} {s0 s3 s2 b : Nat} {am ea : Bool} (h : DBox w0 A s0 s3 s2 b am ea) (hb : Below A.heap.size A B) : DBox w0 B s0 s3 s2 b am ea :=
  ⟨(hb.block _ (hp_lt h.hp)).trans h.hp, (hb.block _ (hp_lt h.ha)).trans h.ha, (hb.block _ (hp_lt h.he)).trans h.he, h.pr.below hb, below_self h.low hb⟩
theorem DBox.set {w0 A : World} {s0 s3 s2 b : Nat} {am ea : Bool} (h : DBox w0 A s0 s3 s2 b am ea) (hP : PropAt w0 b) (h03 : s0 ≠ s3) (h23 : s2 ≠ s3) (hl : w0.heap.size ≤ s3) (v : Bool) : DBox w0 (A.setCell ⟨s3, 0, none⟩ (.bool v)) s0 s3 s2 b v ea := by
  have hb : Below w0.heap.size w0 (A.setCell ⟨s3, 0, none⟩ (.bool v)) := h.low.setCell (p := ⟨s3, 0, none⟩) hl _
  exact ⟨(hp_far h03 _ _).trans h.hp, heap_setCell_same A s3 0 _ _ _ h.ha, (hp_far h23 _ _).trans h.he, hP.below hb, hb⟩
set_option maxRecDepth 100000 in
set_option maxHeartbeats 2000000 in
theorem dgEx2_any (x : Int) (am ea : Bool) (s0 s3 s2 b : Nat) (w0 A : World) (h : DBox w0 A s0 s3 s2 b am ea) (hP : PropAt w0 b) (h03 : s0 ≠ s3) (h23 : s2 ≠ s3) (hl : w0.heap.size ≤ s3) :
    Calls Try.prog 16 #[.int .i64 x, .pointer (some ⟨s0, 0, none⟩), .pointer (some ⟨s3, 0, none⟩), .pointer (some ⟨s2, 0, none⟩)] A fun r B => r = .returned (.int .i64 (dPick (dAm am x) x ea)) ∧ DBox w0 B s0 s3 s2 b (dAm am x) ea ∧ Kept A B [s3] := by
  have c0 := hp_cell (j := 0) h.hp rfl
  have HS := Lib.hid (ppStrong_gen _ x _ A (tells_any b x A h.pr))
  obtain ⟨v, hv⟩ : ∃ v, strongF x = v := ⟨_, rfl⟩
  rw [show decide (classF x ∈ ([0, 1, 2] : List Int)) = v from hv] at HS
  obtain ⟨k, hk⟩ : ∃ k, classF x = k := ⟨_, rfl⟩
  obtain ⟨q, hq⟩ : ∃ q, decide (k = 2) = q := ⟨_, rfl⟩
  have gk : (k == 2) = q := by rw [← hq]; by_cases h : k = 2 <;> simp [h]
  have HA := Lib.hid (show dAm am x = if v = true then q else am by unfold dAm; rw [hv, hk, hq])
  have HO := Lib.hid (fun W => dgOne_any x _ true ea rfl W)
  have HC := Lib.hid (fun W (hb : Below A.heap.size A W) => ppClass_any b x k hk W (h.pr.below hb))
  have HD := Lib.hid h
  have HP := Lib.hid hP
  rw [HA.out]
  clear h hP hv hk hq HA
  go_enter Try.func16, Try.ntmps16
  go_wp2_with fail
  refine HS.out.mono ?_
  rintro r w1 ⟨rfl, hb1⟩
  have HB1 := Lib.hid hb1
  have HD1 := Lib.hid (HD.out.below hb1)
  cases v with
  | false =>
    have a3 := hp_cell (j := 0) HD1.out.ha rfl
    have a2 := hp_cell (j := 0) HD1.out.he rfl
    clear hb1 c0
    cases am with
    | false =>
      go_wp2_with fail
      go_ret
      exact ⟨rfl, HD1.out, Kept.of_below HB1.out _⟩
    | true =>
      go_wp2_with fail
      refine (HO.out _).mono ?_
      rintro r w2 ⟨rfl, hb2⟩
      have HD2 := Lib.hid (HD1.out.below hb2)
      have HB2 := Lib.hid (below_self HB1.out hb2)
      clear hb2
      go_wp2
      go_ret
      exact ⟨rfl, HD2.out, Kept.of_below HB2.out _⟩
  | true =>
    have e0 := cell_below hb1 c0
    have a3 := hp_cell (j := 0) HD1.out.ha rfl
    have g3 := hp_froz HD1.out.ha 0
    clear c0
    go_wp2_with fail
    refine (HC.out _ HB1.out).mono ?_
    rintro r w2 ⟨rfl, hb2⟩
    have i3 := cell_below hb2 a3
    have j3 := hp_froz (HD1.out.below hb2).ha 0
    have hb3 := hb2
    all_goals
      have HD2 := Lib.hid ((HD1.out.below hb3).set HP.out h03 h23 hl q)
      have HB2 := Lib.hid (((Kept.of_below HB1.out [s3]).trans (Kept.of_below hb3 _)).set (.inl (List.mem_singleton_self _)) 0 (.bool q))
      have a2 := hp_cell (j := 0) HD2.out.he rfl
      have b3 := hp_cell (j := 0) HD2.out.ha rfl
      clear hb1 hb2 hb3 a3 g3 e0
      cases q with
      | false =>
        go_wp2_with fail
        go_ret
        exact ⟨rfl, HD2.out, HB2.out⟩
      | true =>
        go_wp2_with fail
        refine (HO.out _).mono ?_
        rintro r w4 ⟨rfl, hb4⟩
        have HD4 := Lib.hid (HD2.out.below hb4)
        have HB4 := Lib.hid (HB2.out.trans (Kept.of_below hb4 _))
        clear hb4
        go_wp2
        go_ret
        exact ⟨rfl, HD4.out, HB4.out⟩
theorem dgEx3_any (x : Int) (A : World) : Calls Try.prog 19 #[.int .i64 x] A fun r B => r = .returned (.int .i64 x) ∧ A = B := by
  go_enter Try.func19, Try.ntmps19
  go_wp2
  go_ret
  exact ⟨rfl, rfl⟩
end Go.Proofs.Ytanngknhbgcobaa
