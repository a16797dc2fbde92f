/- naskhlaw05.IndexTells returns true for all sizes, codes and units. -/
import Derived.Test.YtpllgonjhljjkaaIdxL1
namespace Go.Proofs.Ytpllgonjhljjkaa
open Go.RowKit

/-- What Code tells, and what Break tells. -/
def CodeIs (l : List Int) (u a c e : Int) : Prop := (∃ i : Nat, InCode l u i ∧ i < l.length ∧ a = i ∧ c = u - pre l i ∧ e = 0) ∨ (¬ (0 ≤ u ∧ u < l.sum) ∧ a = 0 ∧ c = 0 ∧ e = 1)
def BreakIs (l : List Int) (u a e : Int) : Prop := (∃ i : Nat, InCode l u i ∧ ((u = pre l i ∧ a = i ∧ e = 0) ∨ (u ≠ pre l i ∧ a = 0 ∧ e = 5))) ∨ (¬ (0 ≤ u ∧ u ≤ l.sum) ∧ a = 0 ∧ e = 1)
def SpanIs (l : List Int) (x a c e : Int) : Prop := (0 ≤ x ∧ x < l.length ∧ a = pre l x.toNat ∧ c = pre l (x.toNat + 1) ∧ e = 0) ∨ (¬ (0 ≤ x ∧ x < l.length) ∧ a = 0 ∧ c = 0 ∧ e = 1)
theorem codeIs_ex {l : List Int} (hg : Good l) (u : Int) : ∃ a c e, CodeIs l u a c e := by
  by_cases h : 0 ≤ u ∧ u < l.sum
  · obtain ⟨i, hi⟩ := inCode_ex (l := l) h.1 (by omega)
    have hlt : i < l.length := by
      rcases Nat.lt_or_ge i l.length with hlt | hge
      · exact hlt
      · have e : i = l.length := by have := hi.1; omega
        have := hi.2.2.2 e
        rw [e, pre_len] at this
        omega
    exact ⟨_, _, _, .inl ⟨i, hi, hlt, rfl, rfl, rfl⟩⟩
  · exact ⟨_, _, _, .inr ⟨h, rfl, rfl, rfl⟩⟩
theorem breakIs_ex (l : List Int) (u : Int) : ∃ a e, BreakIs l u a e := by
  by_cases h : 0 ≤ u ∧ u ≤ l.sum
  · obtain ⟨i, hi⟩ := inCode_ex (l := l) h.1 h.2
    by_cases he : u = pre l i
    · exact ⟨_, _, .inl ⟨i, hi, .inl ⟨he, rfl, rfl⟩⟩⟩
    · exact ⟨_, _, .inl ⟨i, hi, .inr ⟨he, rfl, rfl⟩⟩⟩
  · exact ⟨_, _, .inr ⟨h, rfl, rfl⟩⟩
theorem spanIs_ex (l : List Int) (x : Int) : ∃ a c e, SpanIs l x a c e := by
  by_cases h : 0 ≤ x ∧ x < l.length
  · exact ⟨_, _, _, .inl ⟨h.1, h.2, rfl, rfl, rfl⟩⟩
  · exact ⟨_, _, _, .inr ⟨h, rfl, rfl, rfl⟩⟩

section
variable {b : Nat} {l : List Int} {w : World}
theorem prSpan_is {x a c e : Int} (hg : Good l) (h : IdxAt w b l) (hs : SpanIs l x a c e) : Calls Try.prog 17 #[.pointer (some ⟨b, 0, none⟩), .int .i64 x] w fun r w' => r = .returned (.tuple #[.agg #[.int .i64 a, .int .i64 c], .int .i64 e]) ∧ Below w.heap.size w w' := by
  refine (prSpan_any b l w x hg h).mono fun r w' ⟨hr, hb⟩ => ⟨?_, hb⟩
  rw [hr]
  rcases hs with ⟨h0, h1, rfl, rfl, rfl⟩ | ⟨hn, rfl, rfl, rfl⟩
  · rw [show spanX l x = _ from if_pos ⟨h0, h1⟩]
  · rw [show spanX l x = _ from if_neg hn]
theorem refSpan_is {x a c e : Int} (hg : Good l) (h : IdrAt w b l) (hs : SpanIs l x a c e) : Calls Try.prog 18 #[.pointer (some ⟨b, 0, none⟩), .int .i64 x] w fun r w' => r = .returned (.tuple #[.agg #[.int .i64 a, .int .i64 c], .int .i64 e]) ∧ Below w.heap.size w w' := by
  refine (refSpanX_any b l w x hg h).mono fun r w' ⟨hr, hb⟩ => ⟨?_, hb⟩
  rw [hr]
  rcases hs with ⟨h0, h1, rfl, rfl, rfl⟩ | ⟨hn, rfl, rfl, rfl⟩
  · rw [show spanY l x = _ from if_pos ⟨h0, h1⟩]
  · rw [show spanY l x = _ from if_neg hn]
theorem prCode_is {x a c e : Int} (hg : Good l) (h : IdxAt w b l) (hs : CodeIs l x a c e) : Calls Try.prog 19 #[.pointer (some ⟨b, 0, none⟩), .int .i64 x] w fun r w' => r = .returned (.tuple #[.int .i64 a, .int .i64 c, .int .i64 e]) ∧ Below w.heap.size w w' := by
  rcases hs with ⟨i, hi, hlt, rfl, rfl, rfl⟩ | ⟨hn, rfl, rfl, rfl⟩
  · exact prCode_in b l w x i hg h hi hlt
  · exact prCode_out b l w x hg h hn
theorem refCode_is {x a c e : Int} (hg : Good l) (h : IdrAt w b l) (hs : CodeIs l x a c e) : Calls Try.prog 20 #[.pointer (some ⟨b, 0, none⟩), .int .i64 x] w fun r w' => r = .returned (.tuple #[.int .i64 a, .int .i64 c, .int .i64 e]) ∧ Below w.heap.size w w' := by
  rcases hs with ⟨i, hi, hlt, rfl, rfl, rfl⟩ | ⟨hn, rfl, rfl, rfl⟩
  · exact refCodeX_in b l w x i hg h hi hlt
  · exact refCodeX_out b l w x hg h hn
theorem prBreak_is {x a e : Int} (hg : Good l) (h : IdxAt w b l) (hs : BreakIs l x a e) : Calls Try.prog 21 #[.pointer (some ⟨b, 0, none⟩), .int .i64 x] w fun r w' => r = .returned (.tuple #[.int .i64 a, .int .i64 e]) ∧ Below w.heap.size w w' := by
  rcases hs with ⟨i, hi, ⟨he, rfl, rfl⟩ | ⟨he, rfl, rfl⟩⟩ | ⟨hn, rfl, rfl⟩
  · have := prBreak_in b l w x i hg h hi
    rwa [if_pos he] at this
  · have := prBreak_in b l w x i hg h hi
    rwa [if_neg he] at this
  · exact prBreak_out b l w x hg h hn
theorem refBreak_is {x a e : Int} (hg : Good l) (h : IdrAt w b l) (hs : BreakIs l x a e) : Calls Try.prog 22 #[.pointer (some ⟨b, 0, none⟩), .int .i64 x] w fun r w' => r = .returned (.tuple #[.int .i64 a, .int .i64 e]) ∧ Below w.heap.size w w' := by
  rcases hs with ⟨i, hi, ⟨he, rfl, rfl⟩ | ⟨he, rfl, rfl⟩⟩ | ⟨hn, rfl, rfl⟩
  · have := refBreakX_in b l w x i hg h hi
    rwa [if_pos he] at this
  · have := refBreakX_in b l w x i hg h hi
    rwa [if_neg he] at this
  · exact refBreakX_out b l w x hg h hn
end

set_option maxRecDepth 100000 in
set_option maxHeartbeats 4000000 in
theorem indexTells_any (A : Option Addr) (n c : Nat) (l : List Int) (code unit : Int) (w : World) (hr : Rd w 1 A n (l.map (Value.int .i64))) (hn : n ≤ maxLen) :
    Calls Try.prog 3 #[.slice A n c, .int .i64 code, .int .i64 unit] w fun e w' => e = .returned (.bool true) ∧ Below w.heap.size w w' := by
  have HN := Lib.hid hn
  go_enter Try.func3, Try.ntmps3
  go_wp2_with fail
  refine (smallX_any A n c l w hr HN.out).mono ?_
  rintro e w' ⟨rfl | ⟨rfl, h60⟩, rfl⟩
  · go_wp2_with fail
    refine (awakeX_any _).mono ?_
    rintro e w1 ⟨rfl, hb⟩
    go_wp2
    go_ret
    exact ⟨rfl, hb⟩
  go_wp2_with fail
  refine (cloneInt_any A n c _ w hr (oneInts _ _) (by omega)).mono ?_
  rintro e w1 ⟨v, rfl, hown, hb1⟩
  obtain ⟨A1, c1, rfl, hc1⟩ := own_form hown
  have hr1 := Rd.of_own hown
  clear hown
  go_wp2_with fail
  refine (prNew_any A n c l w1 (hr.below hb1) HN.out).mono ?_
  rintro e w2 (⟨he, rfl, hb⟩ | ⟨he, b, rfl, hx, hb⟩)
  · have hb2 := below_self hb1 hb
    have hr2 := hr1.below hb
    clear hb hr1
    go_wp2_with fail
    refine (refNewX_any A n c l w2 (hr.below hb2) HN.out).mono ?_
    rintro e w3 (⟨_, rfl, hb⟩ | ⟨he2, _⟩)
    · have hb3 := below_self hb2 hb
      have hr3 := hr2.below hb
      clear hb hr2 he
      obtain ⟨x, hx⟩ : ∃ x, errX l = x := ⟨_, rfl⟩
      rw [hx]
      clear hx
      go_wp2_with fail
      refine (equalInt_b A A1 n n c c1 l l w3 (hr.below hb3) hr3 HN.out HN.out).mono ?_
      rintro e w4 ⟨rfl, hb⟩
      rw [decide_eq_true rfl]
      have hb4 := below_self hb3 hb
      clear hb
      go_wp2_with fail
      refine (awakeX_any _).mono ?_
      rintro e w5 ⟨rfl, hb⟩
      have hb5 := below_self hb4 hb
      go_wp2
      go_ret
      exact ⟨rfl, hb5⟩
    · exact absurd he2 he
  · have hg := errX_ok he
    have HG := Lib.hid hg
    have HX := Lib.hid hx
    obtain ⟨s0, s1, s2, hs⟩ := spanIs_ex l code
    obtain ⟨k0, k1, k2, hk⟩ := codeIs_ex hg unit
    obtain ⟨m0, m1, hm⟩ := breakIs_ex l unit
    have HS := Lib.hid hs
    have HK := Lib.hid hk
    have HM := Lib.hid hm
    have hlen := good_len hg
    have hb2 := below_self hb1 hb
    have hr2 := hr1.below hb
    clear hb hr1 hg hx hs hk hm
    go_wp2_with fail
    refine (refNewX_any A n c l w2 (hr.below hb2) HN.out).mono ?_
    rintro e w3 (⟨he2, _⟩ | ⟨_, d, rfl, hy, hb⟩)
    · exact absurd he he2
    have hb3 := below_self hb2 hb
    have hr3 := hr2.below hb
    have HX3 := Lib.hid (HX.out.below hb)
    have HY3 := Lib.hid hy
    clear hb hr2 he HX hy
    go_wp2_with fail
    refine (equalInt_b A A1 n n c c1 l l w3 (hr.below hb3) hr3 HN.out HN.out).mono ?_
    rintro e w4 ⟨rfl, hb⟩
    rw [decide_eq_true rfl]
    have hb4 := below_self hb3 hb
    have HX4 := Lib.hid (HX3.out.below hb)
    have HY4 := Lib.hid (HY3.out.below hb)
    clear hb HX3 HY3 hr3
    go_wp2_with fail
    refine (prSpan_is HG.out HX4.out HS.out).mono ?_
    rintro e w5 ⟨rfl, hb⟩
    go_wp2_with fail
    have hb5 := (below_self hb4 hb).alloc (below_self hb4 hb).size (.cells #[.int .i64 s0, .int .i64 s1] 35)
    have hbb := below_self hb (below_new w5 (.cells #[.int .i64 s0, .int .i64 s1] 35))
    have HX5 := Lib.hid (HX4.out.below hbb)
    have HY5 := Lib.hid (HY4.out.below hbb)
    have d0 : (w5.alloc (.cells #[.int .i64 s0, .int .i64 s1] 35)).cell? ⟨w5.heap.size, 0, none⟩ = some (.int .i64 s0) := by rw [World.cell?_alloc_at _ _ _ _ rfl]; rfl
    have d1 : (w5.alloc (.cells #[.int .i64 s0, .int .i64 s1] 35)).cell? ⟨w5.heap.size, 1, none⟩ = some (.int .i64 s1) := by rw [World.cell?_alloc_at _ _ _ _ rfl]; rfl
    clear hb HX4 HY4 hbb hb4 hb3 hb2
    refine (refSpan_is HG.out HY5.out HS.out).mono ?_
    rintro e w6 ⟨rfl, hb⟩
    go_wp2_with fail
    have hb6 := (below_self hb5 hb).alloc (below_self hb5 hb).size (.cells #[.int .i64 s0, .int .i64 s1] 35)
    have hbb := below_self hb (below_new w6 (.cells #[.int .i64 s0, .int .i64 s1] 35))
    have HX6 := Lib.hid (HX5.out.below hbb)
    have HY6 := Lib.hid (HY5.out.below hbb)
    replace d0 := cell_below hbb d0
    replace d1 := cell_below hbb d1
    have f0 : (w6.alloc (.cells #[.int .i64 s0, .int .i64 s1] 35)).cell? ⟨w6.heap.size, 0, none⟩ = some (.int .i64 s0) := by rw [World.cell?_alloc_at _ _ _ _ rfl]; rfl
    have f1 : (w6.alloc (.cells #[.int .i64 s0, .int .i64 s1] 35)).cell? ⟨w6.heap.size, 1, none⟩ = some (.int .i64 s1) := by rw [World.cell?_alloc_at _ _ _ _ rfl]; rfl
    clear hb HX5 HY5 hbb hb5
    refine (prCode_is HG.out HX6.out HK.out).mono ?_
    rintro e w7 ⟨rfl, hb⟩
    have hb7 := below_self hb6 hb
    have HX7 := Lib.hid (HX6.out.below hb)
    have HY7 := Lib.hid (HY6.out.below hb)
    replace d0 := cell_below hb d0
    replace d1 := cell_below hb d1
    replace f0 := cell_below hb f0
    replace f1 := cell_below hb f1
    clear hb HX6 HY6 hb6
    go_wp2_with fail
    refine (refCode_is HG.out HY7.out HK.out).mono ?_
    rintro e w8 ⟨rfl, hb⟩
    have hb8 := below_self hb7 hb
    have HX8 := Lib.hid (HX7.out.below hb)
    have HY8 := Lib.hid (HY7.out.below hb)
    replace d0 := cell_below hb d0
    replace d1 := cell_below hb d1
    replace f0 := cell_below hb f0
    replace f1 := cell_below hb f1
    clear hb HX7 HY7 hb7
    go_wp2_with fail
    refine (prBreak_is HG.out HX8.out HM.out).mono ?_
    rintro e w9 ⟨rfl, hb⟩
    have hb9 := below_self hb8 hb
    have HX9 := Lib.hid (HX8.out.below hb)
    have HY9 := Lib.hid (HY8.out.below hb)
    replace d0 := cell_below hb d0
    replace d1 := cell_below hb d1
    replace f0 := cell_below hb f0
    replace f1 := cell_below hb f1
    clear hb HX8 HY8 hb8
    go_wp2_with fail
    refine (refBreak_is HG.out HY9.out HM.out).mono ?_
    rintro e w10 ⟨rfl, hb⟩
    have hb10 := below_self hb9 hb
    have HX10 := Lib.hid (HX9.out.below hb)
    have HY10 := Lib.hid (HY9.out.below hb)
    replace d0 := cell_below hb d0
    replace d1 := cell_below hb d1
    replace f0 := cell_below hb f0
    replace f1 := cell_below hb f1
    clear hb HX9 HY9 hb9
    go_wp2_with fail
    refine (prCodes_any b l _ HG.out HX10.out).mono ?_
    rintro e w' ⟨rfl, rfl⟩
    go_wp2_with fail
    refine (refCodesX_any d l _ HY10.out).mono ?_
    rintro e w' ⟨rfl, rfl⟩
    go_wp2_with fail
    refine (prUnits_any b l _ HG.out HX10.out).mono ?_
    rintro e w11 ⟨rfl, hb⟩
    have hb11 := below_self hb10 hb
    have HY11 := Lib.hid (HY10.out.below hb)
    replace d0 := cell_below hb d0
    replace d1 := cell_below hb d1
    replace f0 := cell_below hb f0
    replace f1 := cell_below hb f1
    clear hb HX10 HY10 hb10
    go_wp2_with fail
    refine (refUnitsX_any d l _ HG.out HY11.out).mono ?_
    rintro e w' ⟨rfl, rfl⟩
    have heq := eqlS_same s0 s1 w11
    go_wp2_with fail
    refine (awakeX_any _).mono ?_
    rintro e w12 ⟨rfl, hb⟩
    have hb12 := below_self hb11 hb
    go_wp2
    go_ret
    exact ⟨rfl, hb12⟩
end Go.Proofs.Ytpllgonjhljjkaa
