/- naskhlaw13.JoinApart. -/
import Derived.Test.YtcjcimdembkbkaaJnL1
import Derived.Test.YtcjcimdembkbkaaJnC
import Derived.Test.YtcjcimdembkbkaaJnGr
import Derived.Deep.RegionWith
import Derived.Deep.RegionHeld3
namespace Go.Proofs.Ytcjcimdembkbkaa
open Go.RowKit

theorem rd_part {w : World} {g n : Nat} {l : List Int} (h : Rd w 1 (some ⟨g, 0, none⟩) n (l.map (Value.int .i64))) {i m : Nat} (hm : i + m ≤ n) : Rd w 1 (some ⟨g, i, none⟩) m (((l.drop i).take m).map (Value.int .i64)) := by
  have hl : l.length = n := by simpa using h.len1
  refine ⟨by simp; omega, fun h0 => ⟨_, rfl, ?_, fun j u hj => ?_⟩⟩
  · obtain ⟨ad, e, hb, _⟩ := h.2 (by omega)
    injection e with e
    rw [← e] at hb
    exact hb
  · have hjm : j < m := by
      have := (List.getElem?_eq_some_iff.1 hj).1
      simp at this; omega
    rw [List.getElem?_map, List.getElem?_take_of_lt hjm, List.getElem?_drop, ← List.getElem?_map] at hj
    have := h.news (i + j) u hj
    rw [addNew] at this
    rw [show (⟨g, i, none⟩ : Addr).add j = ⟨g, i + j, none⟩ by unfold Addr.add; by_cases e : j = 0 <;> simp [e]]
    exact this
set_option maxRecDepth 100000 in
set_option maxHeartbeats 8000000 in
theorem joinApart_any (A B C : Option Addr) (n m o c d f : Nat) (xs ys zs : List Int) (w : World) (hr : Rd w 1 A n (xs.map (Value.int .i64))) (hs : Rd w 1 B m (ys.map (Value.int .i64))) (ht : Rd w 1 C o (zs.map (Value.int .i64))) (hn : n ≤ maxLen) (hm : m ≤ maxLen) (ho : o ≤ maxLen) :
    Calls Try.prog 6 #[.slice A n c, .slice B m d, .slice C o f] w fun e w' => e = .returned (.bool true) ∧ Below w.heap.size w w' := by
  unfold maxLen at hn hm ho
  have hxl : xs.length = n := by simpa using hr.len1
  have hyl : ys.length = m := by simpa using hs.len1
  have hzl : zs.length = o := by simpa using ht.len1
  by_cases hsz : n ≤ 100 ∧ m ≤ 100 ∧ o ≤ 100
  · obtain ⟨h1, h2, h3⟩ := hsz
    obtain ⟨all, hall⟩ : ∃ all, xs ++ 0 :: (ys ++ 0 :: zs) = all := ⟨_, rfl⟩
    have halen : all.length = n + m + o + 2 := by rw [← hall]; simp; omega
    have hap := jForms_apart xs ys zs
    rw [hall, hxl, hyl] at hap
    have hk : Below w.heap.size w (((w.alloc (.cells #[.int .i64 0] 3)).alloc (.cells #[.int .i64 0] 3)).alloc (.cells #[.slice A n c, .slice (some ⟨w.heap.size, 0, none⟩) 1 1, .slice B m d, .slice (some ⟨w.heap.size + 1, 0, none⟩) 1 1, .slice C o f] 22)) := (((Below.refl _ _).alloc (Nat.le_refl _) _).alloc (by simp) _).alloc (by simp; omega) _
    have hQ := concat_any (w.heap.size + 2) 5 5 [(A, n, c, xs), (some ⟨w.heap.size, 0, none⟩, 1, 1, [0]), (B, m, d, ys), (some ⟨w.heap.size + 1, 0, none⟩, 1, 1, [0]), (C, o, f, zs)] rfl
      (((w.alloc (.cells #[.int .i64 0] 3)).alloc (.cells #[.int .i64 0] 3)).alloc (.cells #[.slice A n c, .slice (some ⟨w.heap.size, 0, none⟩) 1 1, .slice B m d, .slice (some ⟨w.heap.size + 1, 0, none⟩) 1 1, .slice C o f] 22))
      (by
        have h := heap_alloc_new ((w.alloc (.cells #[.int .i64 0] 3)).alloc (.cells #[.int .i64 0] 3)) (.cells #[.slice A n c, .slice (some ⟨w.heap.size, 0, none⟩) 1 1, .slice B m d, .slice (some ⟨w.heap.size + 1, 0, none⟩) 1 1, .slice C o f] 22)
        rw [World.size_alloc, World.size_alloc] at h
        exact h)
      (by
        intro q hq
        have hz1 : Rd (w.alloc (.cells #[.int .i64 0] 3)) 1 (some ⟨w.heap.size, 0, none⟩) 1 (([0] : List Int).map (Value.int .i64)) := Rd.new_ w [.int .i64 0] _
        have hz2 : Rd ((w.alloc (.cells #[.int .i64 0] 3)).alloc (.cells #[.int .i64 0] 3)) 1 (some ⟨w.heap.size + 1, 0, none⟩) 1 (([0] : List Int).map (Value.int .i64)) := by
          have h := Rd.new_ (w.alloc (.cells #[.int .i64 0] 3)) [.int .i64 0] 3
          rw [World.size_alloc] at h
          exact h
        simp only [List.mem_cons, List.not_mem_nil, or_false] at hq
        rcases hq with rfl | rfl | rfl | rfl | rfl
        · exact ⟨hxl, hr.below hk⟩
        · exact ⟨rfl, (hz1.alloc _).alloc _⟩
        · exact ⟨hyl, hs.below hk⟩
        · exact ⟨rfl, hz2.alloc _⟩
        · exact ⟨hzl, ht.below hk⟩)
    have hcat : catL [(A, n, c, xs), (some ⟨w.heap.size, 0, none⟩, 1, 1, [0]), (B, m, d, ys), (some ⟨w.heap.size + 1, 0, none⟩, 1, 1, [0]), (C, o, f, zs)] = all := by rw [← hall]; simp [catL]
    rw [hcat, halen] at hQ
    have HQ := Lib.hid (hQ (by omega) (by omega) (by omega))
    have HK := Lib.hid hk
    have HS := Lib.hid hs
    have HAL := Lib.hid halen
    have HAP := Lib.hid hap
    clear hQ hcat hk hr hs ht hxl hyl hzl hall halen hap
    go_enter Try.func6, Try.ntmps6
    go_wp2_with fail
    refine HQ.out.mono ?_
    rintro e w1 ⟨⟨v, rfl, hown⟩, hb1⟩
    obtain ⟨P, p, rfl, _, hp⟩ := rd_own hown
    have HP := Lib.hid hp
    have HB1 := Lib.hid (below_self HK.out hb1)
    clear hown hb1 hp HQ HK
    go_wp2_with fail
    refine (jnForms_any P (n + m + o + 2) p all w1 HP.out (by omega)).mono ?_
    rintro e w2 ⟨⟨g, _, rfl, hg⟩, hb2⟩
    have hrf := rd_intsZ hg (n := n + m + o + 2) (by rw [jForms_len, HAL.out])
    have hrp := rd_part hrf (i := n + 1) (m := m) (by omega)
    rw [HAP.out] at hrp
    have HRP := Lib.hid hrp
    have HB2 := Lib.hid (below_self HB1.out hb2)
    have HSD := Lib.hid (HS.out.below (below_self HB1.out hb2).drew)
    have HRD := Lib.hid (show Rd w2.drew 1 (some ⟨g, n + 1, none⟩) m ((jForms ys).map (Value.int .i64)) from hrp)
    clear hg hb2 hrf hrp HB1 HP
    go_wp2_with fail
    obtain ⟨N, hN⟩ : ∃ N, n + m + o + 2 = N := ⟨_, rfl⟩
    obtain ⟨p1, hp1⟩ : ∃ p1, n + 1 = p1 := ⟨_, rfl⟩
    obtain ⟨q1, hq1⟩ : ∃ q1, p1 + m = q1 := ⟨_, rfl⟩
    have s1 : IntKind.i64.wrap ((n : Int) + 1) = (p1 : Int) := by rw [IntKind.wrap_i64]; omega
    have s2 : IntKind.i64.wrap ((p1 : Int) + (m : Int)) = (q1 : Int) := by rw [IntKind.wrap_i64]; omega
    have b0 : (0 : Int) ≤ (p1 : Int) := by omega
    have b1 : (p1 : Int) ≤ (q1 : Int) := by omega
    have b2 : (q1 : Int) ≤ (N : Int) := by omega
    have b3 : q1 - p1 = m := by omega
    have b4 : ¬ (N = p1) := by omega
    rw [hp1] at HRP HRD
    simp only [hN]
    clear hN hp1 hq1
    have HS2 := Lib.hid (HS.out.below HB2.out)
    go_region_with (first
      | (go_at_call 13; with_reducible refine (jnForms_any B m d ys _ HSD.out (by omega)).mono ?_; rintro e w3 ⟨⟨g3, _, rfl, hg3⟩, hb3⟩; have hr3 := rd_intsZ hg3 (n := m) (by rw [jForms_len]; simpa using HS.out.len1); have hp3 := HRD.out.below hb3)
      | (go_at_call 12; with_reducible refine (equalInt_b _ _ m m _ _ (jForms ys) (jForms ys) _ hp3 hr3 (by unfold maxLen; omega) (by unfold maxLen; omega)).mono ?_; rintro e w4 ⟨rfl, hb4⟩; rw [decide_eq_true rfl])
      | (go_at_call 11; refine (awakeJn_any _).mono ?_; rintro e w5 ⟨rfl, hb5⟩)
      | fail)
    all_goals
      have HBF := Lib.hid (below_self (below_self (below_self HB2.out.drew hb3) hb4) hb5)
      go_wp2
      go_ret
      exact ⟨rfl, HBF.out⟩
  · have hway : 100 < n ∨ (n ≤ 100 ∧ 100 < m) ∨ (n ≤ 100 ∧ m ≤ 100 ∧ 100 < o) := by omega
    clear hr hs ht hxl hyl hzl hsz
    rcases hway with h | ⟨h, h'⟩ | ⟨h, h', h''⟩
    all_goals
      go_enter Try.func6, Try.ntmps6
      go_wp2_with fail
      refine (awakeJn_any _).mono ?_
      rintro e w8 ⟨rfl, hb⟩
      go_wp2
      go_ret
      exact ⟨rfl, hb⟩
end Go.Proofs.Ytcjcimdembkbkaa
