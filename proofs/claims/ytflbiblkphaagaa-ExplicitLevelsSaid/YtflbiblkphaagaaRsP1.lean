/- The reference's stack: New, Top, Next, room, walked. -/
import Derived.Test.YtflbiblkphaagaaRsM
import Derived.Laws.ResultCell
import Derived.Deep.DeepCutAuto
namespace Go.Proofs.Ytflbiblkphaagaa
open Go.RowKit

theorem entR_lv (x y : Int) (z : Bool) (w : World) : (Instr.field 36 (.agg #[.int .i64 x, .int .i64 y, .bool z]) 0).run Try.prog w = .ok (.int .i64 x) w := by kernel_rfl
theorem entR_is (x y : Int) (z : Bool) (w : World) : (Instr.field 36 (.agg #[.int .i64 x, .int .i64 y, .bool z]) 2).run Try.prog w = .ok (.bool z) w := by kernel_rfl
set_option maxRecDepth 100000 in
set_option maxHeartbeats 2000000 in
theorem rsNew_any (level : Int) (w : World) : Calls Try.prog 12 #[.int .i64 level] w fun e w' => (∃ b, e = .returned (.pointer (some ⟨b, 0, none⟩)) ∧ RsAt w' b (newS level) ∧ w.heap.size < b) ∧ Below w.heap.size w w' := by
  obtain ⟨m, hm⟩ : ∃ m, min (max level 0) 125 = m := ⟨_, rfl⟩
  have h1 := below_new w (.cells #[.int .i64 m, .int .i64 13, .bool false] 36)
  have h2 := below_new (w.alloc (.cells #[.int .i64 m, .int .i64 13, .bool false] 36)) (.cells #[.slice (some ⟨w.heap.size, 0, none⟩) 1 1, .int .i64 0, .int .i64 0, .int .i64 0] 41)
  have g2 := heap_alloc_new (w.alloc (.cells #[.int .i64 m, .int .i64 13, .bool false] 36)) (.cells #[.slice (some ⟨w.heap.size, 0, none⟩) 1 1, .int .i64 0, .int .i64 0, .int .i64 0] 41)
  rw [World.size_alloc] at g2
  have g1 := (h2.block _ (hp_lt (heap_alloc_new w (.cells #[.int .i64 m, .int .i64 13, .bool false] 36)))).trans (heap_alloc_new w (.cells #[.int .i64 m, .int .i64 13, .bool false] 36))
  have hr := (rdNew3 w (.int .i64 m) (.int .i64 13) (.bool false) 36).below h2
  have HA : Hid (RsAt ((w.alloc (.cells #[.int .i64 m, .int .i64 13, .bool false] 36)).alloc (.cells #[.slice (some ⟨w.heap.size, 0, none⟩) 1 1, .int .i64 0, .int .i64 0, .int .i64 0] 41)) (w.heap.size + 1) (newS level)) := Lib.hid ⟨⟨⟨w.heap.size, 0, none⟩, 1, g2, Nat.le_refl _, by
    have : cellsE (newS level).all = [.int .i64 m, .int .i64 13, .bool false] := by rw [← hm]; rfl
    rw [this]
    exact hr, by show w.heap.size ≠ w.heap.size + 1; omega, Nat.le_refl _, _, g1⟩, rises_new level⟩
  have HB := Lib.hid (below_self h1 h2)
  clear h1 h2 g1 g2 hr
  go_enter Try.func12, Try.ntmps12
  go_wp2
  all_goals go_ret
  all_goals first
    | (have e0 : m = 0 := by omega
       rw [e0] at HA HB
       exact ⟨⟨_, rfl, HA.out, by omega⟩, HB.out⟩)
    | (have e0 : m = 125 := by omega
       rw [e0] at HA HB
       exact ⟨⟨_, rfl, HA.out, by omega⟩, HB.out⟩)
    | (have e0 : m = level := by omega
       rw [e0] at HA HB
       exact ⟨⟨_, rfl, HA.out, by omega⟩, HB.out⟩)
set_option maxRecDepth 100000 in
set_option maxHeartbeats 2000000 in
theorem rsTop_any (b : Nat) (s : Stk) (w : World) (h : RsAt w b s) : Calls Try.prog 17 #[.pointer (some ⟨b, 0, none⟩)] w fun e w' => e = .returned (entV s.top) ∧ Below w.heap.size w w' := by
  have hbl := below_new w (.cells #[.int .i64 0, .int .i64 0, .bool false] 36)
  have h1 := h.low hbl
  obtain ⟨ad, c, c0, hc, _, _, hadb, ct0, ct1, ct2⟩ := h1.sl
  have hf := h.fits
  have hb := h.lt
  obtain ⟨r, hr⟩ : ∃ r, s.R.length = r := ⟨_, rfl⟩
  rw [hr] at c0 hc hf ct0 ct1 ct2
  have hr1 : (r : Int) < 126 := by omega
  have hrc : (r : Int) < (r : Int) + 1 := by omega
  clear h h1 hbl hr
  go_enter Try.func17, Try.ntmps17
  go_wp2
  go_region
  all_goals go_wp2
  all_goals refine bodyPost_ret (v := .agg #[.int .i64 s.top.lv, .int .i64 s.top.ov, .bool s.top.is]) (results_cell_row rfl _ _ w.heap.size 36 #[.int .i64 s.top.lv, .int .i64 s.top.ov, .bool s.top.is] (0, 0) _ rfl (heap_alloc_new w _) Try.underlying36 rfl (by kernel_rfl)) rfl ?_
  all_goals exact ⟨rfl, below_drew (below_new w _) 1⟩
theorem nextN_of (n : Int) (r : Bool) : nextN n r = if (decide ((n + 1) % 2 = 1) != r) = true then n + 1 + 1 else n + 1 := by unfold nextN; split <;> omega
set_option maxRecDepth 100000 in
set_option maxHeartbeats 2000000 in
theorem rsNext_any (b : Nat) (s : Stk) (r : Bool) (w : World) (h : RsAt w b s) : Calls Try.prog 20 #[.pointer (some ⟨b, 0, none⟩), .bool r] w fun e w' => e = .returned (.int .i64 (nextS s r)) ∧ Below w.heap.size w w' := by
  have HT := Lib.hid (rsTop_any b s w h)
  obtain ⟨h0, h1, _⟩ := h.fits
  have fd := entR_lv s.top.lv s.top.ov s.top.is
  have HN := Lib.hid (nextN_of s.top.lv r)
  unfold entV at HT
  clear h
  unfold nextS
  rw [HN.out]
  obtain ⟨x, hx⟩ : ∃ x, s.top.lv = x := ⟨_, rfl⟩
  rw [hx] at HT fd h0 h1 ⊢
  clear hx HN
  have htm : Int.tmod (x + 1) 2 = (x + 1) % 2 := by rw [Int.tmod_eq_emod_of_nonneg (by omega)]
  obtain ⟨y, hy⟩ : ∃ y, (x + 1) % 2 = y := ⟨_, rfl⟩
  rw [hy] at htm ⊢
  have hy2 : y = 0 ∨ y = 1 := by omega
  clear hy
  rcases hy2 with rfl | rfl
  all_goals cases r
  all_goals (
    go_enter Try.func20, Try.ntmps20
    go_wp2_with fail
    refine HT.out.mono ?_
    rintro e w1 ⟨rfl, hb⟩
    have HB := Lib.hid hb
    clear hb
    go_wp2
    go_ret
    exact ⟨rfl, HB.out⟩)
set_option maxRecDepth 100000 in
set_option maxHeartbeats 2000000 in
theorem rsRoom_any (b : Nat) (s : Stk) (r : Bool) (w : World) (h : RsAt w b s) : Calls Try.prog 50 #[.pointer (some ⟨b, 0, none⟩), .bool r] w fun e w' => e = .returned (.bool (roomS s r)) ∧ Below w.heap.size w w' := by
  have HN := Lib.hid (rsNext_any b s r w h)
  have HS := Lib.hid h
  obtain ⟨v, hv⟩ : ∃ v, roomS s r = v := ⟨_, rfl⟩
  rw [hv]
  have HV := Lib.hid hv
  obtain ⟨x, hx⟩ : ∃ x, nextS s r = x := ⟨_, rfl⟩
  rw [hx] at HN
  have HX := Lib.hid hx
  clear h hv hx
  by_cases h1 : x ≤ 125
  · have hd1 : decide (x ≤ 125) = true := decide_eq_true h1
    by_cases ha : s.a = 0
    · by_cases hb : s.b = 0
      · have hvv : v = true := by rw [← HV.out]; exact room_iff.2 ⟨by rw [HX.out]; exact h1, ha, hb⟩
        subst hvv
        go_enter Try.func50, Try.ntmps50
        go_wp2_with fail
        refine HN.out.mono ?_
        rintro e w1 ⟨rfl, hb1⟩
        have HB1 := Lib.hid hb1
        have hs1 := HS.out.low hb1
        have ca := hs1.ca
        have cb := hs1.cb
        rw [ha] at ca
        rw [hb] at cb
        clear hb1 hs1
        go_wp2
        go_ret
        exact ⟨rfl, HB1.out⟩
      · have hvv : v = false := by rw [← HV.out]; unfold roomS; simp [hb]
        subst hvv
        have hb' : ((s.b : Int) == 0) = false := by simp; omega
        go_enter Try.func50, Try.ntmps50
        go_wp2_with fail
        refine HN.out.mono ?_
        rintro e w1 ⟨rfl, hb1⟩
        have HB1 := Lib.hid hb1
        have hs1 := HS.out.low hb1
        have ca := hs1.ca
        have cb := hs1.cb
        rw [ha] at ca
        clear hb1 hs1
        go_wp2
        go_ret
        exact ⟨rfl, HB1.out⟩
    · have hvv : v = false := by rw [← HV.out]; unfold roomS; simp [ha]
      subst hvv
      have ha' : ((s.a : Int) == 0) = false := by simp; omega
      go_enter Try.func50, Try.ntmps50
      go_wp2_with fail
      refine HN.out.mono ?_
      rintro e w1 ⟨rfl, hb1⟩
      have HB1 := Lib.hid hb1
      have hs1 := HS.out.low hb1
      have ca := hs1.ca
      clear hb1 hs1
      go_wp2
      go_ret
      exact ⟨rfl, HB1.out⟩
  · have hd1 : decide (x ≤ 125) = false := decide_eq_false h1
    have hvv : v = false := by rw [← HV.out]; unfold roomS; rw [HX.out, hd1]; rfl
    subst hvv
    go_enter Try.func50, Try.ntmps50
    go_wp2_with fail
    refine HN.out.mono ?_
    rintro e w1 ⟨rfl, hb1⟩
    have HB1 := Lib.hid hb1
    clear hb1
    go_wp2
    go_ret
    exact ⟨rfl, HB1.out⟩
end Go.Proofs.Ytflbiblkphaagaa
