/- stack's Push, Pop, walked. -/
import Derived.Test.YtflbiblkphaagaaStkP1
import Derived.Deep.RegionLaw
namespace Go.Proofs.Ytflbiblkphaagaa
open Go.RowKit

set_option maxRecDepth 100000 in
theorem stkPop_any (b : Nat) (s : Stk) (w : World) (h : StkAt w b s) : Calls Try.prog 27 #[.pointer (some ⟨b, 0, none⟩)] w fun e w' => e = .returned (.bool (popS s).1) ∧ StkAt w' b (popS s).2 ∧ Kept w w' [b] := by
  have HL := Lib.hid (stkLen_any b s w h)
  have HS := Lib.hid h
  have cn := h.cn
  have fn := h.froz 381
  have hf := h.fits
  clear h
  unfold popS
  cases hR : s.R with
  | nil =>
    rw [hR] at HL cn
    rw [if_pos rfl]
    have HR := Lib.hid hR
    clear hR
    go_enter Try.func27, Try.ntmps27
    go_wp2_with fail
    refine HL.out.mono ?_
    rintro e w1 ⟨rfl, rfl⟩
    go_wp2
    go_ret
    exact ⟨rfl, HS.out, Kept.refl _ _⟩
  | cons x R =>
    rw [hR] at HL cn hf
    rw [if_neg (by simp)]
    rw [List.length_cons] at HL cn hf
    have HP := Lib.hid (HS.out.pop hR)
    have HK := Lib.hid ((Kept.refl w [b]).set (.inl (List.mem_singleton.2 rfl)) 381 (.int .i64 ((R.length : Int) + 1)))
    obtain ⟨r, hr⟩ : ∃ r, R.length = r := ⟨_, rfl⟩
    have hrr : (r : Int) < 126 := by omega
    rw [hr] at HL cn HP HK
    clear hR hr
    go_enter Try.func27, Try.ntmps27
    go_wp2_with fail
    refine HL.out.mono ?_
    rintro e w1 ⟨rfl, rfl⟩
    go_wp2
    go_ret
    exact ⟨rfl, HP.out, HK.out⟩
set_option maxRecDepth 100000 in
set_option maxHeartbeats 2000000 in
theorem stkPush_any (b : Nat) (s : Stk) (x : Ent) (w : World) (h : StkAt w b s) : Calls Try.prog 26 #[.pointer (some ⟨b, 0, none⟩), entV x] w fun e w' => e = .returned (.bool (pushS s x).1) ∧ StkAt w' b (pushS s x).2 ∧ Kept w w' [b] := by
  obtain ⟨lv, ov, is⟩ := x
  obtain ⟨W, hW⟩ : ∃ W, w.alloc (.cells #[.int .i64 lv, .int .i64 ov, .bool is] 34) = W := ⟨_, rfl⟩
  have hbn := below_new w (.cells #[.int .i64 lv, .int .i64 ov, .bool is] 34)
  have hs := h.low hbn
  have hsz : W.heap.size = w.heap.size + 1 := by rw [← hW]; simp
  have cx := cells_new w [.int .i64 lv, .int .i64 ov, .bool is] 34
  have cx0 := cx 0 _ rfl
  have cx1 := cx 1 _ rfl
  have cx2 := cx 2 _ rfl
  rw [addNew] at cx0 cx1 cx2
  rw [show (w.alloc (.cells [Value.int .i64 lv, .int .i64 ov, .bool is].toArray 34)) = W from hW] at cx0 cx1 cx2
  rw [hW] at hbn hs
  have hlt := h.lt
  obtain ⟨g, hg⟩ : ∃ g, w.heap.size = g := ⟨_, rfl⟩
  have HK0 : Hid (Kept w W [b]) := Lib.hid (Kept.of_below hbn _)
  rw [hg] at hsz hlt cx0 cx1 cx2
  have HS := Lib.hid hs
  have HM : Hid (∀ W', Below W.heap.size W W' → Calls Try.prog 43 #[.pointer (some ⟨b, 0, none⟩)] W' fun e w' => e = .returned (.bool true) ∧ W' = w') := Lib.hid fun W' hb => stkMade_any b s W' (hs.low hb)
  have HT : Hid (∀ W', Below W.heap.size W W' → Calls Try.prog 16 #[.pointer (some ⟨b, 0, none⟩)] W' fun e w' => e = .returned (.agg #[.int .i64 s.top.lv, .int .i64 s.top.ov, .bool s.top.is]) ∧ Below W'.heap.size W' w') := Lib.hid fun W' hb => stkTop_any b s W' (hs.low hb)
  have fd := ent_lv s.top.lv s.top.ov s.top.is
  have hf := h.fits
  unfold entV
  have hne : b ≠ g := by omega
  by_cases h1 : lv ≤ s.top.lv ∨ 125 < lv
  · have HP : Hid (pushS s ⟨lv, ov, is⟩ = (false, s)) := Lib.hid (by unfold pushS; rw [if_pos h1])
    rw [HP.out]
    clear hs h hbn cx
    by_cases h2 : lv ≤ s.top.lv
    · have hd : decide (lv ≤ s.top.lv) = true := decide_eq_true h2
      go_enter Try.func26, Try.ntmps26
      go_wp2_with fail
      first | (go_region_law (first
        | (go_simp; go_at_call 43; refine (HM.out _ (by first | exact Below.refl _ _ | exact (Below.refl _ _).drew)).mono ?_; rintro e w2 ⟨rfl, rfl⟩)
        | (go_simp; go_at_call 16; refine (HT.out _ (by first | exact Below.refl _ _ | exact (Below.refl _ _).drew)).mono ?_; rintro e w3 ⟨rfl, h4⟩; have hb3 : Below W.heap.size W w3 := (by first | exact below_self (Below.refl _ _).drew h4 | exact h4); have y0 := cell_below hb3 cx0)
        | fail)) | fail
      all_goals go_wp2
      all_goals go_ret
      all_goals exact ⟨rfl, HS.out.low hb3, HK0.out.trans (Kept.of_below hb3 _)⟩
    · have hd : decide (lv ≤ s.top.lv) = false := decide_eq_false h2
      have hd2 : decide (125 < lv) = true := decide_eq_true (by omega)
      go_enter Try.func26, Try.ntmps26
      go_wp2_with fail
      first | (go_region_law (first
        | (go_simp; go_at_call 43; refine (HM.out _ (by first | exact Below.refl _ _ | exact (Below.refl _ _).drew)).mono ?_; rintro e w2 ⟨rfl, rfl⟩)
        | (go_simp; go_at_call 16; refine (HT.out _ (by first | exact Below.refl _ _ | exact (Below.refl _ _).drew)).mono ?_; rintro e w3 ⟨rfl, h4⟩; have hb3 : Below W.heap.size W w3 := (by first | exact below_self (Below.refl _ _).drew h4 | exact h4); have y0 := cell_below hb3 cx0)
        | fail)) | fail
      all_goals go_wp2
      all_goals go_ret
      all_goals exact ⟨rfl, HS.out.low hb3, HK0.out.trans (Kept.of_below hb3 _)⟩
  · have HP : Hid (pushS s ⟨lv, ov, is⟩ = (true, { s with R := ⟨lv, ov, is⟩ :: s.R })) := Lib.hid (by unfold pushS; rw [if_neg h1])
    rw [HP.out]
    have hd : decide (lv ≤ s.top.lv) = false := decide_eq_false (by omega)
    have hd2 : decide (125 < lv) = false := decide_eq_false (by omega)
    have hl := (h.ris.put (e := ⟨lv, ov, is⟩) (by show s.top.lv < lv; omega) (by show lv ≤ 125; omega) (a := 0) (b := 0) (c := 0)).len
    simp only [Stk.len, List.length_cons] at hl
    have HL : Hid (s.top.lv < lv ∧ lv ≤ 125) := Lib.hid (by omega)
    clear hs h hbn cx
    obtain ⟨r, hr⟩ : ∃ r, s.R.length + 1 = r := ⟨_, rfl⟩
    have hr126 : (r : Int) < 126 := by omega
    have hr0 : (0 : Int) ≤ (r : Int) := by omega
    go_enter Try.func26, Try.ntmps26
    go_wp2_with fail
    first | (go_region_law (first
      | (go_simp; go_at_call 43; refine (HM.out _ (by first | exact Below.refl _ _ | exact (Below.refl _ _).drew)).mono ?_; rintro e w2 ⟨rfl, rfl⟩)
      | (go_simp; go_at_call 16; refine (HT.out _ (by first | exact Below.refl _ _ | exact (Below.refl _ _).drew)).mono ?_; rintro e w3 ⟨rfl, h4⟩; have hb3 : Below W.heap.size W w3 := (by first | exact below_self (Below.refl _ _).drew h4 | exact h4); have y0 := cell_below hb3 cx0)
      | fail)) | fail
    all_goals (
      have hs3 := HS.out.low hb3
      have HK3 := Lib.hid (HK0.out.trans (Kept.of_below hb3 _))
      have y1 := cell_below hb3 cx1
      have y2 := cell_below hb3 cx2
      have cn := hs3.cn
      have hri : (s.R.length : Int) + 1 = (r : Int) := by omega
      rw [hri] at cn
      have f0 := hs3.froz (3 + r * 3)
      have f1 := hs3.froz (3 + r * 3 + 1)
      have f2 := hs3.froz (3 + r * 3 + 2)
      have f3 := hs3.froz 381
      obtain ⟨u0, k0⟩ := hs3.room (j := 3 + r * 3) (by omega)
      obtain ⟨u1, k1⟩ := hs3.room (j := 3 + r * 3 + 1) (by omega)
      obtain ⟨u2, k2⟩ := hs3.room (j := 3 + r * 3 + 2) (by omega)
      have HP3 := Lib.hid (hs3.put (x := ⟨lv, ov, is⟩) HL.out.1 HL.out.2)
      rw [hr, hri] at HP3
      have HKP := Lib.hid ((((HK3.out.set (.inl (List.mem_singleton.2 rfl)) (3 + r * 3) (.int .i64 lv)).set (.inl (List.mem_singleton.2 rfl)) (3 + r * 3 + 1) (.int .i64 ov)).set (.inl (List.mem_singleton.2 rfl)) (3 + r * 3 + 2) (.bool is)).set (.inl (List.mem_singleton.2 rfl)) 381 (.int .i64 ((r : Int) + 1)))
      have e0 : ¬ 381 = 3 + r * 3 := by omega
      have e1 : ¬ 381 = 3 + r * 3 + 1 := by omega
      have e2 : ¬ 381 = 3 + r * 3 + 2 := by omega
      have e3 : ¬ 3 + r * 3 = 381 := by omega
      have e4 : ¬ 3 + r * 3 + 1 = 381 := by omega
      have e5 : ¬ 3 + r * 3 + 2 = 381 := by omega
      clear hs3 hri hb3 h4
      go_wp2
      go_region)
    all_goals go_wp2
    all_goals go_ret
    all_goals exact ⟨rfl, HP3.out.drew, HKP.out.drew⟩
end Go.Proofs.Ytflbiblkphaagaa
