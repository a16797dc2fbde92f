/- Texts of one claim, one behind the other. -/
import Derived.Deep.RegionLaw
import Derived.Test.YtdgomaoikeffhaaGreatMgAp5
/- stack's Push, Pop, walked. -/
namespace Go.Proofs.YtdgomaoikeffhaaGreat
open Go.RowKit

set_option maxRecDepth 100000 in
theorem stkPop_any (b : Nat) (s : Stk) (w : World) (h : StkAt w b s) : Calls Tryz.prog 86 #[.pointer (some ⟨b, 0, none⟩)] w fun e w' => e = .returned (.bool (popS s).1) ∧ StkAt w' b (popS s).2 ∧ Kept w w' [b] := by
  have HL := Lib.hid (stkLen_any b s w h)
  have HS := Lib.hid h
  have cn := h.cn
  have fn := h.froz 381
  have hf := h.fits
  clear h
  unfold popS
  cases hR : s.R with
  | nil =>
    rw [hR] at HL cn
    rw [if_pos rfl]
    have HR := Lib.hid hR
    clear hR
    go_enter Tryz.func86, Tryz.ntmps86
    go_wp2_with fail
    refine HL.out.mono ?_
    rintro e w1 ⟨rfl, rfl⟩
    go_wp2
    go_ret
    exact ⟨rfl, HS.out, Kept.refl _ _⟩
  | cons x R =>
    rw [hR] at HL cn hf
    rw [if_neg (by simp)]
    rw [List.length_cons] at HL cn hf
    have HP := Lib.hid (HS.out.pop hR)
    have HK := Lib.hid ((Kept.refl w [b]).set (.inl (List.mem_singleton.2 rfl)) 381 (.int .i64 ((R.length : Int) + 1)))
    obtain ⟨r, hr⟩ : ∃ r, R.length = r := ⟨_, rfl⟩
    have hrr : (r : Int) < 126 := by omega
    rw [hr] at HL cn HP HK
    clear hR hr
    go_enter Tryz.func86, Tryz.ntmps86
    go_wp2_with fail
    refine HL.out.mono ?_
    rintro e w1 ⟨rfl, rfl⟩
    go_wp2
    go_ret
    exact ⟨rfl, HP.out, HK.out⟩
set_option maxRecDepth 100000 in
set_option maxHeartbeats 2000000 in
theorem stkPush_any (b : Nat) (s : Stk) (x : Ent) (w : World) (h : StkAt w b s) : Calls Tryz.prog 103 #[.pointer (some ⟨b, 0, none⟩), entV x] w fun e w' => e = .returned (.bool (pushS s x).1) ∧ StkAt w' b (pushS s x).2 ∧ Kept w w' [b] := by
  obtain ⟨lv, ov, is⟩ := x
  obtain ⟨W, hW⟩ : ∃ W, w.alloc (.cells #[.int .i64 lv, .int .i64 ov, .bool is] 109) = W := ⟨_, rfl⟩
  have hbn := below_new w (.cells #[.int .i64 lv, .int .i64 ov, .bool is] 109)
  have hs := h.low hbn
  have hsz : W.heap.size = w.heap.size + 1 := by rw [← hW]; simp
  have cx := cells_new w [.int .i64 lv, .int .i64 ov, .bool is] 109
  have cx0 := cx 0 _ rfl
  have cx1 := cx 1 _ rfl
  have cx2 := cx 2 _ rfl
  rw [addNew] at cx0 cx1 cx2
  rw [show (w.alloc (.cells [Value.int .i64 lv, .int .i64 ov, .bool is].toArray 109)) = W from hW] at cx0 cx1 cx2
  rw [hW] at hbn hs
  have hlt := h.lt
  obtain ⟨g, hg⟩ : ∃ g, w.heap.size = g := ⟨_, rfl⟩
  have HK0 : Hid (Kept w W [b]) := Lib.hid (Kept.of_below hbn _)
  rw [hg] at hsz hlt cx0 cx1 cx2
  have HS := Lib.hid hs
  have HM : Hid (∀ W', Below W.heap.size W W' → Calls Tryz.prog 81 #[.pointer (some ⟨b, 0, none⟩)] W' fun e w' => e = .returned (.bool true) ∧ W' = w') := Lib.hid fun W' hb => stkMade_any b s W' (hs.low hb)
  have HT : Hid (∀ W', Below W.heap.size W W' → Calls Tryz.prog 52 #[.pointer (some ⟨b, 0, none⟩)] W' fun e w' => e = .returned (.agg #[.int .i64 s.top.lv, .int .i64 s.top.ov, .bool s.top.is]) ∧ Below W'.heap.size W' w') := Lib.hid fun W' hb => stkTop_any b s W' (hs.low hb)
  have fd := ent_lv s.top.lv s.top.ov s.top.is
  have hf := h.fits
  unfold entV
  have hne : b ≠ g := by omega
  by_cases h1 : lv ≤ s.top.lv ∨ 125 < lv
  · have HP : Hid (pushS s ⟨lv, ov, is⟩ = (false, s)) := Lib.hid (by unfold pushS; rw [if_pos h1])
    rw [HP.out]
    clear hs h hbn cx
    by_cases h2 : lv ≤ s.top.lv
    · have hd : decide (lv ≤ s.top.lv) = true := decide_eq_true h2
      go_enter Tryz.func103, Tryz.ntmps103
      go_wp2_with fail
      first | (go_region_law (first
        | (go_simp; go_at_call 81; refine (HM.out _ (by first | exact Below.refl _ _ | exact (Below.refl _ _).drew)).mono ?_; rintro e w2 ⟨rfl, rfl⟩)
        | (go_simp; go_at_call 52; refine (HT.out _ (by first | exact Below.refl _ _ | exact (Below.refl _ _).drew)).mono ?_; rintro e w3 ⟨rfl, h4⟩; have hb3 : Below W.heap.size W w3 := (by first | exact below_self (Below.refl _ _).drew h4 | exact h4); have y0 := cell_below hb3 cx0)
        | fail)) | fail
      all_goals go_wp2
      all_goals go_ret
      all_goals exact ⟨rfl, HS.out.low hb3, HK0.out.trans (Kept.of_below hb3 _)⟩
    · have hd : decide (lv ≤ s.top.lv) = false := decide_eq_false h2
      have hd2 : decide (125 < lv) = true := decide_eq_true (by omega)
      go_enter Tryz.func103, Tryz.ntmps103
      go_wp2_with fail
      first | (go_region_law (first
        | (go_simp; go_at_call 81; refine (HM.out _ (by first | exact Below.refl _ _ | exact (Below.refl _ _).drew)).mono ?_; rintro e w2 ⟨rfl, rfl⟩)
        | (go_simp; go_at_call 52; refine (HT.out _ (by first | exact Below.refl _ _ | exact (Below.refl _ _).drew)).mono ?_; rintro e w3 ⟨rfl, h4⟩; have hb3 : Below W.heap.size W w3 := (by first | exact below_self (Below.refl _ _).drew h4 | exact h4); have y0 := cell_below hb3 cx0)
        | fail)) | fail
      all_goals go_wp2
      all_goals go_ret
      all_goals exact ⟨rfl, HS.out.low hb3, HK0.out.trans (Kept.of_below hb3 _)⟩
  · have HP : Hid (pushS s ⟨lv, ov, is⟩ = (true, { s with R := ⟨lv, ov, is⟩ :: s.R })) := Lib.hid (by unfold pushS; rw [if_neg h1])
    rw [HP.out]
    have hd : decide (lv ≤ s.top.lv) = false := decide_eq_false (by omega)
    have hd2 : decide (125 < lv) = false := decide_eq_false (by omega)
    have hl := (h.ris.put (e := ⟨lv, ov, is⟩) (by show s.top.lv < lv; omega) (by show lv ≤ 125; omega) (a := 0) (b := 0) (c := 0)).len
    simp only [Stk.len, List.length_cons] at hl
    have HL : Hid (s.top.lv < lv ∧ lv ≤ 125) := Lib.hid (by omega)
    clear hs h hbn cx
    obtain ⟨r, hr⟩ : ∃ r, s.R.length + 1 = r := ⟨_, rfl⟩
    have hr126 : (r : Int) < 126 := by omega
    have hr0 : (0 : Int) ≤ (r : Int) := by omega
    go_enter Tryz.func103, Tryz.ntmps103
    go_wp2_with fail
    first | (go_region_law (first
      | (go_simp; go_at_call 81; refine (HM.out _ (by first | exact Below.refl _ _ | exact (Below.refl _ _).drew)).mono ?_; rintro e w2 ⟨rfl, rfl⟩)
      | (go_simp; go_at_call 52; refine (HT.out _ (by first | exact Below.refl _ _ | exact (Below.refl _ _).drew)).mono ?_; rintro e w3 ⟨rfl, h4⟩; have hb3 : Below W.heap.size W w3 := (by first | exact below_self (Below.refl _ _).drew h4 | exact h4); have y0 := cell_below hb3 cx0)
      | fail)) | fail
    all_goals (
      have hs3 := HS.out.low hb3
      have HK3 := Lib.hid (HK0.out.trans (Kept.of_below hb3 _))
      have y1 := cell_below hb3 cx1
      have y2 := cell_below hb3 cx2
      have cn := hs3.cn
      have hri : (s.R.length : Int) + 1 = (r : Int) := by omega
      rw [hri] at cn
      have f0 := hs3.froz (3 + r * 3)
      have f1 := hs3.froz (3 + r * 3 + 1)
      have f2 := hs3.froz (3 + r * 3 + 2)
      have f3 := hs3.froz 381
      obtain ⟨u0, k0⟩ := hs3.room (j := 3 + r * 3) (by omega)
      obtain ⟨u1, k1⟩ := hs3.room (j := 3 + r * 3 + 1) (by omega)
      obtain ⟨u2, k2⟩ := hs3.room (j := 3 + r * 3 + 2) (by omega)
      have HP3 := Lib.hid (hs3.put (x := ⟨lv, ov, is⟩) HL.out.1 HL.out.2)
      rw [hr, hri] at HP3
      have HKP := Lib.hid ((((HK3.out.set (.inl (List.mem_singleton.2 rfl)) (3 + r * 3) (.int .i64 lv)).set (.inl (List.mem_singleton.2 rfl)) (3 + r * 3 + 1) (.int .i64 ov)).set (.inl (List.mem_singleton.2 rfl)) (3 + r * 3 + 2) (.bool is)).set (.inl (List.mem_singleton.2 rfl)) 381 (.int .i64 ((r : Int) + 1)))
      have e0 : ¬ 381 = 3 + r * 3 := by omega
      have e1 : ¬ 381 = 3 + r * 3 + 1 := by omega
      have e2 : ¬ 381 = 3 + r * 3 + 2 := by omega
      have e3 : ¬ 3 + r * 3 = 381 := by omega
      have e4 : ¬ 3 + r * 3 + 1 = 381 := by omega
      have e5 : ¬ 3 + r * 3 + 2 = 381 := by omega
      clear hs3 hri hb3 h4
      go_wp2
      go_region)
    all_goals go_wp2
    all_goals go_ret
    all_goals exact ⟨rfl, HP3.out.drew, HKP.out.drew⟩
end Go.Proofs.YtdgomaoikeffhaaGreat
/- stack's begin, Embed, Isolate, EndEmbed, EndIsolate, walked. -/
namespace Go.Proofs.YtdgomaoikeffhaaGreat
open Go.RowKit

def begS (s : Stk) (x : Ent) : Bool × Stk := if s.a = 0 ∧ s.b = 0 then pushS s x else (false, s)
theorem beg_room (s : Stk) (r : Bool) (o : Int) (i : Bool) : begS s ⟨nextS s r, o, i⟩ = if roomS s r = true then (true, { s with R := ⟨nextS s r, o, i⟩ :: s.R }) else (false, s) := by
  have hn := nextN_gt s.top.lv r
  unfold begS
  by_cases h : s.a = 0 ∧ s.b = 0
  · rw [if_pos h]
    by_cases h2 : nextS s r ≤ 125
    · rw [if_pos (room_iff.2 ⟨h2, h.1, h.2⟩)]
      exact push_ok (by show s.top.lv < nextS s r; unfold nextS; omega) h2
    · rw [if_neg (fun e => h2 (room_iff.1 e).1)]
      unfold pushS
      rw [if_pos (.inr (by show 125 < nextS s r; omega))]
  · rw [if_neg h, if_neg (fun e => h (room_iff.1 e).2)]
set_option maxRecDepth 100000 in
set_option maxHeartbeats 2000000 in
theorem stkBegin_any (b : Nat) (s : Stk) (x : Ent) (w : World) (h : StkAt w b s) : Calls Tryz.prog 83 #[.pointer (some ⟨b, 0, none⟩), entV x] w fun e w' => e = .returned (.bool (begS s x).1) ∧ StkAt w' b (begS s x).2 ∧ Kept w w' [b] := by
  obtain ⟨lv, ov, is⟩ := x
  obtain ⟨W, hW⟩ : ∃ W, w.alloc (.cells #[.int .i64 lv, .int .i64 ov, .bool is] 109) = W := ⟨_, rfl⟩
  have hbn := below_new w (.cells #[.int .i64 lv, .int .i64 ov, .bool is] 109)
  have hs := h.low hbn
  have cx := cells_new w [.int .i64 lv, .int .i64 ov, .bool is] 109
  have cx0 := cx 0 _ rfl
  have cx1 := cx 1 _ rfl
  have cx2 := cx 2 _ rfl
  rw [addNew] at cx0 cx1 cx2
  rw [show (w.alloc (.cells [Value.int .i64 lv, .int .i64 ov, .bool is].toArray 109)) = W from hW] at cx0 cx1 cx2
  rw [hW] at hbn hs
  have HK0 : Hid (Kept w W [b]) := Lib.hid (Kept.of_below hbn _)
  obtain ⟨g, hg⟩ : ∃ g, w.heap.size = g := ⟨_, rfl⟩
  rw [hg] at cx0 cx1 cx2
  have HS := Lib.hid hs
  have HF := Lib.hid (stkFit_any b s W hs)
  have HP := Lib.hid (stkPush_any b s ⟨lv, ov, is⟩ W hs)
  unfold entV at HP ⊢
  by_cases hc : s.a = 0 ∧ s.b = 0
  · have hbg : begS s ⟨lv, ov, is⟩ = pushS s ⟨lv, ov, is⟩ := if_pos hc
    rw [hbg]
    clear hbg
    have hd : (decide (s.a = 0) && decide (s.b = 0)) = true := by simp [hc]
    rw [hd] at HF
    clear hs h hbn cx
    go_enter Tryz.func83, Tryz.ntmps83
    go_wp2_with fail
    refine HF.out.mono ?_
    rintro e w1 ⟨rfl, rfl⟩
    go_wp2_with fail
    refine HP.out.mono ?_
    rintro e w2 ⟨rfl, hA, hK⟩
    have HA := Lib.hid hA
    have HK := Lib.hid (HK0.out.trans hK)
    clear hA hK
    go_wp2
    go_ret
    exact ⟨rfl, HA.out, HK.out⟩
  · have hbg : begS s ⟨lv, ov, is⟩ = (false, s) := if_neg hc
    rw [hbg]
    clear hbg
    have hd : (decide (s.a = 0) && decide (s.b = 0)) = false := by
      rw [Bool.eq_false_iff]
      intro e
      simp at e
      exact hc e
    rw [hd] at HF
    clear hs h hbn cx hc
    go_enter Tryz.func83, Tryz.ntmps83
    go_wp2_with fail
    refine HF.out.mono ?_
    rintro e w1 ⟨rfl, rfl⟩
    go_wp2
    go_ret
    exact ⟨rfl, HS.out, HK0.out⟩
set_option maxRecDepth 100000 in
set_option maxHeartbeats 2000000 in
theorem stkEmbed_any (b : Nat) (s : Stk) (r : Bool) (o : Int) (w : World) (h : StkAt w b s) (hb : s.b ≤ 100000000) : Calls Tryz.prog 82 #[.pointer (some ⟨b, 0, none⟩), .bool r, .int .i64 o] w fun e w' => e = .returned (.bool (embS s r o).1) ∧ StkAt w' b (embS s r o).2 ∧ Kept w w' [b] := by
  have HM := Lib.hid (stkMade_any b s w h)
  have HN := Lib.hid (stkNext_any b s r w h)
  have HG := Lib.hid (fun W (k : Below w.heap.size w W) => stkBegin_any b s ⟨nextS s r, o, false⟩ W (h.low k))
  have hg := beg_room s r o false
  cases hr : roomS s r with
  | true =>
    rw [hr, if_pos rfl] at hg
    rw [hg] at HG
    rw [emb_room hr]
    clear h hg hr
    unfold entV at HG
    go_enter Tryz.func82, Tryz.ntmps82
    go_wp2_with fail
    refine HM.out.mono ?_
    rintro e w1 ⟨rfl, rfl⟩
    go_wp2_with fail
    refine HN.out.mono ?_
    rintro e w2 ⟨rfl, hb2⟩
    go_wp2_with fail
    refine (HG.out _ hb2).mono ?_
    rintro e w3 ⟨rfl, hA, hK⟩
    have HA := Lib.hid hA
    have HK := Lib.hid ((Kept.of_below hb2 [b]).trans hK)
    clear hA hK hb2
    go_wp2
    go_ret
    exact ⟨rfl, HA.out, HK.out⟩
  | false =>
    rw [hr, if_neg (by decide)] at hg
    rw [hg] at HG
    rw [emb_no hr]
    obtain ⟨T, hT⟩ : ∃ T, (if s.a = 0 then { s with b := s.b + 1 } else s) = T := ⟨_, rfl⟩
    rw [hT]
    have HTT := Lib.hid hT
    clear h hg hr hT
    unfold entV at HG
    go_enter Tryz.func82, Tryz.ntmps82
    go_wp2_with fail
    refine HM.out.mono ?_
    rintro e w1 ⟨rfl, rfl⟩
    go_wp2_with fail
    refine HN.out.mono ?_
    rintro e w2 ⟨rfl, hb2⟩
    go_wp2_with fail
    refine (HG.out _ hb2).mono ?_
    rintro e w3 ⟨rfl, hA, hK⟩
    have ca := hA.ca
    have cb := hA.cb
    have fb := hA.froz 1
    have HA := Lib.hid hA
    have HK := Lib.hid ((Kept.of_below hb2 [b]).trans hK)
    have HB := hA.setB (s.b + 1)
    rw [show ((s.b + 1 : Nat) : Int) = (s.b : Int) + 1 by omega] at HB
    have HB := Lib.hid HB
    have HKB := Lib.hid (HK.out.set (.inl (List.mem_singleton.2 rfl)) 1 (.int .i64 ((s.b : Int) + 1)))
    clear hA hK hb2
    have hb' : (s.b : Int) ≤ 100000000 := by omega
    have hb0 : (0 : Int) ≤ (s.b : Int) := by omega
    by_cases ha : s.a = 0
    · have ha' : (s.a : Int) = 0 := by omega
      rw [ha'] at ca
      go_wp2
      go_ret
      rw [← HTT.out, if_pos ha]
      exact ⟨rfl, HB.out, HKB.out⟩
    · have ha' : ((s.a : Int) == 0) = false := by simp; omega
      have ha2 : ¬ (s.a : Int) = 0 := by omega
      go_wp2
      go_ret
      rw [← HTT.out, if_neg ha]
      exact ⟨rfl, HA.out, HK.out⟩
set_option maxRecDepth 100000 in
set_option maxHeartbeats 2000000 in
theorem stkIsolate_any (b : Nat) (s : Stk) (r : Bool) (w : World) (h : StkAt w b s) (hb : s.a ≤ 100000000) (hc : s.c ≤ 100000000) : Calls Tryz.prog 55 #[.pointer (some ⟨b, 0, none⟩), .bool r] w fun e w' => e = .returned (.bool (isoS s r).1) ∧ StkAt w' b (isoS s r).2 ∧ Kept w w' [b] := by
  have HM := Lib.hid (stkMade_any b s w h)
  have HN := Lib.hid (stkNext_any b s r w h)
  have HG := Lib.hid (fun W (k : Below w.heap.size w W) => stkBegin_any b s ⟨nextS s r, 13, true⟩ W (h.low k))
  have hg := beg_room s r 13 true
  cases hr : roomS s r with
  | true =>
    rw [hr, if_pos rfl] at hg
    rw [hg] at HG
    rw [iso_room hr]
    clear h hg hr
    unfold entV at HG
    go_enter Tryz.func55, Tryz.ntmps55
    go_wp2_with fail
    refine HM.out.mono ?_
    rintro e w1 ⟨rfl, rfl⟩
    go_wp2_with fail
    refine HN.out.mono ?_
    rintro e w2 ⟨rfl, hb2⟩
    go_wp2_with fail
    refine (HG.out _ hb2).mono ?_
    rintro e w3 ⟨rfl, hA, hK⟩
    have cc := hA.cc
    have fc := hA.froz 2
    simp only at cc
    have HK := Lib.hid ((Kept.of_below hb2 [b]).trans hK)
    have HB := hA.setC (s.c + 1)
    rw [show ((s.c + 1 : Nat) : Int) = (s.c : Int) + 1 by omega] at HB
    have HB := Lib.hid HB
    have HKB := Lib.hid (HK.out.set (.inl (List.mem_singleton.2 rfl)) 2 (.int .i64 ((s.c : Int) + 1)))
    clear hA hK hb2
    have hb' : (s.c : Int) ≤ 100000000 := by omega
    have hb0 : (0 : Int) ≤ (s.c : Int) := by omega
    go_wp2
    go_ret
    exact ⟨rfl, HB.out, HKB.out⟩
  | false =>
    rw [hr, if_neg (by decide)] at hg
    rw [hg] at HG
    rw [iso_no hr]
    clear h hg hr
    unfold entV at HG
    go_enter Tryz.func55, Tryz.ntmps55
    go_wp2_with fail
    refine HM.out.mono ?_
    rintro e w1 ⟨rfl, rfl⟩
    go_wp2_with fail
    refine HN.out.mono ?_
    rintro e w2 ⟨rfl, hb2⟩
    go_wp2_with fail
    refine (HG.out _ hb2).mono ?_
    rintro e w3 ⟨rfl, hA, hK⟩
    have ca := hA.ca
    have fa := hA.froz 0
    have HK := Lib.hid ((Kept.of_below hb2 [b]).trans hK)
    have HB := hA.setA (s.a + 1)
    rw [show ((s.a + 1 : Nat) : Int) = (s.a : Int) + 1 by omega] at HB
    have HB := Lib.hid HB
    have HKB := Lib.hid (HK.out.set (.inl (List.mem_singleton.2 rfl)) 0 (.int .i64 ((s.a : Int) + 1)))
    clear hA hK hb2
    have hb' : (s.a : Int) ≤ 100000000 := by omega
    have hb0 : (0 : Int) ≤ (s.a : Int) := by omega
    go_wp2
    go_ret
    exact ⟨rfl, HB.out, HKB.out⟩
end Go.Proofs.YtdgomaoikeffhaaGreat
/- stack's EndEmbed, EndIsolate, walked. -/
namespace Go.Proofs.YtdgomaoikeffhaaGreat
open Go.RowKit

set_option maxRecDepth 100000 in
set_option maxHeartbeats 2000000 in
theorem stkEndE_any (b : Nat) (s : Stk) (w : World) (h : StkAt w b s) (hb : s.b ≤ 100000000) : Calls Tryz.prog 58 #[.pointer (some ⟨b, 0, none⟩)] w fun e w' => e = .returned (.tuple #[]) ∧ StkAt w' b (endES s) ∧ Kept w w' [b] := by
  have HM := Lib.hid (stkMade_any b s w h)
  have HT := Lib.hid (stkTop_any b s w h)
  have HP := Lib.hid (fun W (k : Below w.heap.size w W) => stkPop_any b s W (h.low k))
  have ca := h.ca
  have cb := h.cb
  have fb := h.froz 1
  have HS := Lib.hid h
  have hsb : (s.b : Int) ≤ 100000000 := by omega
  have hsa0 : (0 : Int) ≤ (s.a : Int) := by omega
  have hsb0 : (0 : Int) ≤ (s.b : Int) := by omega
  unfold entV at HT
  obtain ⟨T, hT⟩ : ∃ T, endES s = T := ⟨_, rfl⟩
  rw [hT]
  by_cases ha : 0 < s.a
  · have hd : decide ((0 : Int) < (s.a : Int)) = true := by simp; omega
    have hE : endES s = s := by unfold endES; rw [if_pos ha]
    have HE := Lib.hid (hT.symm.trans hE)
    clear hT hE h
    go_enter Tryz.func58, Tryz.ntmps58
    go_wp2_with fail
    refine HM.out.mono ?_
    rintro e w1 ⟨rfl, rfl⟩
    go_wp2
    refine bodyPost_end (v := .tuple #[]) (by simp [results, go_sem]) rfl ⟨rfl, ?_⟩
    rw [HE.out]
    exact ⟨HS.out, Kept.refl _ _⟩
  · have hd : decide ((0 : Int) < (s.a : Int)) = false := by simp; omega
    by_cases hb2 : 0 < s.b
    · have hd2 : decide ((0 : Int) < (s.b : Int)) = true := by simp; omega
      have hE : endES s = { s with b := s.b - 1 } := by unfold endES; rw [if_neg ha, if_pos hb2]
      have HE := Lib.hid (hT.symm.trans hE)
      have HB := h.setB (s.b - 1)
      rw [show ((s.b - 1 : Nat) : Int) = (s.b : Int) - 1 by omega] at HB
      have HB := Lib.hid HB
      have HKB := Lib.hid ((Kept.refl w [b]).set (.inl (List.mem_singleton.2 rfl)) 1 (.int .i64 ((s.b : Int) - 1)))
      clear hT hE h
      go_enter Tryz.func58, Tryz.ntmps58
      go_wp2_with fail
      refine HM.out.mono ?_
      rintro e w1 ⟨rfl, rfl⟩
      go_wp2
      refine bodyPost_end (v := .tuple #[]) (by simp [results, go_sem]) rfl ⟨rfl, ?_⟩
      rw [HE.out]
      exact ⟨HB.out, HKB.out⟩
    · have hd2 : decide ((0 : Int) < (s.b : Int)) = false := by simp; omega
      have fd := ent_is s.top.lv s.top.ov s.top.is
      have hE : endES s = if s.top.is = true then s else (popS s).2 := by unfold endES; rw [if_neg ha, if_neg hb2]
      cases hi : s.top.is with
      | true =>
        rw [hi] at HT fd
        rw [hi, if_pos rfl] at hE
        have HE := Lib.hid (hT.symm.trans hE)
        clear hT hE h
        go_enter Tryz.func58, Tryz.ntmps58
        go_wp2_with fail
        refine HM.out.mono ?_
        rintro e w1 ⟨rfl, rfl⟩
        go_wp2_with fail
        refine HT.out.mono ?_
        rintro e w2 ⟨rfl, hb3⟩
        have HS2 := Lib.hid (HS.out.low hb3)
        have HK2 := Lib.hid (Kept.of_below hb3 [b])
        clear hb3
        go_wp2
        refine bodyPost_end (v := .tuple #[]) (by simp [results, go_sem]) rfl ⟨rfl, ?_⟩
        rw [HE.out]
        exact ⟨HS2.out, HK2.out⟩
      | false =>
        rw [hi] at HT fd
        rw [hi, if_neg (by decide)] at hE
        have HE := Lib.hid (hT.symm.trans hE)
        clear hT hE h
        go_enter Tryz.func58, Tryz.ntmps58
        go_wp2_with fail
        refine HM.out.mono ?_
        rintro e w1 ⟨rfl, rfl⟩
        go_wp2_with fail
        refine HT.out.mono ?_
        rintro e w2 ⟨rfl, hb3⟩
        have HP2 := Lib.hid (HP.out _ hb3)
        have HK2 := Lib.hid (Kept.of_below hb3 [b])
        clear hb3
        go_wp2_with fail
        refine HP2.out.mono ?_
        rintro e w3 ⟨rfl, hA, hK⟩
        have HA := Lib.hid hA
        have HK := Lib.hid (HK2.out.trans hK)
        clear hA hK
        go_wp2
        refine bodyPost_end (v := .tuple #[]) (by simp [results, go_sem]) rfl ⟨rfl, ?_⟩
        rw [HE.out]
        exact ⟨HA.out, HK.out⟩
theorem popS_tail (s : Stk) : (popS s).2 = { s with R := s.R.tail } := by
  unfold popS
  cases h : s.R with
  | nil => cases s; simp_all
  | cons x R => simp
/-- The number of entries, as memory has it. -/
def szAt (w : World) (b : Nat) : Nat := match w.cell? ⟨b, 381, none⟩ with
  | some (.int _ x) => x.toNat
  | _ => 0
theorem StkAt.szAt {w : World} {b : Nat} {s : Stk} (h : StkAt w b s) : Go.Proofs.YtdgomaoikeffhaaGreat.szAt w b = s.R.length + 1 := by
  unfold Go.Proofs.YtdgomaoikeffhaaGreat.szAt
  rw [h.cn]
  show ((s.R.length : Int) + 1).toNat = _
  omega
set_option maxRecDepth 100000 in
set_option maxHeartbeats 2000000 in
theorem stkEndI_any (b : Nat) (s : Stk) (w : World) (h : StkAt w b s) (ha8 : s.a ≤ 100000000) (hc8 : s.c ≤ 100000000) : Calls Tryz.prog 57 #[.pointer (some ⟨b, 0, none⟩)] w fun e w' => e = .returned (.tuple #[]) ∧ StkAt w' b (endIS s) ∧ Kept w w' [b] := by
  have HM := Lib.hid (stkMade_any b s w h)
  have ca := h.ca
  have cc := h.cc
  have fa := h.froz 0
  have HS := Lib.hid h
  have hsa : (s.a : Int) ≤ 100000000 := by omega
  have hsc : (s.c : Int) ≤ 100000000 := by omega
  have hsa0 : (0 : Int) ≤ (s.a : Int) := by omega
  have hsc0 : (0 : Int) ≤ (s.c : Int) := by omega
  obtain ⟨T, hT⟩ : ∃ T, endIS s = T := ⟨_, rfl⟩
  rw [hT]
  by_cases ha : 0 < s.a
  · have hd : decide ((0 : Int) < (s.a : Int)) = true := by simp; omega
    have hE : endIS s = { s with a := s.a - 1 } := by unfold endIS; rw [if_pos ha]
    have HE := Lib.hid (hT.symm.trans hE)
    have HB := h.setA (s.a - 1)
    rw [show ((s.a - 1 : Nat) : Int) = (s.a : Int) - 1 by omega] at HB
    have HB := Lib.hid HB
    have HKB := Lib.hid ((Kept.refl w [b]).set (.inl (List.mem_singleton.2 rfl)) 0 (.int .i64 ((s.a : Int) - 1)))
    clear hT hE h
    go_enter Tryz.func57, Tryz.ntmps57
    go_wp2_with fail
    refine HM.out.mono ?_
    rintro e w1 ⟨rfl, rfl⟩
    go_wp2
    refine bodyPost_end (v := .tuple #[]) (by simp [results, go_sem]) rfl ⟨rfl, ?_⟩
    rw [HE.out]
    exact ⟨HB.out, HKB.out⟩
  · have hd : decide ((0 : Int) < (s.a : Int)) = false := by simp; omega
    by_cases hc : 0 < s.c
    · have hd2 : decide ((0 : Int) < (s.c : Int)) = true := by simp; omega
      have hE : endIS s = { s with b := 0, R := (s.R.dropWhile fun e => !e.is).tail, c := s.c - 1 } := by unfold endIS; rw [if_neg ha, if_pos hc]
      have HE := Lib.hid (hT.symm.trans hE)
      have cb := h.cb
      have fb := h.froz 1
      have HB := Lib.hid (h.setB 0)
      have HKB := Lib.hid ((Kept.refl w [b]).set (.inl (List.mem_singleton.2 rfl)) 1 (.int .i64 0))
      clear hT hE h
      go_enter Tryz.func57, Tryz.ntmps57
      go_wp2_with fail
      refine HM.out.mono ?_
      rintro e w1 ⟨rfl, rfl⟩
      go_wp2_with fail
      go_loopw [] (fun wr => ∃ R', StkAt wr b { s with b := 0, R := R' } ∧ R'.dropWhile (fun e => !e.is) = s.R.dropWhile (fun e => !e.is) ∧ Kept w wr [b]) (fun wr => szAt wr b)
      case atStart => exact ⟨s.R, HB.out, rfl, HKB.out⟩
      case round =>
        obtain ⟨R', hA, hD, hK⟩ := hrel
        have hsz := hA.szAt
        simp only at hsz
        have HA := Lib.hid hA
        have HDR := Lib.hid hD
        have HK := Lib.hid hK
        have HT := Lib.hid (stkTop_any b _ wr hA)
        have fd := ent_is (Stk.top { s with b := 0, R := R' }).lv (Stk.top { s with b := 0, R := R' }).ov (Stk.top { s with b := 0, R := R' }).is
        obtain ⟨tp, htp⟩ : ∃ tp, Stk.top { s with b := 0, R := R' } = tp := ⟨_, rfl⟩
        rw [htp] at HT fd
        obtain ⟨lv, ov, is⟩ := tp
        unfold entV at HT
        simp only at HT fd
        have HSZ := Lib.hid hsz
        have HTP := Lib.hid htp
        clear hA hD hK hsz htp cb fb ca cc fa
        cases is with
        | true =>
          go_wp2_with fail
          refine HT.out.mono ?_
          rintro e w2 ⟨rfl, hb2⟩
          have HPQ := Lib.hid (stkPop_any b _ w2 (HA.out.low hb2))
          have HKQ := Lib.hid (HK.out.trans (Kept.of_below hb2 [b]))
          have HTL : Hid ((R'.dropWhile (fun e => !e.is)).tail = R'.tail) := Lib.hid (by
            have h := HTP.out
            cases R' with
            | nil => rfl
            | cons x R' =>
              simp only [Stk.top, List.headD_cons] at h
              rw [List.dropWhile_cons, if_neg (by rw [h]; simp)])
          clear hb2
          go_wp2_with fail
          refine HPQ.out.mono ?_
          rintro e w4 ⟨rfl, hA4, hK4⟩
          rw [popS_tail] at hA4
          have cc4 := hA4.cc
          have fc4 := hA4.froz 2
          simp only at cc4
          have HB4 := hA4.setC (s.c - 1)
          rw [show ((s.c - 1 : Nat) : Int) = (s.c : Int) - 1 by omega] at HB4
          have HB4 := Lib.hid HB4
          have HK4 := Lib.hid ((HKQ.out.trans hK4).set (.inl (List.mem_singleton.2 rfl)) 2 (.int .i64 ((s.c : Int) - 1)))
          clear hA4 hK4
          go_wp2
          refine bodyPost_end (v := .tuple #[]) (by simp [results, go_sem]) rfl ⟨rfl, ?_⟩
          rw [HE.out, ← HDR.out, HTL.out]
          exact ⟨HB4.out, HK4.out⟩
        | false =>
          go_wp2_with fail
          refine HT.out.mono ?_
          rintro e w2 ⟨rfl, hb2⟩
          have HP := Lib.hid (stkPop_any b _ w2 (HA.out.low hb2))
          have HK2 := Lib.hid (HK.out.trans (Kept.of_below hb2 [b]))
          clear hb2
          cases R' with
          | nil =>
            have HTL : Hid ((([] : List Ent).dropWhile (fun e => !e.is)).tail = ([] : List Ent).tail) := Lib.hid rfl
            have hp0 : (popS { s with b := 0, R := [] }) = (false, { s with b := 0, R := [] }) := rfl
            rw [hp0] at HP
            go_wp2_with fail
            refine HP.out.mono ?_
            rintro e w3 ⟨rfl, hA3, hK3⟩
            have HPQ := Lib.hid (stkPop_any b _ w3 hA3)
            have HKQ := Lib.hid (HK2.out.trans hK3)
            clear hA3 hK3 hp0
            go_wp2_with fail
            refine HPQ.out.mono ?_
            rintro e w4 ⟨rfl, hA4, hK4⟩
            rw [popS_tail] at hA4
            have cc4 := hA4.cc
            have fc4 := hA4.froz 2
            simp only at cc4
            have HB4 := hA4.setC (s.c - 1)
            rw [show ((s.c - 1 : Nat) : Int) = (s.c : Int) - 1 by omega] at HB4
            have HB4 := Lib.hid HB4
            have HK4 := Lib.hid ((HKQ.out.trans hK4).set (.inl (List.mem_singleton.2 rfl)) 2 (.int .i64 ((s.c : Int) - 1)))
            clear hA4 hK4
            go_wp2
            refine bodyPost_end (v := .tuple #[]) (by simp [results, go_sem]) rfl ⟨rfl, ?_⟩
            rw [HE.out, ← HDR.out, HTL.out]
            exact ⟨HB4.out, HK4.out⟩
          | cons x R' =>
            have hp0 : (popS { s with b := 0, R := x :: R' }) = (true, { s with b := 0, R := R' }) := rfl
            rw [hp0] at HP
            have HD2 : Hid (R'.dropWhile (fun e => !e.is) = s.R.dropWhile (fun e => !e.is)) := Lib.hid (by
              have h := HTP.out
              simp only [Stk.top, List.headD_cons] at h
              rw [← HDR.out, List.dropWhile_cons, if_pos (by rw [h]; rfl)])
            go_wp2_with fail
            refine HP.out.mono ?_
            rintro e w3 ⟨rfl, hA3, hK3⟩
            have HS3 := Lib.hid hA3.szAt
            have HA3 := Lib.hid hA3
            have HK3 := Lib.hid (HK2.out.trans hK3)
            clear hA3 hK3 hp0
            go_wp2_with fail
            go_roundw
            case rel => exact ⟨R', HA3.out, HD2.out, HK3.out⟩
            case measure => rw [HS3.out, HSZ.out]; simp
    · have hd2 : decide ((0 : Int) < (s.c : Int)) = false := by simp; omega
      have hE : endIS s = s := by unfold endIS; rw [if_neg ha, if_neg hc]
      have HE := Lib.hid (hT.symm.trans hE)
      clear hT hE h
      go_enter Tryz.func57, Tryz.ntmps57
      go_wp2_with fail
      refine HM.out.mono ?_
      rintro e w1 ⟨rfl, rfl⟩
      go_wp2
      refine bodyPost_end (v := .tuple #[]) (by simp [results, go_sem]) rfl ⟨rfl, ?_⟩
      rw [HE.out]
      exact ⟨HS.out, Kept.refl _ _⟩
end Go.Proofs.YtdgomaoikeffhaaGreat
