/- stack's begin, Embed, Isolate, EndEmbed, EndIsolate, walked. -/
import Derived.Test.YtflbiblkphaagaaStkP2
namespace Go.Proofs.Ytflbiblkphaagaa
open Go.RowKit

def begS (s : Stk) (x : Ent) : Bool × Stk := if s.a = 0 ∧ s.b = 0 then pushS s x else (false, s)
theorem beg_room (s : Stk) (r : Bool) (o : Int) (i : Bool) : begS s ⟨nextS s r, o, i⟩ = if roomS s r = true then (true, { s with R := ⟨nextS s r, o, i⟩ :: s.R }) else (false, s) := by
  have hn := nextN_gt s.top.lv r
  unfold begS
  by_cases h : s.a = 0 ∧ s.b = 0
  · rw [if_pos h]
    by_cases h2 : nextS s r ≤ 125
    · rw [if_pos (room_iff.2 ⟨h2, h.1, h.2⟩)]
      exact push_ok (by show s.top.lv < nextS s r; unfold nextS; omega) h2
    · rw [if_neg (fun e => h2 (room_iff.1 e).1)]
      unfold pushS
      rw [if_pos (.inr (by show 125 < nextS s r; omega))]
  · rw [if_neg h, if_neg (fun e => h (room_iff.1 e).2)]
set_option maxRecDepth 100000 in
set_option maxHeartbeats 2000000 in
theorem stkBegin_any (b : Nat) (s : Stk) (x : Ent) (w : World) (h : StkAt w b s) : Calls Try.prog 44 #[.pointer (some ⟨b, 0, none⟩), entV x] w fun e w' => e = .returned (.bool (begS s x).1) ∧ StkAt w' b (begS s x).2 ∧ Kept w w' [b] := by
  obtain ⟨lv, ov, is⟩ := x
  obtain ⟨W, hW⟩ : ∃ W, w.alloc (.cells #[.int .i64 lv, .int .i64 ov, .bool is] 34) = W := ⟨_, rfl⟩
  have hbn := below_new w (.cells #[.int .i64 lv, .int .i64 ov, .bool is] 34)
  have hs := h.low hbn
  have cx := cells_new w [.int .i64 lv, .int .i64 ov, .bool is] 34
  have cx0 := cx 0 _ rfl
  have cx1 := cx 1 _ rfl
  have cx2 := cx 2 _ rfl
  rw [addNew] at cx0 cx1 cx2
  rw [show (w.alloc (.cells [Value.int .i64 lv, .int .i64 ov, .bool is].toArray 34)) = W from hW] at cx0 cx1 cx2
  rw [hW] at hbn hs
  have HK0 : Hid (Kept w W [b]) := Lib.hid (Kept.of_below hbn _)
  obtain ⟨g, hg⟩ : ∃ g, w.heap.size = g := ⟨_, rfl⟩
  rw [hg] at cx0 cx1 cx2
  have HS := Lib.hid hs
  have HF := Lib.hid (stkFit_any b s W hs)
  have HP := Lib.hid (stkPush_any b s ⟨lv, ov, is⟩ W hs)
  unfold entV at HP ⊢
  by_cases hc : s.a = 0 ∧ s.b = 0
  · have hbg : begS s ⟨lv, ov, is⟩ = pushS s ⟨lv, ov, is⟩ := if_pos hc
    rw [hbg]
    clear hbg
    have hd : (decide (s.a = 0) && decide (s.b = 0)) = true := by simp [hc]
    rw [hd] at HF
    clear hs h hbn cx
    go_enter Try.func44, Try.ntmps44
    go_wp2_with fail
    refine HF.out.mono ?_
    rintro e w1 ⟨rfl, rfl⟩
    go_wp2_with fail
    refine HP.out.mono ?_
    rintro e w2 ⟨rfl, hA, hK⟩
    have HA := Lib.hid hA
    have HK := Lib.hid (HK0.out.trans hK)
    clear hA hK
    go_wp2
    go_ret
    exact ⟨rfl, HA.out, HK.out⟩
  · have hbg : begS s ⟨lv, ov, is⟩ = (false, s) := if_neg hc
    rw [hbg]
    clear hbg
    have hd : (decide (s.a = 0) && decide (s.b = 0)) = false := by
      rw [Bool.eq_false_iff]
      intro e
      simp at e
      exact hc e
    rw [hd] at HF
    clear hs h hbn cx hc
    go_enter Try.func44, Try.ntmps44
    go_wp2_with fail
    refine HF.out.mono ?_
    rintro e w1 ⟨rfl, rfl⟩
    go_wp2
    go_ret
    exact ⟨rfl, HS.out, HK0.out⟩
set_option maxRecDepth 100000 in
set_option maxHeartbeats 2000000 in
theorem stkEmbed_any (b : Nat) (s : Stk) (r : Bool) (o : Int) (w : World) (h : StkAt w b s) (hb : s.b ≤ 100000000) : Calls Try.prog 22 #[.pointer (some ⟨b, 0, none⟩), .bool r, .int .i64 o] w fun e w' => e = .returned (.bool (embS s r o).1) ∧ StkAt w' b (embS s r o).2 ∧ Kept w w' [b] := by
  have HM := Lib.hid (stkMade_any b s w h)
  have HN := Lib.hid (stkNext_any b s r w h)
  have HG := Lib.hid (fun W (k : Below w.heap.size w W) => stkBegin_any b s ⟨nextS s r, o, false⟩ W (h.low k))
  have hg := beg_room s r o false
  cases hr : roomS s r with
  | true =>
    rw [hr, if_pos rfl] at hg
    rw [hg] at HG
    rw [emb_room hr]
    clear h hg hr
    unfold entV at HG
    go_enter Try.func22, Try.ntmps22
    go_wp2_with fail
    refine HM.out.mono ?_
    rintro e w1 ⟨rfl, rfl⟩
    go_wp2_with fail
    refine HN.out.mono ?_
    rintro e w2 ⟨rfl, hb2⟩
    go_wp2_with fail
    refine (HG.out _ hb2).mono ?_
    rintro e w3 ⟨rfl, hA, hK⟩
    have HA := Lib.hid hA
    have HK := Lib.hid ((Kept.of_below hb2 [b]).trans hK)
    clear hA hK hb2
    go_wp2
    go_ret
    exact ⟨rfl, HA.out, HK.out⟩
  | false =>
    rw [hr, if_neg (by decide)] at hg
    rw [hg] at HG
    rw [emb_no hr]
    obtain ⟨T, hT⟩ : ∃ T, (if s.a = 0 then { s with b := s.b + 1 } else s) = T := ⟨_, rfl⟩
    rw [hT]
    have HTT := Lib.hid hT
    clear h hg hr hT
    unfold entV at HG
    go_enter Try.func22, Try.ntmps22
    go_wp2_with fail
    refine HM.out.mono ?_
    rintro e w1 ⟨rfl, rfl⟩
    go_wp2_with fail
    refine HN.out.mono ?_
    rintro e w2 ⟨rfl, hb2⟩
    go_wp2_with fail
    refine (HG.out _ hb2).mono ?_
    rintro e w3 ⟨rfl, hA, hK⟩
    have ca := hA.ca
    have cb := hA.cb
    have fb := hA.froz 1
    have HA := Lib.hid hA
    have HK := Lib.hid ((Kept.of_below hb2 [b]).trans hK)
    have HB := hA.setB (s.b + 1)
    rw [show ((s.b + 1 : Nat) : Int) = (s.b : Int) + 1 by omega] at HB
    have HB := Lib.hid HB
    have HKB := Lib.hid (HK.out.set (.inl (List.mem_singleton.2 rfl)) 1 (.int .i64 ((s.b : Int) + 1)))
    clear hA hK hb2
    have hb' : (s.b : Int) ≤ 100000000 := by omega
    have hb0 : (0 : Int) ≤ (s.b : Int) := by omega
    by_cases ha : s.a = 0
    · have ha' : (s.a : Int) = 0 := by omega
      rw [ha'] at ca
      go_wp2
      go_ret
      rw [← HTT.out, if_pos ha]
      exact ⟨rfl, HB.out, HKB.out⟩
    · have ha' : ((s.a : Int) == 0) = false := by simp; omega
      have ha2 : ¬ (s.a : Int) = 0 := by omega
      go_wp2
      go_ret
      rw [← HTT.out, if_neg ha]
      exact ⟨rfl, HA.out, HK.out⟩
set_option maxRecDepth 100000 in
set_option maxHeartbeats 2000000 in
theorem stkIsolate_any (b : Nat) (s : Stk) (r : Bool) (w : World) (h : StkAt w b s) (hb : s.a ≤ 100000000) (hc : s.c ≤ 100000000) : Calls Try.prog 23 #[.pointer (some ⟨b, 0, none⟩), .bool r] w fun e w' => e = .returned (.bool (isoS s r).1) ∧ StkAt w' b (isoS s r).2 ∧ Kept w w' [b] := by
  have HM := Lib.hid (stkMade_any b s w h)
  have HN := Lib.hid (stkNext_any b s r w h)
  have HG := Lib.hid (fun W (k : Below w.heap.size w W) => stkBegin_any b s ⟨nextS s r, 13, true⟩ W (h.low k))
  have hg := beg_room s r 13 true
  cases hr : roomS s r with
  | true =>
    rw [hr, if_pos rfl] at hg
    rw [hg] at HG
    rw [iso_room hr]
    clear h hg hr
    unfold entV at HG
    go_enter Try.func23, Try.ntmps23
    go_wp2_with fail
    refine HM.out.mono ?_
    rintro e w1 ⟨rfl, rfl⟩
    go_wp2_with fail
    refine HN.out.mono ?_
    rintro e w2 ⟨rfl, hb2⟩
    go_wp2_with fail
    refine (HG.out _ hb2).mono ?_
    rintro e w3 ⟨rfl, hA, hK⟩
    have cc := hA.cc
    have fc := hA.froz 2
    simp only at cc
    have HK := Lib.hid ((Kept.of_below hb2 [b]).trans hK)
    have HB := hA.setC (s.c + 1)
    rw [show ((s.c + 1 : Nat) : Int) = (s.c : Int) + 1 by omega] at HB
    have HB := Lib.hid HB
    have HKB := Lib.hid (HK.out.set (.inl (List.mem_singleton.2 rfl)) 2 (.int .i64 ((s.c : Int) + 1)))
    clear hA hK hb2
    have hb' : (s.c : Int) ≤ 100000000 := by omega
    have hb0 : (0 : Int) ≤ (s.c : Int) := by omega
    go_wp2
    go_ret
    exact ⟨rfl, HB.out, HKB.out⟩
  | false =>
    rw [hr, if_neg (by decide)] at hg
    rw [hg] at HG
    rw [iso_no hr]
    clear h hg hr
    unfold entV at HG
    go_enter Try.func23, Try.ntmps23
    go_wp2_with fail
    refine HM.out.mono ?_
    rintro e w1 ⟨rfl, rfl⟩
    go_wp2_with fail
    refine HN.out.mono ?_
    rintro e w2 ⟨rfl, hb2⟩
    go_wp2_with fail
    refine (HG.out _ hb2).mono ?_
    rintro e w3 ⟨rfl, hA, hK⟩
    have ca := hA.ca
    have fa := hA.froz 0
    have HK := Lib.hid ((Kept.of_below hb2 [b]).trans hK)
    have HB := hA.setA (s.a + 1)
    rw [show ((s.a + 1 : Nat) : Int) = (s.a : Int) + 1 by omega] at HB
    have HB := Lib.hid HB
    have HKB := Lib.hid (HK.out.set (.inl (List.mem_singleton.2 rfl)) 0 (.int .i64 ((s.a : Int) + 1)))
    clear hA hK hb2
    have hb' : (s.a : Int) ≤ 100000000 := by omega
    have hb0 : (0 : Int) ≤ (s.a : Int) := by omega
    go_wp2
    go_ret
    exact ⟨rfl, HB.out, HKB.out⟩
end Go.Proofs.Ytflbiblkphaagaa
