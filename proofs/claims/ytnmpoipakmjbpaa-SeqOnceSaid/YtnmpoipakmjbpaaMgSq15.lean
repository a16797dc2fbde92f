/- Texts of one claim, one behind the other. -/
import Derived.Deep.RegionLaw
import Derived.Deep.AppendLies
import Derived.Deep.DeepCutAuto
import Derived.Test.YtnmpoipakmjbpaaMgSq2
import Derived.Test.YtnmpoipakmjbpaaMgSq4
import Derived.Test.YtnmpoipakmjbpaaMgSq14
/- The reference's stack: Push, Pop, walked. -/
namespace Go.Proofs.Ytnmpoipakmjbpaa
open Go.RowKit

theorem rsPush_ris {s : Stk} {x : Ent} (h : Rises s) (h1 : s.top.lv < x.lv) (h2 : x.lv ≤ 125) : Rises { s with R := x :: s.R } := h.put h1 h2
theorem rd_grown {w w' : World} {size n : Nat} {A : Option Addr} {xs : List Value} (h : Rd w size A n xs) (hg : w.drew.grownBy w' none) : Rd w' size A n xs := h.below ((Below.refl _ _).drew.grown hg (Nat.le_refl _) (fun k hk => by cases hk))
theorem all_push (s : Stk) (x : Ent) : cellsE (s.bot :: (x :: s.R).reverse) = cellsE s.all ++ cE x := by
  rw [List.reverse_cons, ← List.cons_append, cellsE_app]
  unfold Stk.all cellsE
  simp
set_option maxRecDepth 100000 in
set_option maxHeartbeats 4000000 in
theorem rsPush_any (b : Nat) (s : Stk) (x : Ent) (w : World) (h : RsAt w b s) : Calls Try.prog 59 #[.pointer (some ⟨b, 0, none⟩), entV x] w fun e w' => e = .returned (.bool (pushS s x).1) ∧ RsAt w' b (pushS s x).2 ∧ Kept w w' [b] := by
  obtain ⟨lv, ov, is⟩ := x
  obtain ⟨W, hW⟩ : ∃ W, w.alloc (.cells #[.int .i64 lv, .int .i64 ov, .bool is] 60) = W := ⟨_, rfl⟩
  have hbn := below_new w (.cells #[.int .i64 lv, .int .i64 ov, .bool is] 60)
  have hs := h.low hbn
  have hsz : W.heap.size = w.heap.size + 1 := by rw [← hW]; simp
  have cx := cells_new w [.int .i64 lv, .int .i64 ov, .bool is] 60
  have cx0 := cx 0 _ rfl
  have cx1 := cx 1 _ rfl
  have cx2 := cx 2 _ rfl
  rw [addNew] at cx0 cx1 cx2
  rw [show (w.alloc (.cells [Value.int .i64 lv, .int .i64 ov, .bool is].toArray 60)) = W from hW] at cx0 cx1 cx2
  rw [hW] at hbn hs
  have hlt := h.lt
  have HK0 : Hid (Kept w W [b]) := Lib.hid (Kept.of_below hbn _)
  obtain ⟨g, hg⟩ : ∃ g, w.heap.size = g := ⟨_, rfl⟩
  rw [hg] at hsz hlt cx0 cx1 cx2
  have HS := Lib.hid hs
  have HT : Hid (∀ W', Below W.heap.size W W' → Calls Try.prog 35 #[.pointer (some ⟨b, 0, none⟩)] W' fun e w' => e = .returned (.agg #[.int .i64 s.top.lv, .int .i64 s.top.ov, .bool s.top.is]) ∧ Below W'.heap.size W' w') := Lib.hid fun W' hb => rsTop_any b s W' (hs.low hb)
  have fd := entR_lv s.top.lv s.top.ov s.top.is
  have hf := h.fits
  unfold entV
  have hne : b ≠ g := by omega
  by_cases h1 : lv ≤ s.top.lv ∨ 125 < lv
  · have HP : Hid (pushS s ⟨lv, ov, is⟩ = (false, s)) := Lib.hid (by unfold pushS; rw [if_pos h1])
    rw [HP.out]
    clear hs h hbn cx
    by_cases h2 : lv ≤ s.top.lv
    · have hd : decide (lv ≤ s.top.lv) = true := decide_eq_true h2
      go_enter Try.func59, Try.ntmps59
      go_wp2_with fail
      first | (go_region_law (first
        | (go_simp; go_at_call 35; refine (HT.out _ (by first | exact Below.refl _ _ | exact (Below.refl _ _).drew)).mono ?_; rintro e w3 ⟨rfl, h4⟩; have hb3 : Below W.heap.size W w3 := (by first | exact below_self (Below.refl _ _).drew h4 | exact h4); have y0 := cell_below hb3 cx0)
        | fail)) | fail
      all_goals go_wp2
      all_goals go_ret
      all_goals exact ⟨rfl, HS.out.low hb3, HK0.out.trans (Kept.of_below hb3 _)⟩
    · have hd : decide (lv ≤ s.top.lv) = false := decide_eq_false h2
      have hd2 : decide (125 < lv) = true := decide_eq_true (by omega)
      go_enter Try.func59, Try.ntmps59
      go_wp2_with fail
      first | (go_region_law (first
        | (go_simp; go_at_call 35; refine (HT.out _ (by first | exact Below.refl _ _ | exact (Below.refl _ _).drew)).mono ?_; rintro e w3 ⟨rfl, h4⟩; have hb3 : Below W.heap.size W w3 := (by first | exact below_self (Below.refl _ _).drew h4 | exact h4); have y0 := cell_below hb3 cx0)
        | fail)) | fail
      all_goals go_wp2
      all_goals go_ret
      all_goals exact ⟨rfl, HS.out.low hb3, HK0.out.trans (Kept.of_below hb3 _)⟩
  · have HP : Hid (pushS s ⟨lv, ov, is⟩ = (true, { s with R := ⟨lv, ov, is⟩ :: s.R })) := Lib.hid (by unfold pushS; rw [if_neg h1])
    rw [HP.out]
    have hd : decide (lv ≤ s.top.lv) = false := decide_eq_false (by omega)
    have hd2 : decide (125 < lv) = false := decide_eq_false (by omega)
    have HRI := Lib.hid (rsPush_ris (x := ⟨lv, ov, is⟩) h.ris (by show s.top.lv < lv; omega) (by show lv ≤ 125; omega))
    clear hs h hbn cx
    go_enter Try.func59, Try.ntmps59
    go_wp2_with fail
    go_cut [15] (fun v wx => v = .bool false ∧ Below W.heap.size W wx)
    case first =>
      first | (go_region_law (first
        | (go_simp; go_at_call 35; refine (HT.out _ (by first | exact Below.refl _ _ | exact (Below.refl _ _).drew)).mono ?_; rintro e w3 ⟨rfl, h4⟩; have hb3 : Below W.heap.size W w3 := (by first | exact below_self (Below.refl _ _).drew h4 | exact h4); have y0 := cell_below hb3 cx0)
        | fail)) | fail
      all_goals (
        have HB3 := Lib.hid hb3
        clear hb3 h4 y0
        go_wp2_with fail
        rename_i hJ
        refine Met.intro (hJ _ _ ?_)
        (repeat apply Exists.intro)
        refine ⟨?_, rfl⟩)
      all_goals exact ⟨rfl, HB3.out⟩
    case rest =>
      obtain ⟨rfl, hb3⟩ := hcut
      have HB3 := Lib.hid hb3
      have hs3 := HS.out.low hb3
      have HS3 := Lib.hid hs3
      have d0 := cell_below hb3 cx0
      have d1 := cell_below hb3 cx1
      have d2 := cell_below hb3 cx2
      have hgs : g < wc.heap.size := Nat.lt_of_lt_of_le (by omega) hb3.size
      have hbs : b < wc.heap.size := by omega
      obtain ⟨ad, c, c0, hc, hrd, hadb, _, _, _, _⟩ := hs3.sl
      have hfz := hs3.froz 0
      have HR := Lib.hid hrd
      obtain ⟨n, hn⟩ : ∃ n, s.R.length + 1 = n := ⟨_, rfl⟩
      rw [hn] at c0 hc HR
      have hn126 : n ≤ 126 := by omega
      have HNN := Lib.hid hn
      have HO1 := Lib.hid (cellsE_one s.all)
      have hone : ∀ u ∈ [Value.int .i64 lv, .int .i64 ov, .bool is], u.oneCell' = true := by
        intro u hu
        simp at hu
        rcases hu with rfl | rfl | rfl <;> rfl
      have HO2 := Lib.hid hone
      clear hb3 hs3 hrd hadb cx0 cx1 cx2 hone
      go_wp2_with fail
      first | (go_region_law (first
        | (refine step_appR (by rfl) _ _ _ (by rfl) entSliceR (by decide) (.slice A5 n k5) n (cellsE s.all) (by rfl) (by first | exact HO5.out.alloc _ | exact HO5.out) _ 1 _ [.int .i64 lv, .int .i64 ov, .bool is] (by rfl) (by first | exact rdNew3 w5 _ _ _ _ | exact rd_grown (rdNew3 wc _ _ _ _) hg5) HO2.out (by omega) (by unfold maxLen; omega) (by first | exact hb5.size | (have := hb5.size; simp; omega)) _ rfl ?_; intro v7 w7 hown7 hg7 hat7; have hb7 : Below wc.heap.size wc w7 := (by first | exact below_app hb5 hg7 HO5.out hb5.size | exact below_app (below_self hb5 (below_new w5 _)) hg7 (HO5.out.alloc _) (by have := hb5.size; simp; omega)); obtain ⟨A7, k7, rfl, hk7⟩ := own_form hown7; have z0 := cell_below hb7 c0; have zf := (HS3.out.low hb7).froz 0)
        | (refine step_appR (by rfl) _ _ _ (by rfl) entSliceR (by decide) (.slice none 0 0) 0 [] (by rfl) (World.ownsRow_nil _ wc.heap.size _ _) (some ad) n c (cellsE s.all) (by rfl) (by first | exact HR.out.below (Below.refl _ _).drew | exact HR.out.below (below_drew (below_new wc _) 1)) HO1.out (by omega) (by unfold maxLen; omega) (by first | exact Nat.le_refl _ | simp) _ rfl ?_; intro v5 w5 hown5 hg5 hat5; simp only [Nat.zero_add, List.nil_append] at hown5; have hb5 : Below wc.heap.size wc w5 := (by first | exact (Below.refl _ _).drew.grown hg5 (Nat.le_refl _) (fun k hk => by cases hk) | exact (below_drew (below_new wc _) 1).grown hg5 (by simp) (fun k hk => by cases hk)); obtain ⟨A5, k5, rfl, hk5⟩ := own_form hown5; have HO5 := Lib.hid hown5; have y0 := cell_below hb5 d0; have y1 := cell_below hb5 d1; have y2 := cell_below hb5 d2; have hgs5 : g < w5.heap.size := Nat.lt_of_lt_of_le hgs hb5.size)
        | fail)) | fail
      all_goals (
        obtain ⟨g7, cap7, hv7, hbg7, hlt7⟩ := hown7.form (by omega)
        have hA7 : A7 = some ⟨g7, 0, none⟩ := by injection hv7
        subst hA7
        have hrd7 : Rd w7 3 (some ⟨g7, 0, none⟩) ((⟨lv, ov, is⟩ :: s.R : List Ent).length + 1) (cellsE (s.bot :: (⟨lv, ov, is⟩ :: s.R : List Ent).reverse)) := by
          rw [all_push, List.length_cons, HNN.out]
          exact Rd.of_own hown7
        have hfin := (HS3.out.low hb7).setL (c := k7) hrd7 (by rw [List.length_cons, HNN.out]; exact hk7) (by omega) (by omega) (own_typ hown7) HRI.out
        rw [List.length_cons, HNN.out] at hfin
        have HF := Lib.hid hfin
        have HK := Lib.hid ((HK0.out.trans ((Kept.of_below HB3.out [b]).trans (Kept.of_below hb7 [b]))).set (.inl (List.mem_singleton.2 rfl)) 0 (.slice (some ⟨g7, 0, none⟩) (n + 1) k7))
        clear hfin hrd7 hown7 hv7 hg7 hat7 hat5 hg5 hown5
        go_wp2
        go_ret
        exact ⟨rfl, HF.out, HK.out⟩)
set_option maxRecDepth 100000 in
set_option maxHeartbeats 4000000 in
theorem rsPop_any (b : Nat) (s : Stk) (w : World) (h : RsAt w b s) : Calls Try.prog 57 #[.pointer (some ⟨b, 0, none⟩)] w fun e w' => e = .returned (.bool (popS s).1) ∧ RsAt w' b (popS s).2 ∧ Kept w w' [b] := by
  have HS := Lib.hid h
  obtain ⟨ad, c, c0, hc, hrd, hadb, _, _, _, _⟩ := h.sl
  have hfz := h.froz 0
  have hf := h.fits
  have hbs := h.lt
  have hris := (near_pop h.ris).2.1
  unfold popS at hris ⊢
  clear h
  cases hR : s.R with
  | nil =>
    rw [hR] at c0
    rw [if_pos rfl]
    have HR := Lib.hid hR
    clear hR hris
    go_enter Try.func57, Try.ntmps57
    go_wp2
    go_ret
    exact ⟨rfl, HS.out, Kept.refl _ _⟩
  | cons x R =>
    rw [if_neg (by rw [hR]; simp)] at hris
    rw [if_neg (by simp)]
    rw [hR] at c0 hc hris hf
    simp only [List.length_cons, List.tail_cons] at c0 hc hris hf ⊢
    have hall : (cellsE s.all).take ((R.length + 1) * 3) = cellsE (s.bot :: R.reverse) := by
      rw [cellsE_take]
      congr 1
      unfold Stk.all
      rw [hR, List.reverse_cons, ← List.cons_append, List.take_append_of_le_length (by simp), List.take_of_length_le (by simp)]
    have hrd2 : Rd w 3 (some ad) (R.length + 1) (cellsE (s.bot :: R.reverse)) := by
      rw [← hall]
      refine ⟨by rw [List.length_take, hrd.1, hR, List.length_cons]; omega, fun _ => ?_⟩
      obtain ⟨ad', e, hlt, hcell⟩ := hrd.2 (by omega)
      refine ⟨ad', e, hlt, fun j u hu => hcell j u ?_⟩
      rw [List.getElem?_take] at hu
      split at hu
      · exact hu
      · cases hu
    have HR := Lib.hid hrd2
    have HO1 := Lib.hid (cellsE_one (s.bot :: R.reverse))
    have HRI := Lib.hid hris
    obtain ⟨n, hn⟩ : ∃ n, R.length + 1 = n := ⟨_, rfl⟩
    rw [hn] at c0 hc HR
    have HNN := Lib.hid hn
    have hn126 : n ≤ 126 := by omega
    have hn1 : 1 ≤ n := by omega
    have hd : decide ((n : Int) + 1 < 2) = false := decide_eq_false (by omega)
    have hn0 : (0 : Int) ≤ (n : Int) := by omega
    have hnc : (n : Int) ≤ (c : Int) := by omega
    have hsub : (n : Int) + 1 - 1 = (n : Int) := by omega
    have hwn : IntKind.i64.wrap (n : Int) = (n : Int) := by rw [IntKind.wrap_i64]; omega
    clear hR hris hall hrd hrd2 hn
    go_enter Try.func57, Try.ntmps57
    go_wp2_with fail
    go_region_law (first
      | (refine step_appR (by rfl) _ _ _ (by rfl) entSliceR (by decide) (.slice none 0 0) 0 [] (by rfl) (World.ownsRow_nil _ w.heap.size _ _) (some ad) n _ (cellsE (s.bot :: R.reverse)) (by rfl) (HR.out.below (Below.refl _ _).drew) HO1.out (by omega) (by unfold maxLen; omega) (by first | exact Nat.le_refl _ | simp) _ rfl ?_; intro v5 w5 hown5 hg5 hat5; simp only [Nat.zero_add, List.nil_append] at hown5; have hb5 : Below w.heap.size w w5 := (by first | exact (Below.refl _ _).drew.grown hg5 (Nat.le_refl _) (fun k hk => by cases hk)); obtain ⟨A5, k5, rfl, hk5⟩ := own_form hown5; have HO5 := Lib.hid hown5; have z0 := cell_below hb5 c0; have zf := (HS.out.low hb5).froz 0)
      | fail)
    all_goals (
      obtain ⟨g5, cap5, hv5, hbg5, hlt5⟩ := HO5.out.form (by omega)
      have hA5 : A5 = some ⟨g5, 0, none⟩ := by injection hv5
      subst hA5
      have hrd5 : Rd w5 3 (some ⟨g5, 0, none⟩) (R.length + 1) (cellsE (s.bot :: R.reverse)) := by
        rw [HNN.out]
        exact Rd.of_own HO5.out
      have hfin := (HS.out.low hb5).setL (c := k5) hrd5 (by rw [HNN.out]; exact hk5) (by omega) (by omega) (own_typ HO5.out) HRI.out
      rw [HNN.out] at hfin
      have HF := Lib.hid hfin
      have HK := Lib.hid ((Kept.of_below hb5 [b]).set (.inl (List.mem_singleton.2 rfl)) 0 (.slice (some ⟨g5, 0, none⟩) n k5))
      clear hfin hrd5 hown5 hv5 hg5 hat5
      go_wp2
      go_ret
      exact ⟨rfl, HF.out, HK.out⟩)
end Go.Proofs.Ytnmpoipakmjbpaa
/- The reference's stack: Embed, Isolate, EndEmbed, EndIsolate, walked. -/
namespace Go.Proofs.Ytnmpoipakmjbpaa
open Go.RowKit

set_option maxRecDepth 100000 in
set_option maxHeartbeats 4000000 in
theorem rsEmbed_any (b : Nat) (s : Stk) (r : Bool) (o : Int) (w : World) (h : RsAt w b s) (hb : s.b ≤ 100000000) : Calls Try.prog 37 #[.pointer (some ⟨b, 0, none⟩), .bool r, .int .i64 o] w fun e w' => e = .returned (.bool (embS s r o).1) ∧ RsAt w' b (embS s r o).2 ∧ Kept w w' [b] := by
  have HM := Lib.hid (rsRoom_any b s r w h)
  have HS := Lib.hid h
  have hn := nextN_gt s.top.lv r
  cases hr : roomS s r with
  | true =>
    have hp : pushS s ⟨nextS s r, o, false⟩ = (true, { s with R := ⟨nextS s r, o, false⟩ :: s.R }) := push_ok (by show s.top.lv < nextS s r; unfold nextS; omega) (room_iff.1 hr).1
    have HP := Lib.hid hp
    rw [hr] at HM
    rw [emb_room hr]
    clear h hr hn hp
    go_enter Try.func37, Try.ntmps37
    go_wp2_with fail
    refine HM.out.mono ?_
    rintro e w1 ⟨rfl, hb1⟩
    have HS1 := Lib.hid (HS.out.low hb1)
    have HK1 := Lib.hid (Kept.of_below hb1 [b])
    clear hb1
    go_wp2_with fail
    refine (rsNext_any b s r w1 HS1.out).mono ?_
    rintro e w2 ⟨rfl, hb2⟩
    have HS2 := Lib.hid (HS1.out.low hb2)
    have HK2 := Lib.hid (HK1.out.trans (Kept.of_below hb2 [b]))
    have HG := Lib.hid (rsPush_any b s ⟨nextS s r, o, false⟩ w2 HS2.out)
    rw [HP.out] at HG
    unfold entV at HG
    clear hb2
    go_wp2_with fail
    refine HG.out.mono ?_
    rintro e w3 ⟨rfl, hA, hK⟩
    have HA := Lib.hid hA
    have HK := Lib.hid (HK2.out.trans hK)
    clear hA hK
    go_wp2
    go_ret
    exact ⟨rfl, HA.out, HK.out⟩
  | false =>
    rw [hr] at HM
    rw [emb_no hr]
    obtain ⟨T, hT⟩ : ∃ T, (if s.a = 0 then { s with b := s.b + 1 } else s) = T := ⟨_, rfl⟩
    rw [hT]
    have HTT := Lib.hid hT
    clear h hr hn hT
    go_enter Try.func37, Try.ntmps37
    go_wp2_with fail
    refine HM.out.mono ?_
    rintro e w1 ⟨rfl, hb1⟩
    have hA := HS.out.low hb1
    have ca := hA.ca
    have cb := hA.cb
    have fb := hA.froz 2
    have HA := Lib.hid hA
    have HK := Lib.hid (Kept.of_below hb1 [b])
    have HB := hA.setB (s.b + 1)
    rw [show ((s.b + 1 : Nat) : Int) = (s.b : Int) + 1 by omega] at HB
    have HB := Lib.hid HB
    have HKB := Lib.hid (HK.out.set (.inl (List.mem_singleton.2 rfl)) 2 (.int .i64 ((s.b : Int) + 1)))
    clear hA hb1
    have hb' : (s.b : Int) ≤ 100000000 := by omega
    have hb0 : (0 : Int) ≤ (s.b : Int) := by omega
    by_cases ha : s.a = 0
    · have ha' : (s.a : Int) = 0 := by omega
      rw [ha'] at ca
      go_wp2
      go_ret
      rw [← HTT.out, if_pos ha]
      exact ⟨rfl, HB.out, HKB.out⟩
    · have ha' : ((s.a : Int) == 0) = false := by simp; omega
      go_wp2
      go_ret
      rw [← HTT.out, if_neg ha]
      exact ⟨rfl, HA.out, HK.out⟩
set_option maxRecDepth 100000 in
set_option maxHeartbeats 4000000 in
theorem rsIsolate_any (b : Nat) (s : Stk) (r : Bool) (w : World) (h : RsAt w b s) (hb : s.a ≤ 100000000) (hc : s.c ≤ 100000000) : Calls Try.prog 39 #[.pointer (some ⟨b, 0, none⟩), .bool r] w fun e w' => e = .returned (.bool (isoS s r).1) ∧ RsAt w' b (isoS s r).2 ∧ Kept w w' [b] := by
  have HM := Lib.hid (rsRoom_any b s r w h)
  have HS := Lib.hid h
  have hn := nextN_gt s.top.lv r
  cases hr : roomS s r with
  | true =>
    have hp : pushS { s with c := s.c + 1 } ⟨nextS s r, 13, true⟩ = (true, { s with R := ⟨nextS s r, 13, true⟩ :: s.R, c := s.c + 1 }) := push_ok (by show s.top.lv < nextS s r; unfold nextS; omega) (room_iff.1 hr).1
    have HP := Lib.hid hp
    have HNX : Hid (nextS { s with c := s.c + 1 } r = nextS s r) := Lib.hid rfl
    rw [hr] at HM
    rw [iso_room hr]
    clear h hr hn hp
    go_enter Try.func39, Try.ntmps39
    go_wp2_with fail
    refine HM.out.mono ?_
    rintro e w1 ⟨rfl, hb1⟩
    have hA := HS.out.low hb1
    have cc := hA.cc
    have fc := hA.froz 3
    have hC := hA.setC (s.c + 1)
    rw [show ((s.c + 1 : Nat) : Int) = (s.c : Int) + 1 by omega] at hC
    have HC := Lib.hid hC
    have HKC := Lib.hid ((Kept.of_below hb1 [b]).set (.inl (List.mem_singleton.2 rfl)) 3 (.int .i64 ((s.c : Int) + 1)))
    have hb' : (s.c : Int) ≤ 100000000 := by omega
    have hb0 : (0 : Int) ≤ (s.c : Int) := by omega
    have HN1 := Lib.hid (rsNext_any b _ r _ HC.out)
    rw [HNX.out] at HN1
    clear hA hC hb1
    go_wp2_with fail
    refine HN1.out.mono ?_
    rintro e w2 ⟨rfl, hb2⟩
    have HS2 := Lib.hid (HC.out.low hb2)
    have HK2 := Lib.hid (HKC.out.trans (Kept.of_below hb2 [b]))
    have HG := Lib.hid (rsPush_any b _ ⟨nextS s r, 13, true⟩ w2 HS2.out)
    rw [HP.out] at HG
    unfold entV at HG
    clear hb2
    go_wp2_with fail
    refine HG.out.mono ?_
    rintro e w3 ⟨rfl, hA, hK⟩
    have HA := Lib.hid hA
    have HK := Lib.hid (HK2.out.trans hK)
    clear hA hK
    go_wp2
    go_ret
    exact ⟨rfl, HA.out, HK.out⟩
  | false =>
    rw [hr] at HM
    rw [iso_no hr]
    clear h hr hn
    go_enter Try.func39, Try.ntmps39
    go_wp2_with fail
    refine HM.out.mono ?_
    rintro e w1 ⟨rfl, hb1⟩
    have hA := HS.out.low hb1
    have ca := hA.ca
    have fa := hA.froz 1
    have HB := hA.setA (s.a + 1)
    rw [show ((s.a + 1 : Nat) : Int) = (s.a : Int) + 1 by omega] at HB
    have HB := Lib.hid HB
    have HKB := Lib.hid ((Kept.of_below hb1 [b]).set (.inl (List.mem_singleton.2 rfl)) 1 (.int .i64 ((s.a : Int) + 1)))
    clear hA hb1
    have hb' : (s.a : Int) ≤ 100000000 := by omega
    have hb0 : (0 : Int) ≤ (s.a : Int) := by omega
    go_wp2
    go_ret
    exact ⟨rfl, HB.out, HKB.out⟩
end Go.Proofs.Ytnmpoipakmjbpaa
/- The reference's stack: EndEmbed, EndIsolate, walked. -/
namespace Go.Proofs.Ytnmpoipakmjbpaa
open Go.RowKit

set_option maxRecDepth 100000 in
set_option maxHeartbeats 2000000 in
theorem rsEndE_any (b : Nat) (s : Stk) (w : World) (h : RsAt w b s) (hb : s.b ≤ 100000000) : Calls Try.prog 38 #[.pointer (some ⟨b, 0, none⟩)] w fun e w' => e = .returned (.tuple #[]) ∧ RsAt w' b (endES s) ∧ Kept w w' [b] := by
  have HT := Lib.hid (rsTop_any b s w h)
  have HP := Lib.hid (fun W (k : Below w.heap.size w W) => rsPop_any b s W (h.low k))
  have ca := h.ca
  have cb := h.cb
  have fb := h.froz 2
  have HS := Lib.hid h
  have hsb : (s.b : Int) ≤ 100000000 := by omega
  have hsa0 : (0 : Int) ≤ (s.a : Int) := by omega
  have hsb0 : (0 : Int) ≤ (s.b : Int) := by omega
  unfold entV at HT
  obtain ⟨T, hT⟩ : ∃ T, endES s = T := ⟨_, rfl⟩
  rw [hT]
  by_cases ha : 0 < s.a
  · have hd : decide ((0 : Int) < (s.a : Int)) = true := by simp; omega
    have hE : endES s = s := by unfold endES; rw [if_pos ha]
    have HE := Lib.hid (hT.symm.trans hE)
    clear hT hE h
    go_enter Try.func38, Try.ntmps38
    go_wp2
    refine bodyPost_end (v := .tuple #[]) (by simp [results, go_sem]) rfl ⟨rfl, ?_⟩
    rw [HE.out]
    exact ⟨HS.out, Kept.refl _ _⟩
  · have hd : decide ((0 : Int) < (s.a : Int)) = false := by simp; omega
    by_cases hb2 : 0 < s.b
    · have hd2 : decide ((0 : Int) < (s.b : Int)) = true := by simp; omega
      have hE : endES s = { s with b := s.b - 1 } := by unfold endES; rw [if_neg ha, if_pos hb2]
      have HE := Lib.hid (hT.symm.trans hE)
      have HB := h.setB (s.b - 1)
      rw [show ((s.b - 1 : Nat) : Int) = (s.b : Int) - 1 by omega] at HB
      have HB := Lib.hid HB
      have HKB := Lib.hid ((Kept.refl w [b]).set (.inl (List.mem_singleton.2 rfl)) 2 (.int .i64 ((s.b : Int) - 1)))
      clear hT hE h
      go_enter Try.func38, Try.ntmps38
      go_wp2
      refine bodyPost_end (v := .tuple #[]) (by simp [results, go_sem]) rfl ⟨rfl, ?_⟩
      rw [HE.out]
      exact ⟨HB.out, HKB.out⟩
    · have hd2 : decide ((0 : Int) < (s.b : Int)) = false := by simp; omega
      have fd := entR_is s.top.lv s.top.ov s.top.is
      have hE : endES s = if s.top.is = true then s else (popS s).2 := by unfold endES; rw [if_neg ha, if_neg hb2]
      cases hi : s.top.is with
      | true =>
        rw [hi] at HT fd
        rw [hi, if_pos rfl] at hE
        have HE := Lib.hid (hT.symm.trans hE)
        clear hT hE h
        go_enter Try.func38, Try.ntmps38
        go_wp2_with fail
        refine HT.out.mono ?_
        rintro e w2 ⟨rfl, hb3⟩
        have HS2 := Lib.hid (HS.out.low hb3)
        have HK2 := Lib.hid (Kept.of_below hb3 [b])
        clear hb3
        go_wp2
        refine bodyPost_end (v := .tuple #[]) (by simp [results, go_sem]) rfl ⟨rfl, ?_⟩
        rw [HE.out]
        exact ⟨HS2.out, HK2.out⟩
      | false =>
        rw [hi] at HT fd
        rw [hi, if_neg (by decide)] at hE
        have HE := Lib.hid (hT.symm.trans hE)
        clear hT hE h
        go_enter Try.func38, Try.ntmps38
        go_wp2_with fail
        refine HT.out.mono ?_
        rintro e w2 ⟨rfl, hb3⟩
        have HP2 := Lib.hid (HP.out _ hb3)
        have HK2 := Lib.hid (Kept.of_below hb3 [b])
        clear hb3
        go_wp2_with fail
        refine HP2.out.mono ?_
        rintro e w3 ⟨rfl, hA, hK⟩
        have HA := Lib.hid hA
        have HK := Lib.hid (HK2.out.trans hK)
        clear hA hK
        go_wp2
        refine bodyPost_end (v := .tuple #[]) (by simp [results, go_sem]) rfl ⟨rfl, ?_⟩
        rw [HE.out]
        exact ⟨HA.out, HK.out⟩
theorem popR_tail (s : Stk) : (popS s).2 = { s with R := s.R.tail } := by
  unfold popS
  cases h : s.R with
  | nil => cases s; simp_all
  | cons x R => simp
/-- The number of entries, as memory has it. -/
def szRAt (w : World) (b : Nat) : Nat := match w.cell? ⟨b, 0, none⟩ with
  | some (.slice _ n _) => n
  | _ => 0
theorem RsAt.szR {w : World} {b : Nat} {s : Stk} (h : RsAt w b s) : szRAt w b = s.R.length + 1 := by
  obtain ⟨ad, c, c0, _⟩ := h.sl
  unfold szRAt
  rw [c0]
set_option maxRecDepth 100000 in
set_option maxHeartbeats 4000000 in
theorem rsEndI_any (b : Nat) (s : Stk) (w : World) (h : RsAt w b s) (ha8 : s.a ≤ 100000000) (hc8 : s.c ≤ 100000000) : Calls Try.prog 34 #[.pointer (some ⟨b, 0, none⟩)] w fun e w' => e = .returned (.tuple #[]) ∧ RsAt w' b (endIS s) ∧ Kept w w' [b] := by
  have ca := h.ca
  have cc := h.cc
  have fa := h.froz 1
  have HS := Lib.hid h
  have hsa : (s.a : Int) ≤ 100000000 := by omega
  have hsc : (s.c : Int) ≤ 100000000 := by omega
  have hsa0 : (0 : Int) ≤ (s.a : Int) := by omega
  have hsc0 : (0 : Int) ≤ (s.c : Int) := by omega
  obtain ⟨T, hT⟩ : ∃ T, endIS s = T := ⟨_, rfl⟩
  rw [hT]
  by_cases ha : 0 < s.a
  · have hd : decide ((0 : Int) < (s.a : Int)) = true := by simp; omega
    have hE : endIS s = { s with a := s.a - 1 } := by unfold endIS; rw [if_pos ha]
    have HE := Lib.hid (hT.symm.trans hE)
    have HB := h.setA (s.a - 1)
    rw [show ((s.a - 1 : Nat) : Int) = (s.a : Int) - 1 by omega] at HB
    have HB := Lib.hid HB
    have HKB := Lib.hid ((Kept.refl w [b]).set (.inl (List.mem_singleton.2 rfl)) 1 (.int .i64 ((s.a : Int) - 1)))
    clear hT hE h
    go_enter Try.func34, Try.ntmps34
    go_wp2
    refine bodyPost_end (v := .tuple #[]) (by simp [results, go_sem]) rfl ⟨rfl, ?_⟩
    rw [HE.out]
    exact ⟨HB.out, HKB.out⟩
  · have hd : decide ((0 : Int) < (s.a : Int)) = false := by simp; omega
    by_cases hc : 0 < s.c
    · have hd2 : decide ((0 : Int) < (s.c : Int)) = true := by simp; omega
      have hE : endIS s = { s with b := 0, R := (s.R.dropWhile fun e => !e.is).tail, c := s.c - 1 } := by unfold endIS; rw [if_neg ha, if_pos hc]
      have HE := Lib.hid (hT.symm.trans hE)
      have cb := h.cb
      have fb := h.froz 2
      have HB := Lib.hid (h.setB 0)
      have HKB := Lib.hid ((Kept.refl w [b]).set (.inl (List.mem_singleton.2 rfl)) 2 (.int .i64 0))
      clear hT hE h
      go_enter Try.func34, Try.ntmps34
      go_wp2_with fail
      go_loopw [] (fun wr => ∃ R', RsAt wr b { s with b := 0, R := R' } ∧ R'.dropWhile (fun e => !e.is) = s.R.dropWhile (fun e => !e.is) ∧ Kept w wr [b]) (fun wr => szRAt wr b)
      case atStart => exact ⟨s.R, HB.out, rfl, HKB.out⟩
      case round =>
        obtain ⟨R', hA, hD, hK⟩ := hrel
        have hsz := hA.szR
        simp only at hsz
        have hlen := hA.ris.len
        simp only [Stk.len] at hlen
        obtain ⟨ad, cd, c0, _, _, _, _, _, _, _⟩ := hA.sl
        simp only at c0
        have HA := Lib.hid hA
        have HDR := Lib.hid hD
        have HK := Lib.hid hK
        have HSZ := Lib.hid hsz
        cases R' with
        | nil =>
          have HTL : Hid ((([] : List Ent).dropWhile (fun e => !e.is)).tail = ([] : List Ent).tail) := Lib.hid rfl
          have HPQ := Lib.hid (rsPop_any b _ wr hA)
          have HKQ := HK
          clear hA hD hK hsz cb fb ca cc fa
          simp only [List.length_nil] at c0
          go_wp2_with fail
          refine HPQ.out.mono ?_
          rintro e w4 ⟨rfl, hA4, hK4⟩
          rw [popR_tail] at hA4
          have cc4 := hA4.cc
          have fc4 := hA4.froz 3
          simp only at cc4
          have HB4 := hA4.setC (s.c - 1)
          rw [show ((s.c - 1 : Nat) : Int) = (s.c : Int) - 1 by omega] at HB4
          have HB4 := Lib.hid HB4
          have HK4 := Lib.hid ((HKQ.out.trans hK4).set (.inl (List.mem_singleton.2 rfl)) 3 (.int .i64 ((s.c : Int) - 1)))
          clear hA4 hK4
          go_wp2
          refine bodyPost_end (v := .tuple #[]) (by simp [results, go_sem]) rfl ⟨rfl, ?_⟩
          rw [HE.out, ← HDR.out, HTL.out]
          exact ⟨HB4.out, HK4.out⟩
        | cons x R' =>
          have HT := Lib.hid (rsTop_any b _ wr hA)
          have htp : (Stk.top { s with b := 0, R := x :: R' }) = x := rfl
          rw [htp] at HT
          obtain ⟨lv, ov, is⟩ := x
          unfold entV at HT
          simp only at HT
          have fd := entR_is lv ov is
          obtain ⟨n, hn⟩ : ∃ n, (⟨lv, ov, is⟩ :: R' : List Ent).length + 1 = n := ⟨_, rfl⟩
          rw [hn] at c0 hlen
          have hn2 : 2 ≤ n := by rw [← hn, List.length_cons]; omega
          have hn2' : (2 : Int) ≤ (n : Int) := by omega
          have hd1 : decide ((1 : Int) < (n : Int)) = true := by simp; omega
          clear hA hD hK hsz htp cb fb ca cc fa hn
          cases is with
          | true =>
            go_wp2_with fail
            refine HT.out.mono ?_
            rintro e w2 ⟨rfl, hb2⟩
            have HPQ := Lib.hid (rsPop_any b _ w2 (HA.out.low hb2))
            have HKQ := Lib.hid (HK.out.trans (Kept.of_below hb2 [b]))
            have HTL : Hid (((⟨lv, ov, true⟩ :: R' : List Ent).dropWhile (fun e => !e.is)).tail = (⟨lv, ov, true⟩ :: R' : List Ent).tail) := Lib.hid (by
              rw [List.dropWhile_cons, if_neg (by simp)])
            clear hb2
            go_wp2_with fail
            refine HPQ.out.mono ?_
            rintro e w4 ⟨rfl, hA4, hK4⟩
            rw [popR_tail] at hA4
            have cc4 := hA4.cc
            have fc4 := hA4.froz 3
            simp only at cc4
            have HB4 := hA4.setC (s.c - 1)
            rw [show ((s.c - 1 : Nat) : Int) = (s.c : Int) - 1 by omega] at HB4
            have HB4 := Lib.hid HB4
            have HK4 := Lib.hid ((HKQ.out.trans hK4).set (.inl (List.mem_singleton.2 rfl)) 3 (.int .i64 ((s.c : Int) - 1)))
            clear hA4 hK4
            go_wp2
            refine bodyPost_end (v := .tuple #[]) (by simp [results, go_sem]) rfl ⟨rfl, ?_⟩
            rw [HE.out, ← HDR.out, HTL.out]
            exact ⟨HB4.out, HK4.out⟩
          | false =>
            go_wp2_with fail
            refine HT.out.mono ?_
            rintro e w2 ⟨rfl, hb2⟩
            have HP := Lib.hid (rsPop_any b _ w2 (HA.out.low hb2))
            have HK2 := Lib.hid (HK.out.trans (Kept.of_below hb2 [b]))
            have hp0 : (popS { s with b := 0, R := ⟨lv, ov, false⟩ :: R' }) = (true, { s with b := 0, R := R' }) := rfl
            rw [hp0] at HP
            have HD2 : Hid (R'.dropWhile (fun e => !e.is) = s.R.dropWhile (fun e => !e.is)) := Lib.hid (by
              rw [← HDR.out, List.dropWhile_cons, if_pos (by rfl)])
            clear hb2 hp0
            go_wp2_with fail
            refine HP.out.mono ?_
            rintro e w3 ⟨rfl, hA3, hK3⟩
            have HS3 := Lib.hid hA3.szR
            have HA3 := Lib.hid hA3
            have HK3 := Lib.hid (HK2.out.trans hK3)
            clear hA3 hK3
            go_wp2_with fail
            go_roundw
            case rel => exact ⟨R', HA3.out, HD2.out, HK3.out⟩
            case measure => rw [HS3.out, HSZ.out]; simp
    · have hd2 : decide ((0 : Int) < (s.c : Int)) = false := by simp; omega
      have hE : endIS s = s := by unfold endIS; rw [if_neg ha, if_neg hc]
      have HE := Lib.hid (hT.symm.trans hE)
      clear hT hE h
      go_enter Try.func34, Try.ntmps34
      go_wp2
      refine bodyPost_end (v := .tuple #[]) (by simp [results, go_sem]) rfl ⟨rfl, ?_⟩
      rw [HE.out]
      exact ⟨HS.out, Kept.refl _ _⟩
end Go.Proofs.Ytnmpoipakmjbpaa
/- The reference's Levels, walked. -/
namespace Go.Proofs.Ytnmpoipakmjbpaa
open Go.RowKit

/-- What lies in memory between two rounds. -/
structure RxAt (w0 w : World) (B b : Nat) (s : Stk) (u7 u8 : Value) (k7 k8 : Nat) (l7 l8 : List Int) : Prop where
  rs : RsAt w b s
  r7 : w.ownsRow B 3 1 u7 k7 (l7.map (Value.int .i64))
  r8 : w.ownsRow B 3 1 u8 k8 (l8.map (Value.int .i64))
  ne : u7.ownBlock = none ∨ u7.ownBlock ≠ u8.ownBlock
  low_ : Below w0.heap.size w0 w
  hb : b < B
  hB : B ≤ w.heap.size
  h0 : w0.heap.size < b
section
variable {w0 w w' : World} {B b k7 k8 : Nat} {s t : Stk} {u7 u8 v : Value} {l7 l8 : List Int}
theorem RxAt.low (h : RxAt w0 w B b s u7 u8 k7 k8 l7 l8) (hb : Below w.heap.size w w') : RxAt w0 w' B b s u7 u8 k7 k8 l7 l8 :=
  ⟨h.rs.low hb, own_below h.r7 hb, own_below h.r8 hb, h.ne, below_self h.low_ hb, h.hb, Nat.le_trans h.hB hb.size, h.h0⟩
theorem RxAt.call (h : RxAt w0 w B b s u7 u8 k7 k8 l7 l8) (hs : RsAt w' b t) (hk : Kept w w' [b]) : RxAt w0 w' B b t u7 u8 k7 k8 l7 l8 :=
  ⟨hs, own_kept h.r7 hk (by simpa using h.hb), own_kept h.r8 hk (by simpa using h.hb), h.ne, hk.lower h.low_ h.low_.size (by have := h.h0; simp; omega), h.hb, Nat.le_trans h.hB hk.size, h.h0⟩
theorem RxAt.app7 (h : RxAt w0 w B b s u7 u8 k7 k8 l7 l8) {x : Int} (ho : w'.ownsRow B 3 1 v (k7 + 1) (l7.map (Value.int .i64) ++ [.int .i64 x])) (hg : w.grownBy w' u7.ownBlock) (hat : v.ownBlock = u7.ownBlock ∨ v.ownBlock = some w.heap.size) : RxAt w0 w' B b s v u8 (k7 + 1) k8 (l7 ++ [x]) l8 := by
  refine ⟨h.rs.grown hg (own_row h.r7), by rw [List.map_append]; exact ho, ?_, ?_, below_app h.low_ hg (own_base h.r7 (by have := h.hb; have := h.h0; omega)) h.low_.size, h.hb, Nat.le_trans h.hB hg.size, h.h0⟩
  · rcases h.ne with e | e
    · rcases e8 : u8.ownBlock with _ | g8
      · exact h.r8.kept hg (.inl e8)
      · exact h.r8.kept hg (.inr (by rw [e, e8]; simp))
    · exact h.r8.kept hg (.inr (fun e' => e e'.symm))
  · rcases hat with e | e
    · rw [e]; exact h.ne
    · right
      rw [e]
      intro e'
      have := (h.r8.lt _ e'.symm).2
      omega
theorem RxAt.app8 (h : RxAt w0 w B b s u7 u8 k7 k8 l7 l8) {x : Int} (ho : w'.ownsRow B 3 1 v (k8 + 1) (l8.map (Value.int .i64) ++ [.int .i64 x])) (hg : w.grownBy w' u8.ownBlock) (hat : v.ownBlock = u8.ownBlock ∨ v.ownBlock = some w.heap.size) : RxAt w0 w' B b s u7 v k7 (k8 + 1) l7 (l8 ++ [x]) := by
  refine ⟨h.rs.grown hg (own_row h.r8), ?_, by rw [List.map_append]; exact ho, ?_, below_app h.low_ hg (own_base h.r8 (by have := h.hb; have := h.h0; omega)) h.low_.size, h.hb, Nat.le_trans h.hB hg.size, h.h0⟩
  · rcases h.ne with e | e
    · exact h.r7.kept hg (.inl e)
    · exact h.r7.kept hg (.inr e)
  · rcases h.ne with e | e
    · exact .inl e
    · rcases hat with e2 | e2
      · right; rw [e2]; exact e
      · right
        rw [e2]
        intro e'
        have := (h.r7.lt _ e').2
        omega
end
set_option maxRecDepth 100000 in
set_option maxHeartbeats 16000000 in
theorem rxLevels_any (A : Option Addr) (n c : Nat) (xs : List Int) (level : Int) (w : World) (hr : Rd w 1 A n (xs.map (Value.int .i64))) (hn : n ≤ 100000) (hnc : n ≤ c) : Calls Try.prog 17 #[.slice A n c, .int .i64 level] w fun e w' => (∃ V cv V' cv', e = .returned (.tuple #[.slice V n cv, .slice V' n cv']) ∧ Rd w' 1 V n ((lvL xs (baseL level) n).map (Value.int .i64)) ∧ Rd w' 1 V' n ((clL xs (baseL level) n).map (Value.int .i64))) ∧ Below w.heap.size w w' := by
  have hlen : xs.length = n := by simpa using hr.len1
  have HL := Lib.hid hlen
  have HR := Lib.hid hr
  obtain ⟨base, hbase⟩ : ∃ base, baseL level = base := ⟨_, rfl⟩
  rw [hbase]
  have hmm : min (max level 0) 1 = base := hbase
  obtain ⟨l0, hl0⟩ : ∃ l0, (if level < 0 then 0 else level) = l0 := ⟨_, rfl⟩
  have hmi : (if 1 < l0 then 1 else l0) = base := by
    rw [← hmm, ← hl0]
    repeat' split
    all_goals omega
  have hns : newS base = stE xs base 0 := rfl
  have HN := Lib.hid (rsNew_any base w)
  rw [hns] at HN
  clear hr hlen hbase hmm hns
  go_enter Try.func17, Try.ntmps17
  go_wp2_with fail
  refine HN.out.mono ?_
  rintro e w1 ⟨⟨b, rfl, hA1, hbl⟩, hb1⟩
  have HX1 : Hid (RxAt w w1 w1.heap.size b (stE xs base 0) (.slice none 0 0) (.slice none 0 0) 0 0 (lvL xs base 0) (clL xs base 0)) := Lib.hid ⟨hA1, ⟨rfl, .inl ⟨rfl, rfl⟩⟩, ⟨rfl, .inl ⟨rfl, rfl⟩⟩, .inl rfl, hb1, hA1.lt, Nat.le_refl _, hbl⟩
  clear hA1 hbl hb1 hmi hl0
  go_wp2_with fail
  go_loopw [9, 7, 8] (fun i u7 u8 wr => ∃ k : Nat, k ≤ n ∧ i = .int .i64 (k : Int) ∧ RxAt w wr w1.heap.size b (stE xs base k) u7 u8 k k (lvL xs base k) (clL xs base k)) (fun i _ _ _ => n - (intOf i).toNat)
  case atStart => exact ⟨0, Nat.zero_le _, rfl, HX1.out⟩
  case round =>
    obtain ⟨k, hk, rfl, hX⟩ := hrel
    have HX := Lib.hid hX
    obtain ⟨V7, c7, rfl, hc7⟩ := own_form hX.r7
    obtain ⟨V8, c8, rfl, hc8⟩ := own_form hX.r8
    by_cases hlt : k < n
    · obtain ⟨x, hx⟩ : ∃ x, xs[k]? = some x := ⟨_, List.getElem?_eq_getElem (by rw [HL.out]; exact hlt)⟩
      have hRd : Rd wr 1 A n (xs.map (Value.int .i64)) := HR.out.below hX.low_
      obtain ⟨ad, rfl, hab, hcell⟩ := hRd.at_ hlt
      have cx := hcell _ (by rw [List.getElem?_map, hx]; rfl)
      have hxd : xs.getD k 0 = x := by rw [List.getD_eq_getElem?_getD, hx]; rfl
      have HXK := Lib.hid hx
      have hkn : (k : Int) < (n : Int) := by omega
      have hk0 : (0 : Int) ≤ (k : Int) := by omega
      have hk5 : (k : Int) ≤ 100000 := by omega
      have hex : exA xs base k = outX base (stepA (stE xs base k) x) x := by unfold exA; rw [hxd]
      have hst : stE xs base (k + 1) = stepB xs k x (stepA (stE xs base k) x) := by rw [stE, hxd]
      have hfw := few_st xs base k
      have HLV := Lib.hid (lvL_step xs base k)
      have HCL := Lib.hid (clL_step xs base k)
      obtain ⟨s, hs⟩ : ∃ s, stE xs base k = s := ⟨_, rfl⟩
      rw [hs] at HX hex hst hfw
      have hfa : s.a ≤ 100000000 := by have := hfw.1; omega
      have hfb : s.b ≤ 100000000 := by have := hfw.2.1; omega
      have hfc : s.c ≤ 100000000 := by have := hfw.2.2; omega
      clear hcell hx hxd hRd hX hs hfw
      by_cases h22 : x = 22
      · subst h22
        have hEX : exA xs base k = ((endIS s).top.lv, (givS (endIS s) 22)) := by rw [hex]; simp [stepA, outX, leftC]
        have hST : stE xs base (k + 1) = endIS s := by rw [hst]; (unfold stepA stepB; simp [opB])
        have HST := Lib.hid hST
        rw [hEX] at HLV HCL
        simp only at HLV HCL
        clear hEX hST hex hst
        go_wp2_with fail
        refine (rsEndI_any b s wr HX.out.rs hfa hfc).mono ?_
        rintro e w2 ⟨rfl, hA2, hk2⟩
        have HX2 := Lib.hid (HX.out.call hA2 hk2)
        clear hA2 hk2
        have HT := Lib.hid (rsTop_any b (endIS s) w2 HX2.out.rs)
        unfold entV at HT
        have fd := entR_lv (Stk.top (endIS s)).lv (Stk.top (endIS s)).ov (Stk.top (endIS s)).is
        go_wp2_with fail
        refine HT.out.mono ?_
        rintro e w3 ⟨rfl, hb3⟩
        have HX3 := Lib.hid (HX2.out.low hb3)
        clear hb3
        go_wp2_with fail
        refine (rxGiven_any b (endIS s) 22 w3 HX3.out.rs).mono ?_
        rintro e w4 ⟨rfl, hb4⟩
        have HX4 := Lib.hid (HX3.out.low hb4)
        clear hb4
        have HLF := Lib.hid (rxLeft_any 22 w4)
        rw [show leftC 22 = false from by decide] at HLF
        go_wp2_with fail
        refine HLF.out.mono ?_
        rintro e w5 ⟨rfl, rfl⟩
        go_wp2_with (first
          | (at_builtin; refine wpList_app rfl _ _ _ rfl intSliceM (by decide) (.slice V8 k c8) k _ rfl (HX5.out.r8.alloc _) ⟨w6.heap.size, 0, none⟩ 1 1 [.int .i64 (givS (endIS s) 22)] rfl rfl (cells_new w6 [_] _) (oneInt _ _) (by omega) (by unfold maxLen; omega) (by have := HX5.out.hB; simp; omega) ?_; intro v8 w7 hown7 hg7 hat7; have HX6 := Lib.hid ((HX5.out.low (below_new w6 _)).app8 hown7 hg7 (by simpa using hat7)))
          | (at_builtin; refine wpList_app rfl _ _ _ rfl intSliceM (by decide) (.slice V7 k c7) k _ rfl (HX4.out.r7.alloc _) ⟨w4.heap.size, 0, none⟩ 1 1 [.int .i64 (endIS s).top.lv] rfl rfl (cells_new w4 [_] _) (oneInt _ _) (by omega) (by unfold maxLen; omega) (by have := HX4.out.hB; simp; omega) ?_; intro v7 w6 hown6 hg6 hat6; have HX5 := Lib.hid ((HX4.out.low (below_new w4 _)).app7 hown6 hg6 (by simpa using hat6)))
          | fail)
        rw [← HLV.out, ← HCL.out] at HX6
        clear hown6 hg6 hat6 hown7 hg7 hat7
        rw [← HST.out] at HX6
        go_wp2_with fail
        go_roundw
        case rel => exact ⟨k + 1, by omega, by go_num, HX6.out⟩
        case measure => simp [intOf]; omega
      by_cases h10 : x = 10
      · subst h10
        have hEX : exA xs base k = (base, 10) := by rw [hex]; simp [outX]
        have hST : stE xs base (k + 1) = s := by rw [hst]; (unfold stepA stepB; simp [opB])
        have HST := Lib.hid hST
        rw [hEX] at HLV HCL
        simp only at HLV HCL
        clear hEX hST hex hst
        have HX2 := HX
        have HT := Lib.hid (rsTop_any b s wr HX2.out.rs)
        unfold entV at HT
        have fd := entR_lv (Stk.top s).lv (Stk.top s).ov (Stk.top s).is
        go_wp2_with fail
        refine HT.out.mono ?_
        rintro e w3 ⟨rfl, hb3⟩
        have HX3 := Lib.hid (HX2.out.low hb3)
        clear hb3
        go_wp2_with fail
        refine (rxGiven_any b s 10 w3 HX3.out.rs).mono ?_
        rintro e w4 ⟨rfl, hb4⟩
        have HX4 := Lib.hid (HX3.out.low hb4)
        clear hb4
        go_wp2_with (first
          | (at_builtin; refine wpList_app rfl _ _ _ rfl intSliceM (by decide) (.slice V8 k c8) k _ rfl (HX5.out.r8.alloc _) ⟨w6.heap.size, 0, none⟩ 1 1 [.int .i64 10] rfl rfl (cells_new w6 [_] _) (oneInt _ _) (by omega) (by unfold maxLen; omega) (by have := HX5.out.hB; simp; omega) ?_; intro v8 w7 hown7 hg7 hat7; have HX6 := Lib.hid ((HX5.out.low (below_new w6 _)).app8 hown7 hg7 (by simpa using hat7)))
          | (at_builtin; refine wpList_app rfl _ _ _ rfl intSliceM (by decide) (.slice V7 k c7) k _ rfl (HX4.out.r7.alloc _) ⟨w4.heap.size, 0, none⟩ 1 1 [.int .i64 base] rfl rfl (cells_new w4 [_] _) (oneInt _ _) (by omega) (by unfold maxLen; omega) (by have := HX4.out.hB; simp; omega) ?_; intro v7 w6 hown6 hg6 hat6; have HX5 := Lib.hid ((HX4.out.low (below_new w4 _)).app7 hown6 hg6 (by simpa using hat6)))
          | fail)
        rw [← HLV.out, ← HCL.out] at HX6
        clear hown6 hg6 hat6 hown7 hg7 hat7
        rw [← HST.out] at HX6
        go_wp2_with fail
        go_roundw
        case rel => exact ⟨k + 1, by omega, by go_num, HX6.out⟩
        case measure => simp [intOf]; omega
      by_cases h16 : x = 16
      · subst h16
        have hEX : exA xs base k = (s.top.lv, 9) := by rw [hex]; simp [stepA, outX, leftC]
        have hST : stE xs base (k + 1) = (embS s true 13).2 := by rw [hst]; simp [stepA, stepB]
        have HST := Lib.hid hST
        rw [hEX] at HLV HCL
        simp only at HLV HCL
        clear hEX hST hex hst
        have HX2 := HX
        have HT := Lib.hid (rsTop_any b s wr HX2.out.rs)
        unfold entV at HT
        have fd := entR_lv (Stk.top s).lv (Stk.top s).ov (Stk.top s).is
        go_wp2_with fail
        refine HT.out.mono ?_
        rintro e w3 ⟨rfl, hb3⟩
        have HX3 := Lib.hid (HX2.out.low hb3)
        clear hb3
        go_wp2_with fail
        refine (rxGiven_any b s 16 w3 HX3.out.rs).mono ?_
        rintro e w4 ⟨rfl, hb4⟩
        have HX4 := Lib.hid (HX3.out.low hb4)
        clear hb4
        have HLF := Lib.hid (rxLeft_any 16 w4)
        rw [show leftC 16 = true from by decide] at HLF
        go_wp2_with fail
        refine HLF.out.mono ?_
        rintro e w5 ⟨rfl, rfl⟩
        go_wp2_with (first
          | (at_builtin; refine wpList_app rfl _ _ _ rfl intSliceM (by decide) (.slice V8 k c8) k _ rfl (HX5.out.r8.alloc _) ⟨w6.heap.size, 0, none⟩ 1 1 [.int .i64 9] rfl rfl (cells_new w6 [_] _) (oneInt _ _) (by omega) (by unfold maxLen; omega) (by have := HX5.out.hB; simp; omega) ?_; intro v8 w7 hown7 hg7 hat7; have HX6 := Lib.hid ((HX5.out.low (below_new w6 _)).app8 hown7 hg7 (by simpa using hat7)))
          | (at_builtin; refine wpList_app rfl _ _ _ rfl intSliceM (by decide) (.slice V7 k c7) k _ rfl (HX4.out.r7.alloc _) ⟨w4.heap.size, 0, none⟩ 1 1 [.int .i64 s.top.lv] rfl rfl (cells_new w4 [_] _) (oneInt _ _) (by omega) (by unfold maxLen; omega) (by have := HX4.out.hB; simp; omega) ?_; intro v7 w6 hown6 hg6 hat6; have HX5 := Lib.hid ((HX4.out.low (below_new w4 _)).app7 hown6 hg6 (by simpa using hat6)))
          | fail)
        rw [← HLV.out, ← HCL.out] at HX6
        clear hown6 hg6 hat6 hown7 hg7 hat7
        go_wp2_with fail
        refine (rsEmbed_any b s true 13 w7 HX6.out.rs hfb).mono ?_
        rintro e w8 ⟨rfl, hA8, hk8⟩
        have HX9 := Lib.hid (HX6.out.call hA8 hk8)
        clear hA8 hk8
        rw [← HST.out] at HX9
        go_wp2_with fail
        go_roundw
        case rel => exact ⟨k + 1, by omega, by go_num, HX9.out⟩
        case measure => simp [intOf]; omega
      by_cases h14 : x = 14
      · subst h14
        have hEX : exA xs base k = (s.top.lv, 9) := by rw [hex]; simp [stepA, outX, leftC]
        have hST : stE xs base (k + 1) = (embS s false 13).2 := by rw [hst]; simp [stepA, stepB]
        have HST := Lib.hid hST
        rw [hEX] at HLV HCL
        simp only at HLV HCL
        clear hEX hST hex hst
        have HX2 := HX
        have HT := Lib.hid (rsTop_any b s wr HX2.out.rs)
        unfold entV at HT
        have fd := entR_lv (Stk.top s).lv (Stk.top s).ov (Stk.top s).is
        go_wp2_with fail
        refine HT.out.mono ?_
        rintro e w3 ⟨rfl, hb3⟩
        have HX3 := Lib.hid (HX2.out.low hb3)
        clear hb3
        go_wp2_with fail
        refine (rxGiven_any b s 14 w3 HX3.out.rs).mono ?_
        rintro e w4 ⟨rfl, hb4⟩
        have HX4 := Lib.hid (HX3.out.low hb4)
        clear hb4
        have HLF := Lib.hid (rxLeft_any 14 w4)
        rw [show leftC 14 = true from by decide] at HLF
        go_wp2_with fail
        refine HLF.out.mono ?_
        rintro e w5 ⟨rfl, rfl⟩
        go_wp2_with (first
          | (at_builtin; refine wpList_app rfl _ _ _ rfl intSliceM (by decide) (.slice V8 k c8) k _ rfl (HX5.out.r8.alloc _) ⟨w6.heap.size, 0, none⟩ 1 1 [.int .i64 9] rfl rfl (cells_new w6 [_] _) (oneInt _ _) (by omega) (by unfold maxLen; omega) (by have := HX5.out.hB; simp; omega) ?_; intro v8 w7 hown7 hg7 hat7; have HX6 := Lib.hid ((HX5.out.low (below_new w6 _)).app8 hown7 hg7 (by simpa using hat7)))
          | (at_builtin; refine wpList_app rfl _ _ _ rfl intSliceM (by decide) (.slice V7 k c7) k _ rfl (HX4.out.r7.alloc _) ⟨w4.heap.size, 0, none⟩ 1 1 [.int .i64 s.top.lv] rfl rfl (cells_new w4 [_] _) (oneInt _ _) (by omega) (by unfold maxLen; omega) (by have := HX4.out.hB; simp; omega) ?_; intro v7 w6 hown6 hg6 hat6; have HX5 := Lib.hid ((HX4.out.low (below_new w4 _)).app7 hown6 hg6 (by simpa using hat6)))
          | fail)
        rw [← HLV.out, ← HCL.out] at HX6
        clear hown6 hg6 hat6 hown7 hg7 hat7
        go_wp2_with fail
        refine (rsEmbed_any b s false 13 w7 HX6.out.rs hfb).mono ?_
        rintro e w8 ⟨rfl, hA8, hk8⟩
        have HX9 := Lib.hid (HX6.out.call hA8 hk8)
        clear hA8 hk8
        rw [← HST.out] at HX9
        go_wp2_with fail
        go_roundw
        case rel => exact ⟨k + 1, by omega, by go_num, HX9.out⟩
        case measure => simp [intOf]; omega
      by_cases h17 : x = 17
      · subst h17
        have hEX : exA xs base k = (s.top.lv, 9) := by rw [hex]; simp [stepA, outX, leftC]
        have hST : stE xs base (k + 1) = (embS s true 1).2 := by rw [hst]; simp [stepA, stepB]
        have HST := Lib.hid hST
        rw [hEX] at HLV HCL
        simp only at HLV HCL
        clear hEX hST hex hst
        have HX2 := HX
        have HT := Lib.hid (rsTop_any b s wr HX2.out.rs)
        unfold entV at HT
        have fd := entR_lv (Stk.top s).lv (Stk.top s).ov (Stk.top s).is
        go_wp2_with fail
        refine HT.out.mono ?_
        rintro e w3 ⟨rfl, hb3⟩
        have HX3 := Lib.hid (HX2.out.low hb3)
        clear hb3
        go_wp2_with fail
        refine (rxGiven_any b s 17 w3 HX3.out.rs).mono ?_
        rintro e w4 ⟨rfl, hb4⟩
        have HX4 := Lib.hid (HX3.out.low hb4)
        clear hb4
        have HLF := Lib.hid (rxLeft_any 17 w4)
        rw [show leftC 17 = true from by decide] at HLF
        go_wp2_with fail
        refine HLF.out.mono ?_
        rintro e w5 ⟨rfl, rfl⟩
        go_wp2_with (first
          | (at_builtin; refine wpList_app rfl _ _ _ rfl intSliceM (by decide) (.slice V8 k c8) k _ rfl (HX5.out.r8.alloc _) ⟨w6.heap.size, 0, none⟩ 1 1 [.int .i64 9] rfl rfl (cells_new w6 [_] _) (oneInt _ _) (by omega) (by unfold maxLen; omega) (by have := HX5.out.hB; simp; omega) ?_; intro v8 w7 hown7 hg7 hat7; have HX6 := Lib.hid ((HX5.out.low (below_new w6 _)).app8 hown7 hg7 (by simpa using hat7)))
          | (at_builtin; refine wpList_app rfl _ _ _ rfl intSliceM (by decide) (.slice V7 k c7) k _ rfl (HX4.out.r7.alloc _) ⟨w4.heap.size, 0, none⟩ 1 1 [.int .i64 s.top.lv] rfl rfl (cells_new w4 [_] _) (oneInt _ _) (by omega) (by unfold maxLen; omega) (by have := HX4.out.hB; simp; omega) ?_; intro v7 w6 hown6 hg6 hat6; have HX5 := Lib.hid ((HX4.out.low (below_new w4 _)).app7 hown6 hg6 (by simpa using hat6)))
          | fail)
        rw [← HLV.out, ← HCL.out] at HX6
        clear hown6 hg6 hat6 hown7 hg7 hat7
        go_wp2_with fail
        refine (rsEmbed_any b s true 1 w7 HX6.out.rs hfb).mono ?_
        rintro e w8 ⟨rfl, hA8, hk8⟩
        have HX9 := Lib.hid (HX6.out.call hA8 hk8)
        clear hA8 hk8
        rw [← HST.out] at HX9
        go_wp2_with fail
        go_roundw
        case rel => exact ⟨k + 1, by omega, by go_num, HX9.out⟩
        case measure => simp [intOf]; omega
      by_cases h15 : x = 15
      · subst h15
        have hEX : exA xs base k = (s.top.lv, 9) := by rw [hex]; simp [stepA, outX, leftC]
        have hST : stE xs base (k + 1) = (embS s false 0).2 := by rw [hst]; simp [stepA, stepB]
        have HST := Lib.hid hST
        rw [hEX] at HLV HCL
        simp only at HLV HCL
        clear hEX hST hex hst
        have HX2 := HX
        have HT := Lib.hid (rsTop_any b s wr HX2.out.rs)
        unfold entV at HT
        have fd := entR_lv (Stk.top s).lv (Stk.top s).ov (Stk.top s).is
        go_wp2_with fail
        refine HT.out.mono ?_
        rintro e w3 ⟨rfl, hb3⟩
        have HX3 := Lib.hid (HX2.out.low hb3)
        clear hb3
        go_wp2_with fail
        refine (rxGiven_any b s 15 w3 HX3.out.rs).mono ?_
        rintro e w4 ⟨rfl, hb4⟩
        have HX4 := Lib.hid (HX3.out.low hb4)
        clear hb4
        have HLF := Lib.hid (rxLeft_any 15 w4)
        rw [show leftC 15 = true from by decide] at HLF
        go_wp2_with fail
        refine HLF.out.mono ?_
        rintro e w5 ⟨rfl, rfl⟩
        go_wp2_with (first
          | (at_builtin; refine wpList_app rfl _ _ _ rfl intSliceM (by decide) (.slice V8 k c8) k _ rfl (HX5.out.r8.alloc _) ⟨w6.heap.size, 0, none⟩ 1 1 [.int .i64 9] rfl rfl (cells_new w6 [_] _) (oneInt _ _) (by omega) (by unfold maxLen; omega) (by have := HX5.out.hB; simp; omega) ?_; intro v8 w7 hown7 hg7 hat7; have HX6 := Lib.hid ((HX5.out.low (below_new w6 _)).app8 hown7 hg7 (by simpa using hat7)))
          | (at_builtin; refine wpList_app rfl _ _ _ rfl intSliceM (by decide) (.slice V7 k c7) k _ rfl (HX4.out.r7.alloc _) ⟨w4.heap.size, 0, none⟩ 1 1 [.int .i64 s.top.lv] rfl rfl (cells_new w4 [_] _) (oneInt _ _) (by omega) (by unfold maxLen; omega) (by have := HX4.out.hB; simp; omega) ?_; intro v7 w6 hown6 hg6 hat6; have HX5 := Lib.hid ((HX4.out.low (below_new w4 _)).app7 hown6 hg6 (by simpa using hat6)))
          | fail)
        rw [← HLV.out, ← HCL.out] at HX6
        clear hown6 hg6 hat6 hown7 hg7 hat7
        go_wp2_with fail
        refine (rsEmbed_any b s false 0 w7 HX6.out.rs hfb).mono ?_
        rintro e w8 ⟨rfl, hA8, hk8⟩
        have HX9 := Lib.hid (HX6.out.call hA8 hk8)
        clear hA8 hk8
        rw [← HST.out] at HX9
        go_wp2_with fail
        go_roundw
        case rel => exact ⟨k + 1, by omega, by go_num, HX9.out⟩
        case measure => simp [intOf]; omega
      by_cases h18 : x = 18
      · subst h18
        have hEX : exA xs base k = (s.top.lv, 9) := by rw [hex]; simp [stepA, outX, leftC]
        have hST : stE xs base (k + 1) = endES s := by rw [hst]; (unfold stepA stepB; simp)
        have HST := Lib.hid hST
        rw [hEX] at HLV HCL
        simp only at HLV HCL
        clear hEX hST hex hst
        have HX2 := HX
        have HT := Lib.hid (rsTop_any b s wr HX2.out.rs)
        unfold entV at HT
        have fd := entR_lv (Stk.top s).lv (Stk.top s).ov (Stk.top s).is
        go_wp2_with fail
        refine HT.out.mono ?_
        rintro e w3 ⟨rfl, hb3⟩
        have HX3 := Lib.hid (HX2.out.low hb3)
        clear hb3
        go_wp2_with fail
        refine (rxGiven_any b s 18 w3 HX3.out.rs).mono ?_
        rintro e w4 ⟨rfl, hb4⟩
        have HX4 := Lib.hid (HX3.out.low hb4)
        clear hb4
        have HLF := Lib.hid (rxLeft_any 18 w4)
        rw [show leftC 18 = true from by decide] at HLF
        go_wp2_with fail
        refine HLF.out.mono ?_
        rintro e w5 ⟨rfl, rfl⟩
        go_wp2_with (first
          | (at_builtin; refine wpList_app rfl _ _ _ rfl intSliceM (by decide) (.slice V8 k c8) k _ rfl (HX5.out.r8.alloc _) ⟨w6.heap.size, 0, none⟩ 1 1 [.int .i64 9] rfl rfl (cells_new w6 [_] _) (oneInt _ _) (by omega) (by unfold maxLen; omega) (by have := HX5.out.hB; simp; omega) ?_; intro v8 w7 hown7 hg7 hat7; have HX6 := Lib.hid ((HX5.out.low (below_new w6 _)).app8 hown7 hg7 (by simpa using hat7)))
          | (at_builtin; refine wpList_app rfl _ _ _ rfl intSliceM (by decide) (.slice V7 k c7) k _ rfl (HX4.out.r7.alloc _) ⟨w4.heap.size, 0, none⟩ 1 1 [.int .i64 s.top.lv] rfl rfl (cells_new w4 [_] _) (oneInt _ _) (by omega) (by unfold maxLen; omega) (by have := HX4.out.hB; simp; omega) ?_; intro v7 w6 hown6 hg6 hat6; have HX5 := Lib.hid ((HX4.out.low (below_new w4 _)).app7 hown6 hg6 (by simpa using hat6)))
          | fail)
        rw [← HLV.out, ← HCL.out] at HX6
        clear hown6 hg6 hat6 hown7 hg7 hat7
        go_wp2_with fail
        refine (rsEndE_any b s w7 HX6.out.rs hfb).mono ?_
        rintro e w8 ⟨rfl, hA8, hk8⟩
        have HX9 := Lib.hid (HX6.out.call hA8 hk8)
        clear hA8 hk8
        rw [← HST.out] at HX9
        go_wp2_with fail
        go_roundw
        case rel => exact ⟨k + 1, by omega, by go_num, HX9.out⟩
        case measure => simp [intOf]; omega
      by_cases h20 : x = 20
      · subst h20
        have hEX : exA xs base k = (s.top.lv, (givS s 20)) := by rw [hex]; simp [stepA, outX, leftC]
        have hST : stE xs base (k + 1) = (isoS s (rightC xs k)).2 := by rw [hst]; (unfold stepA stepB; simp [opB])
        have HST := Lib.hid hST
        rw [hEX] at HLV HCL
        simp only at HLV HCL
        clear hEX hST hex hst
        have HX2 := HX
        have HT := Lib.hid (rsTop_any b s wr HX2.out.rs)
        unfold entV at HT
        have fd := entR_lv (Stk.top s).lv (Stk.top s).ov (Stk.top s).is
        go_wp2_with fail
        refine HT.out.mono ?_
        rintro e w3 ⟨rfl, hb3⟩
        have HX3 := Lib.hid (HX2.out.low hb3)
        clear hb3
        go_wp2_with fail
        refine (rxGiven_any b s 20 w3 HX3.out.rs).mono ?_
        rintro e w4 ⟨rfl, hb4⟩
        have HX4 := Lib.hid (HX3.out.low hb4)
        clear hb4
        have HLF := Lib.hid (rxLeft_any 20 w4)
        rw [show leftC 20 = false from by decide] at HLF
        go_wp2_with fail
        refine HLF.out.mono ?_
        rintro e w5 ⟨rfl, rfl⟩
        go_wp2_with (first
          | (at_builtin; refine wpList_app rfl _ _ _ rfl intSliceM (by decide) (.slice V8 k c8) k _ rfl (HX5.out.r8.alloc _) ⟨w6.heap.size, 0, none⟩ 1 1 [.int .i64 (givS s 20)] rfl rfl (cells_new w6 [_] _) (oneInt _ _) (by omega) (by unfold maxLen; omega) (by have := HX5.out.hB; simp; omega) ?_; intro v8 w7 hown7 hg7 hat7; have HX6 := Lib.hid ((HX5.out.low (below_new w6 _)).app8 hown7 hg7 (by simpa using hat7)))
          | (at_builtin; refine wpList_app rfl _ _ _ rfl intSliceM (by decide) (.slice V7 k c7) k _ rfl (HX4.out.r7.alloc _) ⟨w4.heap.size, 0, none⟩ 1 1 [.int .i64 s.top.lv] rfl rfl (cells_new w4 [_] _) (oneInt _ _) (by omega) (by unfold maxLen; omega) (by have := HX4.out.hB; simp; omega) ?_; intro v7 w6 hown6 hg6 hat6; have HX5 := Lib.hid ((HX4.out.low (below_new w4 _)).app7 hown6 hg6 (by simpa using hat6)))
          | fail)
        rw [← HLV.out, ← HCL.out] at HX6
        clear hown6 hg6 hat6 hown7 hg7 hat7
        have HRT := Lib.hid (rxRight_any (some ad) n c k xs 20 w7 (HR.out.below HX6.out.low_) hn hnc HXK.out)
        go_wp2_with fail
        refine HRT.out.mono ?_
        rintro e w10 ⟨rfl, hb10⟩
        have HX7 := Lib.hid (HX6.out.low hb10)
        clear hb10
        go_wp2_with fail
        refine (rsIsolate_any b s (rightC xs k) w10 HX7.out.rs hfa hfc).mono ?_
        rintro e w8 ⟨rfl, hA8, hk8⟩
        have HX9 := Lib.hid (HX7.out.call hA8 hk8)
        clear hA8 hk8
        rw [← HST.out] at HX9
        go_wp2_with fail
        go_roundw
        case rel => exact ⟨k + 1, by omega, by go_num, HX9.out⟩
        case measure => simp [intOf]; omega
      by_cases h19 : x = 19
      · subst h19
        have hEX : exA xs base k = (s.top.lv, (givS s 19)) := by rw [hex]; simp [stepA, outX, leftC]
        have hST : stE xs base (k + 1) = (isoS s (rightC xs k)).2 := by rw [hst]; (unfold stepA stepB; simp [opB])
        have HST := Lib.hid hST
        rw [hEX] at HLV HCL
        simp only at HLV HCL
        clear hEX hST hex hst
        have HX2 := HX
        have HT := Lib.hid (rsTop_any b s wr HX2.out.rs)
        unfold entV at HT
        have fd := entR_lv (Stk.top s).lv (Stk.top s).ov (Stk.top s).is
        go_wp2_with fail
        refine HT.out.mono ?_
        rintro e w3 ⟨rfl, hb3⟩
        have HX3 := Lib.hid (HX2.out.low hb3)
        clear hb3
        go_wp2_with fail
        refine (rxGiven_any b s 19 w3 HX3.out.rs).mono ?_
        rintro e w4 ⟨rfl, hb4⟩
        have HX4 := Lib.hid (HX3.out.low hb4)
        clear hb4
        have HLF := Lib.hid (rxLeft_any 19 w4)
        rw [show leftC 19 = false from by decide] at HLF
        go_wp2_with fail
        refine HLF.out.mono ?_
        rintro e w5 ⟨rfl, rfl⟩
        go_wp2_with (first
          | (at_builtin; refine wpList_app rfl _ _ _ rfl intSliceM (by decide) (.slice V8 k c8) k _ rfl (HX5.out.r8.alloc _) ⟨w6.heap.size, 0, none⟩ 1 1 [.int .i64 (givS s 19)] rfl rfl (cells_new w6 [_] _) (oneInt _ _) (by omega) (by unfold maxLen; omega) (by have := HX5.out.hB; simp; omega) ?_; intro v8 w7 hown7 hg7 hat7; have HX6 := Lib.hid ((HX5.out.low (below_new w6 _)).app8 hown7 hg7 (by simpa using hat7)))
          | (at_builtin; refine wpList_app rfl _ _ _ rfl intSliceM (by decide) (.slice V7 k c7) k _ rfl (HX4.out.r7.alloc _) ⟨w4.heap.size, 0, none⟩ 1 1 [.int .i64 s.top.lv] rfl rfl (cells_new w4 [_] _) (oneInt _ _) (by omega) (by unfold maxLen; omega) (by have := HX4.out.hB; simp; omega) ?_; intro v7 w6 hown6 hg6 hat6; have HX5 := Lib.hid ((HX4.out.low (below_new w4 _)).app7 hown6 hg6 (by simpa using hat6)))
          | fail)
        rw [← HLV.out, ← HCL.out] at HX6
        clear hown6 hg6 hat6 hown7 hg7 hat7
        have HRT := Lib.hid (rxRight_any (some ad) n c k xs 19 w7 (HR.out.below HX6.out.low_) hn hnc HXK.out)
        go_wp2_with fail
        refine HRT.out.mono ?_
        rintro e w10 ⟨rfl, hb10⟩
        have HX7 := Lib.hid (HX6.out.low hb10)
        clear hb10
        go_wp2_with fail
        refine (rsIsolate_any b s (rightC xs k) w10 HX7.out.rs hfa hfc).mono ?_
        rintro e w8 ⟨rfl, hA8, hk8⟩
        have HX9 := Lib.hid (HX7.out.call hA8 hk8)
        clear hA8 hk8
        rw [← HST.out] at HX9
        go_wp2_with fail
        go_roundw
        case rel => exact ⟨k + 1, by omega, by go_num, HX9.out⟩
        case measure => simp [intOf]; omega
      by_cases h21 : x = 21
      · subst h21
        have hEX : exA xs base k = (s.top.lv, (givS s 21)) := by rw [hex]; simp [stepA, outX, leftC]
        have hST : stE xs base (k + 1) = (isoS s (rightC xs k)).2 := by rw [hst]; (unfold stepA stepB; simp [opB])
        have HST := Lib.hid hST
        rw [hEX] at HLV HCL
        simp only at HLV HCL
        clear hEX hST hex hst
        have HX2 := HX
        have HT := Lib.hid (rsTop_any b s wr HX2.out.rs)
        unfold entV at HT
        have fd := entR_lv (Stk.top s).lv (Stk.top s).ov (Stk.top s).is
        go_wp2_with fail
        refine HT.out.mono ?_
        rintro e w3 ⟨rfl, hb3⟩
        have HX3 := Lib.hid (HX2.out.low hb3)
        clear hb3
        go_wp2_with fail
        refine (rxGiven_any b s 21 w3 HX3.out.rs).mono ?_
        rintro e w4 ⟨rfl, hb4⟩
        have HX4 := Lib.hid (HX3.out.low hb4)
        clear hb4
        have HLF := Lib.hid (rxLeft_any 21 w4)
        rw [show leftC 21 = false from by decide] at HLF
        go_wp2_with fail
        refine HLF.out.mono ?_
        rintro e w5 ⟨rfl, rfl⟩
        go_wp2_with (first
          | (at_builtin; refine wpList_app rfl _ _ _ rfl intSliceM (by decide) (.slice V8 k c8) k _ rfl (HX5.out.r8.alloc _) ⟨w6.heap.size, 0, none⟩ 1 1 [.int .i64 (givS s 21)] rfl rfl (cells_new w6 [_] _) (oneInt _ _) (by omega) (by unfold maxLen; omega) (by have := HX5.out.hB; simp; omega) ?_; intro v8 w7 hown7 hg7 hat7; have HX6 := Lib.hid ((HX5.out.low (below_new w6 _)).app8 hown7 hg7 (by simpa using hat7)))
          | (at_builtin; refine wpList_app rfl _ _ _ rfl intSliceM (by decide) (.slice V7 k c7) k _ rfl (HX4.out.r7.alloc _) ⟨w4.heap.size, 0, none⟩ 1 1 [.int .i64 s.top.lv] rfl rfl (cells_new w4 [_] _) (oneInt _ _) (by omega) (by unfold maxLen; omega) (by have := HX4.out.hB; simp; omega) ?_; intro v7 w6 hown6 hg6 hat6; have HX5 := Lib.hid ((HX4.out.low (below_new w4 _)).app7 hown6 hg6 (by simpa using hat6)))
          | fail)
        rw [← HLV.out, ← HCL.out] at HX6
        clear hown6 hg6 hat6 hown7 hg7 hat7
        have HRT := Lib.hid (rxRight_any (some ad) n c k xs 21 w7 (HR.out.below HX6.out.low_) hn hnc HXK.out)
        go_wp2_with fail
        refine HRT.out.mono ?_
        rintro e w10 ⟨rfl, hb10⟩
        have HX7 := Lib.hid (HX6.out.low hb10)
        clear hb10
        go_wp2_with fail
        refine (rsIsolate_any b s (rightC xs k) w10 HX7.out.rs hfa hfc).mono ?_
        rintro e w8 ⟨rfl, hA8, hk8⟩
        have HX9 := Lib.hid (HX7.out.call hA8 hk8)
        clear hA8 hk8
        rw [← HST.out] at HX9
        go_wp2_with fail
        go_roundw
        case rel => exact ⟨k + 1, by omega, by go_num, HX9.out⟩
        case measure => simp [intOf]; omega
      by_cases h9 : x = 9
      · subst h9
        have hEX : exA xs base k = (s.top.lv, 9) := by rw [hex]; simp [stepA, outX, leftC]
        have hST : stE xs base (k + 1) = s := by rw [hst]; (unfold stepA stepB; simp [opB])
        have HST := Lib.hid hST
        rw [hEX] at HLV HCL
        simp only at HLV HCL
        clear hEX hST hex hst
        have HX2 := HX
        have HT := Lib.hid (rsTop_any b s wr HX2.out.rs)
        unfold entV at HT
        have fd := entR_lv (Stk.top s).lv (Stk.top s).ov (Stk.top s).is
        go_wp2_with fail
        refine HT.out.mono ?_
        rintro e w3 ⟨rfl, hb3⟩
        have HX3 := Lib.hid (HX2.out.low hb3)
        clear hb3
        go_wp2_with fail
        refine (rxGiven_any b s 9 w3 HX3.out.rs).mono ?_
        rintro e w4 ⟨rfl, hb4⟩
        have HX4 := Lib.hid (HX3.out.low hb4)
        clear hb4
        have HLF := Lib.hid (rxLeft_any 9 w4)
        rw [show leftC 9 = true from by decide] at HLF
        go_wp2_with fail
        refine HLF.out.mono ?_
        rintro e w5 ⟨rfl, rfl⟩
        go_wp2_with (first
          | (at_builtin; refine wpList_app rfl _ _ _ rfl intSliceM (by decide) (.slice V8 k c8) k _ rfl (HX5.out.r8.alloc _) ⟨w6.heap.size, 0, none⟩ 1 1 [.int .i64 9] rfl rfl (cells_new w6 [_] _) (oneInt _ _) (by omega) (by unfold maxLen; omega) (by have := HX5.out.hB; simp; omega) ?_; intro v8 w7 hown7 hg7 hat7; have HX6 := Lib.hid ((HX5.out.low (below_new w6 _)).app8 hown7 hg7 (by simpa using hat7)))
          | (at_builtin; refine wpList_app rfl _ _ _ rfl intSliceM (by decide) (.slice V7 k c7) k _ rfl (HX4.out.r7.alloc _) ⟨w4.heap.size, 0, none⟩ 1 1 [.int .i64 s.top.lv] rfl rfl (cells_new w4 [_] _) (oneInt _ _) (by omega) (by unfold maxLen; omega) (by have := HX4.out.hB; simp; omega) ?_; intro v7 w6 hown6 hg6 hat6; have HX5 := Lib.hid ((HX4.out.low (below_new w4 _)).app7 hown6 hg6 (by simpa using hat6)))
          | fail)
        rw [← HLV.out, ← HCL.out] at HX6
        clear hown6 hg6 hat6 hown7 hg7 hat7
        rw [← HST.out] at HX6
        go_wp2_with fail
        go_roundw
        case rel => exact ⟨k + 1, by omega, by go_num, HX6.out⟩
        case measure => simp [intOf]; omega
      have g22 : (x == 22) = false := by simp [h22]
      have g10 : (x == 10) = false := by simp [h10]
      have g16 : (x == 16) = false := by simp [h16]
      have g14 : (x == 14) = false := by simp [h14]
      have g17 : (x == 17) = false := by simp [h17]
      have g15 : (x == 15) = false := by simp [h15]
      have g18 : (x == 18) = false := by simp [h18]
      have g20 : (x == 20) = false := by simp [h20]
      have g19 : (x == 19) = false := by simp [h19]
      have g21 : (x == 21) = false := by simp [h21]
      have g9 : (x == 9) = false := by simp [h9]
      have HAL := Lib.hid (show leftC x = false by unfold leftC; simp; omega)
      have HNX := Lib.hid (show ¬ x = 22 ∧ ¬ x = 10 ∧ ¬ x = 16 ∧ ¬ x = 14 ∧ ¬ x = 17 ∧ ¬ x = 15 ∧ ¬ x = 18 ∧ ¬ x = 20 ∧ ¬ x = 19 ∧ ¬ x = 21 ∧ ¬ x = 9 from ⟨h22, h10, h16, h14, h17, h15, h18, h20, h19, h21, h9⟩)
      have hEX : exA xs base k = (s.top.lv, (givS s x)) := by rw [hex]; (unfold stepA; rw [if_neg h22]; unfold outX; rw [if_neg h10, if_neg (by rw [HAL.out]; simp)])
      have hST : stE xs base (k + 1) = s := by rw [hst]; (unfold stepA stepB; rw [if_neg h22, if_neg h16, if_neg h14, if_neg h17, if_neg h15, if_neg h18, if_neg (by rw [opB_iff]; omega)])
      have HST := Lib.hid hST
      rw [hEX] at HLV HCL
      simp only at HLV HCL
      clear hEX hST hex hst h22 h10 h16 h14 h17 h15 h18 h20 h19 h21 h9
      have HX2 := HX
      have HT := Lib.hid (rsTop_any b s wr HX2.out.rs)
      unfold entV at HT
      have fd := entR_lv (Stk.top s).lv (Stk.top s).ov (Stk.top s).is
      go_wp2_with fail
      refine HT.out.mono ?_
      rintro e w3 ⟨rfl, hb3⟩
      have HX3 := Lib.hid (HX2.out.low hb3)
      clear hb3
      go_wp2_with fail
      refine (rxGiven_any b s x w3 HX3.out.rs).mono ?_
      rintro e w4 ⟨rfl, hb4⟩
      have HX4 := Lib.hid (HX3.out.low hb4)
      clear hb4
      have HLF := Lib.hid (rxLeft_any x w4)
      rw [show leftC x = false from HAL.out] at HLF
      go_wp2_with fail
      refine HLF.out.mono ?_
      rintro e w5 ⟨rfl, rfl⟩
      go_wp2_with (first
        | (at_builtin; refine wpList_app rfl _ _ _ rfl intSliceM (by decide) (.slice V8 k c8) k _ rfl (HX5.out.r8.alloc _) ⟨w6.heap.size, 0, none⟩ 1 1 [.int .i64 (givS s x)] rfl rfl (cells_new w6 [_] _) (oneInt _ _) (by omega) (by unfold maxLen; omega) (by have := HX5.out.hB; simp; omega) ?_; intro v8 w7 hown7 hg7 hat7; have HX6 := Lib.hid ((HX5.out.low (below_new w6 _)).app8 hown7 hg7 (by simpa using hat7)))
        | (at_builtin; refine wpList_app rfl _ _ _ rfl intSliceM (by decide) (.slice V7 k c7) k _ rfl (HX4.out.r7.alloc _) ⟨w4.heap.size, 0, none⟩ 1 1 [.int .i64 s.top.lv] rfl rfl (cells_new w4 [_] _) (oneInt _ _) (by omega) (by unfold maxLen; omega) (by have := HX4.out.hB; simp; omega) ?_; intro v7 w6 hown6 hg6 hat6; have HX5 := Lib.hid ((HX4.out.low (below_new w4 _)).app7 hown6 hg6 (by simpa using hat6)))
        | fail)
      rw [← HLV.out, ← HCL.out] at HX6
      clear hown6 hg6 hat6 hown7 hg7 hat7
      rw [← HST.out] at HX6
      go_wp2_with fail
      go_roundw
      case rel => exact ⟨k + 1, by omega, by go_num, HX6.out⟩
      case measure => simp [intOf]; omega
    · obtain rfl : k = n := by omega
      have HRA := Lib.hid (Rd.of_own hX.r7)
      have HRB := Lib.hid (Rd.of_own hX.r8)
      clear hX
      go_wp2
      exact bodyPost_ret (v := .tuple #[.slice V7 k c7, .slice V8 k c8]) (by simp [results, go_sem]) rfl ⟨⟨V7, c7, V8, c8, rfl, HRA.out, HRB.out⟩, HX.out.low_⟩
end Go.Proofs.Ytnmpoipakmjbpaa
