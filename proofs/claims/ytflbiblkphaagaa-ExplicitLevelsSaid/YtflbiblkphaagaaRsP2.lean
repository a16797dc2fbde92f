/- The reference's stack: Push, Pop, walked. -/
import Derived.Test.YtflbiblkphaagaaRsP1
import Derived.Deep.RegionLaw
import Derived.Deep.AppendLies
namespace Go.Proofs.Ytflbiblkphaagaa
open Go.RowKit

theorem rsPush_ris {s : Stk} {x : Ent} (h : Rises s) (h1 : s.top.lv < x.lv) (h2 : x.lv ≤ 125) : Rises { s with R := x :: s.R } := h.put h1 h2
theorem rd_grown {w w' : World} {size n : Nat} {A : Option Addr} {xs : List Value} (h : Rd w size A n xs) (hg : w.drew.grownBy w' none) : Rd w' size A n xs := h.below ((Below.refl _ _).drew.grown hg (Nat.le_refl _) (fun k hk => by cases hk))
theorem all_push (s : Stk) (x : Ent) : cellsE (s.bot :: (x :: s.R).reverse) = cellsE s.all ++ cE x := by
  rw [List.reverse_cons, ← List.cons_append, cellsE_app]
  unfold Stk.all cellsE
  simp
set_option maxRecDepth 100000 in
set_option maxHeartbeats 4000000 in
theorem rsPush_any (b : Nat) (s : Stk) (x : Ent) (w : World) (h : RsAt w b s) : Calls Try.prog 37 #[.pointer (some ⟨b, 0, none⟩), entV x] w fun e w' => e = .returned (.bool (pushS s x).1) ∧ RsAt w' b (pushS s x).2 ∧ Kept w w' [b] := by
  obtain ⟨lv, ov, is⟩ := x
  obtain ⟨W, hW⟩ : ∃ W, w.alloc (.cells #[.int .i64 lv, .int .i64 ov, .bool is] 36) = W := ⟨_, rfl⟩
  have hbn := below_new w (.cells #[.int .i64 lv, .int .i64 ov, .bool is] 36)
  have hs := h.low hbn
  have hsz : W.heap.size = w.heap.size + 1 := by rw [← hW]; simp
  have cx := cells_new w [.int .i64 lv, .int .i64 ov, .bool is] 36
  have cx0 := cx 0 _ rfl
  have cx1 := cx 1 _ rfl
  have cx2 := cx 2 _ rfl
  rw [addNew] at cx0 cx1 cx2
  rw [show (w.alloc (.cells [Value.int .i64 lv, .int .i64 ov, .bool is].toArray 36)) = W from hW] at cx0 cx1 cx2
  rw [hW] at hbn hs
  have hlt := h.lt
  have HK0 : Hid (Kept w W [b]) := Lib.hid (Kept.of_below hbn _)
  obtain ⟨g, hg⟩ : ∃ g, w.heap.size = g := ⟨_, rfl⟩
  rw [hg] at hsz hlt cx0 cx1 cx2
  have HS := Lib.hid hs
  have HT : Hid (∀ W', Below W.heap.size W W' → Calls Try.prog 17 #[.pointer (some ⟨b, 0, none⟩)] W' fun e w' => e = .returned (.agg #[.int .i64 s.top.lv, .int .i64 s.top.ov, .bool s.top.is]) ∧ Below W'.heap.size W' w') := Lib.hid fun W' hb => rsTop_any b s W' (hs.low hb)
  have fd := entR_lv s.top.lv s.top.ov s.top.is
  have hf := h.fits
  unfold entV
  have hne : b ≠ g := by omega
  by_cases h1 : lv ≤ s.top.lv ∨ 125 < lv
  · have HP : Hid (pushS s ⟨lv, ov, is⟩ = (false, s)) := Lib.hid (by unfold pushS; rw [if_pos h1])
    rw [HP.out]
    clear hs h hbn cx
    by_cases h2 : lv ≤ s.top.lv
    · have hd : decide (lv ≤ s.top.lv) = true := decide_eq_true h2
      go_enter Try.func37, Try.ntmps37
      go_wp2_with fail
      first | (go_region_law (first
        | (go_simp; go_at_call 17; refine (HT.out _ (by first | exact Below.refl _ _ | exact (Below.refl _ _).drew)).mono ?_; rintro e w3 ⟨rfl, h4⟩; have hb3 : Below W.heap.size W w3 := (by first | exact below_self (Below.refl _ _).drew h4 | exact h4); have y0 := cell_below hb3 cx0)
        | fail)) | fail
      all_goals go_wp2
      all_goals go_ret
      all_goals exact ⟨rfl, HS.out.low hb3, HK0.out.trans (Kept.of_below hb3 _)⟩
    · have hd : decide (lv ≤ s.top.lv) = false := decide_eq_false h2
      have hd2 : decide (125 < lv) = true := decide_eq_true (by omega)
      go_enter Try.func37, Try.ntmps37
      go_wp2_with fail
      first | (go_region_law (first
        | (go_simp; go_at_call 17; refine (HT.out _ (by first | exact Below.refl _ _ | exact (Below.refl _ _).drew)).mono ?_; rintro e w3 ⟨rfl, h4⟩; have hb3 : Below W.heap.size W w3 := (by first | exact below_self (Below.refl _ _).drew h4 | exact h4); have y0 := cell_below hb3 cx0)
        | fail)) | fail
      all_goals go_wp2
      all_goals go_ret
      all_goals exact ⟨rfl, HS.out.low hb3, HK0.out.trans (Kept.of_below hb3 _)⟩
  · have HP : Hid (pushS s ⟨lv, ov, is⟩ = (true, { s with R := ⟨lv, ov, is⟩ :: s.R })) := Lib.hid (by unfold pushS; rw [if_neg h1])
    rw [HP.out]
    have hd : decide (lv ≤ s.top.lv) = false := decide_eq_false (by omega)
    have hd2 : decide (125 < lv) = false := decide_eq_false (by omega)
    have HRI := Lib.hid (rsPush_ris (x := ⟨lv, ov, is⟩) h.ris (by show s.top.lv < lv; omega) (by show lv ≤ 125; omega))
    clear hs h hbn cx
    go_enter Try.func37, Try.ntmps37
    go_wp2_with fail
    go_cut [15] (fun v wx => v = .bool false ∧ Below W.heap.size W wx)
    case first =>
      first | (go_region_law (first
        | (go_simp; go_at_call 17; refine (HT.out _ (by first | exact Below.refl _ _ | exact (Below.refl _ _).drew)).mono ?_; rintro e w3 ⟨rfl, h4⟩; have hb3 : Below W.heap.size W w3 := (by first | exact below_self (Below.refl _ _).drew h4 | exact h4); have y0 := cell_below hb3 cx0)
        | fail)) | fail
      all_goals (
        have HB3 := Lib.hid hb3
        clear hb3 h4 y0
        go_wp2_with fail
        rename_i hJ
        refine Met.intro (hJ _ _ ?_)
        (repeat apply Exists.intro)
        refine ⟨?_, rfl⟩)
      all_goals exact ⟨rfl, HB3.out⟩
    case rest =>
      obtain ⟨rfl, hb3⟩ := hcut
      have HB3 := Lib.hid hb3
      have hs3 := HS.out.low hb3
      have HS3 := Lib.hid hs3
      have d0 := cell_below hb3 cx0
      have d1 := cell_below hb3 cx1
      have d2 := cell_below hb3 cx2
      have hgs : g < wc.heap.size := Nat.lt_of_lt_of_le (by omega) hb3.size
      have hbs : b < wc.heap.size := by omega
      obtain ⟨ad, c, c0, hc, hrd, hadb, _, _, _, _⟩ := hs3.sl
      have hfz := hs3.froz 0
      have HR := Lib.hid hrd
      obtain ⟨n, hn⟩ : ∃ n, s.R.length + 1 = n := ⟨_, rfl⟩
      rw [hn] at c0 hc HR
      have hn126 : n ≤ 126 := by omega
      have HNN := Lib.hid hn
      have HO1 := Lib.hid (cellsE_one s.all)
      have hone : ∀ u ∈ [Value.int .i64 lv, .int .i64 ov, .bool is], u.oneCell' = true := by
        intro u hu
        simp at hu
        rcases hu with rfl | rfl | rfl <;> rfl
      have HO2 := Lib.hid hone
      clear hb3 hs3 hrd hadb cx0 cx1 cx2 hone
      go_wp2_with fail
      first | (go_region_law (first
        | (refine step_appR (by rfl) _ _ _ (by rfl) entSliceR (by decide) (.slice A5 n k5) n (cellsE s.all) (by rfl) (by first | exact HO5.out.alloc _ | exact HO5.out) _ 1 _ [.int .i64 lv, .int .i64 ov, .bool is] (by rfl) (by first | exact rdNew3 w5 _ _ _ _ | exact rd_grown (rdNew3 wc _ _ _ _) hg5) HO2.out (by omega) (by unfold maxLen; omega) (by first | exact hb5.size | (have := hb5.size; simp; omega)) _ rfl ?_; intro v7 w7 hown7 hg7 hat7; have hb7 : Below wc.heap.size wc w7 := (by first | exact below_app hb5 hg7 HO5.out hb5.size | exact below_app (below_self hb5 (below_new w5 _)) hg7 (HO5.out.alloc _) (by have := hb5.size; simp; omega)); obtain ⟨A7, k7, rfl, hk7⟩ := own_form hown7; have z0 := cell_below hb7 c0; have zf := (HS3.out.low hb7).froz 0)
        | (refine step_appR (by rfl) _ _ _ (by rfl) entSliceR (by decide) (.slice none 0 0) 0 [] (by rfl) (World.ownsRow_nil _ wc.heap.size _ _) (some ad) n c (cellsE s.all) (by rfl) (by first | exact HR.out.below (Below.refl _ _).drew | exact HR.out.below (below_drew (below_new wc _) 1)) HO1.out (by omega) (by unfold maxLen; omega) (by first | exact Nat.le_refl _ | simp) _ rfl ?_; intro v5 w5 hown5 hg5 hat5; simp only [Nat.zero_add, List.nil_append] at hown5; have hb5 : Below wc.heap.size wc w5 := (by first | exact (Below.refl _ _).drew.grown hg5 (Nat.le_refl _) (fun k hk => by cases hk) | exact (below_drew (below_new wc _) 1).grown hg5 (by simp) (fun k hk => by cases hk)); obtain ⟨A5, k5, rfl, hk5⟩ := own_form hown5; have HO5 := Lib.hid hown5; have y0 := cell_below hb5 d0; have y1 := cell_below hb5 d1; have y2 := cell_below hb5 d2; have hgs5 : g < w5.heap.size := Nat.lt_of_lt_of_le hgs hb5.size)
        | fail)) | fail
      all_goals (
        obtain ⟨g7, cap7, hv7, hbg7, hlt7⟩ := hown7.form (by omega)
        have hA7 : A7 = some ⟨g7, 0, none⟩ := by injection hv7
        subst hA7
        have hrd7 : Rd w7 3 (some ⟨g7, 0, none⟩) ((⟨lv, ov, is⟩ :: s.R : List Ent).length + 1) (cellsE (s.bot :: (⟨lv, ov, is⟩ :: s.R : List Ent).reverse)) := by
          rw [all_push, List.length_cons, HNN.out]
          exact Rd.of_own hown7
        have hfin := (HS3.out.low hb7).setL (c := k7) hrd7 (by rw [List.length_cons, HNN.out]; exact hk7) (by omega) (by omega) (own_typ hown7) HRI.out
        rw [List.length_cons, HNN.out] at hfin
        have HF := Lib.hid hfin
        have HK := Lib.hid ((HK0.out.trans ((Kept.of_below HB3.out [b]).trans (Kept.of_below hb7 [b]))).set (.inl (List.mem_singleton.2 rfl)) 0 (.slice (some ⟨g7, 0, none⟩) (n + 1) k7))
        clear hfin hrd7 hown7 hv7 hg7 hat7 hat5 hg5 hown5
        go_wp2
        go_ret
        exact ⟨rfl, HF.out, HK.out⟩)
set_option maxRecDepth 100000 in
set_option maxHeartbeats 4000000 in
theorem rsPop_any (b : Nat) (s : Stk) (w : World) (h : RsAt w b s) : Calls Try.prog 38 #[.pointer (some ⟨b, 0, none⟩)] w fun e w' => e = .returned (.bool (popS s).1) ∧ RsAt w' b (popS s).2 ∧ Kept w w' [b] := by
  have HS := Lib.hid h
  obtain ⟨ad, c, c0, hc, hrd, hadb, _, _, _, _⟩ := h.sl
  have hfz := h.froz 0
  have hf := h.fits
  have hbs := h.lt
  have hris := (near_pop h.ris).2.1
  unfold popS at hris ⊢
  clear h
  cases hR : s.R with
  | nil =>
    rw [hR] at c0
    rw [if_pos rfl]
    have HR := Lib.hid hR
    clear hR hris
    go_enter Try.func38, Try.ntmps38
    go_wp2
    go_ret
    exact ⟨rfl, HS.out, Kept.refl _ _⟩
  | cons x R =>
    rw [if_neg (by rw [hR]; simp)] at hris
    rw [if_neg (by simp)]
    rw [hR] at c0 hc hris hf
    simp only [List.length_cons, List.tail_cons] at c0 hc hris hf ⊢
    have hall : (cellsE s.all).take ((R.length + 1) * 3) = cellsE (s.bot :: R.reverse) := by
      rw [cellsE_take]
      congr 1
      unfold Stk.all
      rw [hR, List.reverse_cons, ← List.cons_append, List.take_append_of_le_length (by simp), List.take_of_length_le (by simp)]
    have hrd2 : Rd w 3 (some ad) (R.length + 1) (cellsE (s.bot :: R.reverse)) := by
      rw [← hall]
      refine ⟨by rw [List.length_take, hrd.1, hR, List.length_cons]; omega, fun _ => ?_⟩
      obtain ⟨ad', e, hlt, hcell⟩ := hrd.2 (by omega)
      refine ⟨ad', e, hlt, fun j u hu => hcell j u ?_⟩
      rw [List.getElem?_take] at hu
      split at hu
      · exact hu
      · cases hu
    have HR := Lib.hid hrd2
    have HO1 := Lib.hid (cellsE_one (s.bot :: R.reverse))
    have HRI := Lib.hid hris
    obtain ⟨n, hn⟩ : ∃ n, R.length + 1 = n := ⟨_, rfl⟩
    rw [hn] at c0 hc HR
    have HNN := Lib.hid hn
    have hn126 : n ≤ 126 := by omega
    have hn1 : 1 ≤ n := by omega
    have hd : decide ((n : Int) + 1 < 2) = false := decide_eq_false (by omega)
    have hn0 : (0 : Int) ≤ (n : Int) := by omega
    have hnc : (n : Int) ≤ (c : Int) := by omega
    have hsub : (n : Int) + 1 - 1 = (n : Int) := by omega
    have hwn : IntKind.i64.wrap (n : Int) = (n : Int) := by rw [IntKind.wrap_i64]; omega
    clear hR hris hall hrd hrd2 hn
    go_enter Try.func38, Try.ntmps38
    go_wp2_with fail
    go_region_law (first
      | (refine step_appR (by rfl) _ _ _ (by rfl) entSliceR (by decide) (.slice none 0 0) 0 [] (by rfl) (World.ownsRow_nil _ w.heap.size _ _) (some ad) n _ (cellsE (s.bot :: R.reverse)) (by rfl) (HR.out.below (Below.refl _ _).drew) HO1.out (by omega) (by unfold maxLen; omega) (by first | exact Nat.le_refl _ | simp) _ rfl ?_; intro v5 w5 hown5 hg5 hat5; simp only [Nat.zero_add, List.nil_append] at hown5; have hb5 : Below w.heap.size w w5 := (by first | exact (Below.refl _ _).drew.grown hg5 (Nat.le_refl _) (fun k hk => by cases hk)); obtain ⟨A5, k5, rfl, hk5⟩ := own_form hown5; have HO5 := Lib.hid hown5; have z0 := cell_below hb5 c0; have zf := (HS.out.low hb5).froz 0)
      | fail)
    all_goals (
      obtain ⟨g5, cap5, hv5, hbg5, hlt5⟩ := HO5.out.form (by omega)
      have hA5 : A5 = some ⟨g5, 0, none⟩ := by injection hv5
      subst hA5
      have hrd5 : Rd w5 3 (some ⟨g5, 0, none⟩) (R.length + 1) (cellsE (s.bot :: R.reverse)) := by
        rw [HNN.out]
        exact Rd.of_own HO5.out
      have hfin := (HS.out.low hb5).setL (c := k5) hrd5 (by rw [HNN.out]; exact hk5) (by omega) (by omega) (own_typ HO5.out) HRI.out
      rw [HNN.out] at hfin
      have HF := Lib.hid hfin
      have HK := Lib.hid ((Kept.of_below hb5 [b]).set (.inl (List.mem_singleton.2 rfl)) 0 (.slice (some ⟨g5, 0, none⟩) n k5))
      clear hfin hrd5 hown5 hv5 hg5 hat5
      go_wp2
      go_ret
      exact ⟨rfl, HF.out, HK.out⟩)
end Go.Proofs.Ytflbiblkphaagaa
