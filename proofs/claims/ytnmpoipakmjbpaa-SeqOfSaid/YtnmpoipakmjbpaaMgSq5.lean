/- Texts of one claim, one behind the other. -/
import Derived.Deep.QuietTactic
import Derived.Deep.DeepCutAuto
import Derived.Deep.CutBlock
import Derived.Laws.MakeOwn
import Derived.BigQuiet
import Derived.Test.YtnmpoipakmjbpaaMgSq1
import Derived.Test.YtnmpoipakmjbpaaMgSq2
import Derived.Test.YtnmpoipakmjbpaaMgSq3
import Derived.Test.YtnmpoipakmjbpaaMgSq4
/- The reference's Runs, walked. -/
namespace Go.Proofs.Ytnmpoipakmjbpaa
open Go.RowKit

def runsG (lv cl : List Int) : List (List Nat) := if lv.length = cl.length then runsF lv cl else []
theorem oneNil : ∀ u ∈ [Value.slice none 0 0], u.oneCell' = true := by
  intro u hu
  simp at hu
  subst hu
  rfl
theorem len_ls (w : World) (A : Option Addr) (n c : Nat) : (Builtin.len_ #[24] 3 #[.slice A n c]).run Try.prog w = .ok (.int .i64 (n : Int)) w := run_len_slice w _ _ A n c (by kernel_rfl)
set_option maxRecDepth 100000 in
set_option maxHeartbeats 8000000 in
theorem rqRuns_any (A B : Option Addr) (n c m d : Nat) (lv cl : List Int) (w : World) (hr : Rd w 1 A n (lv.map (Value.int .i64))) (hs : Rd w 1 B m (cl.map (Value.int .i64))) (hn : n ≤ 100000) (hm : m ≤ maxLen) : Calls Try.prog 10 #[.slice A n c, .slice B m d] w fun e w' => (∃ v Q, e = .returned v ∧ LsAt w' w.heap.size v Q (encR (runsG lv cl))) ∧ Below w.heap.size w w' := by
  unfold maxLen at hm
  have hll : lv.length = n := by simpa using hr.len1
  have hlc : cl.length = m := by simpa using hs.len1
  by_cases hnm : n = m
  · subst hnm
    have hG : runsG lv cl = (rnA lv cl n).1.reverse := by unfold runsG runsF; rw [if_pos (by omega), hll]
    rw [hG]
    have HLL := Lib.hid hll
    have HLC := Lib.hid hlc
    have HR := Lib.hid hr
    have HS := Lib.hid hs
    have HX0 := Lib.hid (LsAt.nil_ w w.heap.size)
    have hls := len_ls
    clear hr hs hG hll hlc
    go_enter Try.func10, Try.ntmps10
    go_wp2_with fail
    go_loopw [7, 5, 6] (fun i v la wr => ∃ k Q, k ≤ n ∧ i = .int .i64 ((k : Nat) : Int) ∧ la = .int .i64 (lastI (rnA lv cl k).2) ∧ LsAt wr w.heap.size v Q (encR (rnA lv cl k).1.reverse) ∧ Below w.heap.size w wr) (fun i _ _ _ => n - (intOf i).toNat)
    case atStart => exact ⟨0, [], Nat.zero_le _, rfl, rfl, HX0.out, Below.refl _ _⟩
    case round =>
      obtain ⟨k, Q, hk, rfl, rfl, hX, hB⟩ := hrel
      have HX := Lib.hid hX
      have HB := Lib.hid hB
      have hQl := hX.len
      unfold encR at hQl
      rw [List.length_map, List.length_reverse] at hQl
      obtain ⟨V, cv, rfl, hcv⟩ := own_form hX.own
      by_cases hlt : k < n
      · obtain ⟨x, hx⟩ : ∃ x, cl[k]? = some x := ⟨_, List.getElem?_eq_getElem (by rw [HLC.out]; exact hlt)⟩
        obtain ⟨bd, rfl, hbb, hbcell⟩ := (HS.out.below hB).at_ hlt
        have cx := hbcell _ (by rw [List.getElem?_map, hx]; rfl)
        obtain ⟨y, hy⟩ : ∃ y, lv[k]? = some y := ⟨_, List.getElem?_eq_getElem (by rw [HLL.out]; exact hlt)⟩
        obtain ⟨ad, rfl, hab, hcell⟩ := (HR.out.below hB).at_ hlt
        have cy := hcell _ (by rw [List.getElem?_map, hy]; rfl)
        have hxd : cl.getD k 0 = x := by rw [List.getD_eq_getElem?_getD, hx]; rfl
        have hyd : lv.getD k 0 = y := by rw [List.getD_eq_getElem?_getD, hy]; rfl
        have hkn : (k : Int) < (n : Int) := by omega
        have hk0 : (0 : Int) ≤ (k : Int) := by omega
        have hk5 : (k : Int) ≤ 100000 := by omega
        have HLf := Lib.hid (fun W => rxLeft_any x W)
        obtain ⟨lf, hlf⟩ : ∃ lf, leftC x = lf := ⟨_, rfl⟩
        obtain ⟨la, hla⟩ : ∃ la, lastI (rnA lv cl k).2 = la := ⟨_, rfl⟩
        have HLA := Lib.hid hla
        rw [hla]
        rw [hlf] at HLf
        cases lf with
        | true =>
          have HSK := Lib.hid (rn_skip (lv := lv) (cl := cl) (k := k) (by rw [hxd]; exact hlf))
          clear hcell hbcell hx hy hxd hyd hlf hla hX hB hQl
          go_wp2_with fail
          refine (HLf.out _).mono ?_
          rintro e w2 ⟨rfl, rfl⟩
          go_wp2_with fail
          go_roundw
          case rel => exact ⟨k + 1, Q, by omega, by go_num, by rw [HSK.out, HLA.out], by rw [HSK.out]; exact HX.out, HB.out⟩
          case measure => simp [intOf]; omega
        | false =>
          have hlf' : leftC (cl.getD k 0) = false := by rw [hxd]; exact hlf
          rcases rn_form lv cl k with hf | ⟨r, rs, l, hf, hlk, hrk, hrsk⟩
          · have hst := rn_none (lv := lv) hlf' hf
            have HSK := Lib.hid hst
            rw [hf] at HX hQl hla
            simp only at HX hQl hla
            have hla' : la = (-1) := hla.symm
            subst hla'
            obtain ⟨q, hq⟩ : ∃ q, Q.length = q := ⟨_, rfl⟩
            have HQ := Lib.hid hq
            have hqR : (([] : List (List Nat)).reverse).length = q := by rw [← hq, hQl]; simp
            have HQR := Lib.hid hqR
            have hq5 : q ≤ 100000 := by rw [← hqR]; simp
            rw [hq] at hcv HX ⊢
            have hqi : (0 : Int) ≤ (q : Int) := by omega
            have hqi5 : (q : Int) ≤ 100000 := by omega
            have hone := Lib.hid oneNil
            have HLEN : Hid (q + 1 = (Q ++ [Value.slice none 0 0]).length) := Lib.hid (by rw [List.length_append, hq]; rfl)
            have HROW : Hid ((encR (([] : List (List Nat)).reverse) ++ [[]])[q]? = some []) := Lib.hid (by
              rw [List.getElem?_append_right (by unfold encR; rw [List.length_map, hqR]; exact Nat.le_refl _)]
              unfold encR
              rw [List.length_map, hqR, Nat.sub_self]
              rfl)
            clear hcell hbcell hx hy hxd hyd hlf hlf' hla hX hB hQl hq hqR
            go_wp2_with fail
            refine (HLf.out _).mono ?_
            rintro e w2 ⟨rfl, rfl⟩
            go_wp2_with fail
            go_quiet (fail)
            have HXq := Lib.hid (HX.out.low (below_drewN (Below.refl _ _) nq))
            have HBq := Lib.hid (below_drewN HB.out nq)
            obtain ⟨W, hW⟩ : ∃ W, wr.drewN nq = W := ⟨_, rfl⟩
            rw [hW] at HXq HBq ⊢
            clear cx cy
            have HON : Hid (W.ownsRow w.heap.size 22 1 (.slice V q cv) q Q) := Lib.hid (by have := HXq.out.own; rwa [HQ.out] at this)
            go_upto_region 11 with (at_builtin; refine wpList_app rfl _ _ _ rfl lsSlice (by decide) (.slice V q cv) q Q rfl (HON.out.alloc _) ⟨W.heap.size, 0, none⟩ 1 1 [.slice none 0 0] rfl rfl (cells_new W [_] _) hone.out (by omega) (by unfold maxLen; omega) (by have := HBq.out.size; simp; omega) ?_; intro v1 w3 hown3 hg3 hat3; obtain ⟨A1, c1, rfl, hc1⟩ := own_form hown3)
            have hb3 := below_app (below_self HBq.out (below_new W (.cells #[.slice none 0 0] 22))) hg3 (HON.out.alloc _) (by have := HBq.out.size; simp; omega)
            have hX1 := (HXq.out.low (below_new W (.cells #[.slice none 0 0] 22))).addNil hg3 (by rw [HQ.out]; exact hown3)
            obtain ⟨g1, V1, k1, hA1, hgb1, d1, fz1, hk1, hQ1, ho1, hg1l⟩ := hX1.row (i := q) HLEN.out HROW.out
            subst hA1
            have HX1 := Lib.hid hX1
            have HB3 := Lib.hid hb3
            have HO1 := Lib.hid ho1
            have HQ1 := Lib.hid hQ1
            have hq1 : (q : Int) < (q : Int) + 1 := by omega
            clear hX1 hb3 ho1 hQ1 hown3 hg3 hat3
            obtain ⟨p, hp⟩ : ∃ p, (([] : List Int)).length = p := ⟨_, rfl⟩
            rw [hp] at d1 hk1 HO1 HQ1
            have hp5 : p ≤ 100000 := by rw [← hp]; simp
            have HPP := Lib.hid hp
            clear hp
            go_wp2_with (first
              | (at_builtin; go_loud (refine wpList_app rfl _ _ _ rfl intSliceM (by decide) (.slice V1 p k1) p _ rfl (HO1.out.alloc _) ⟨w3.heap.size, 0, none⟩ 1 1 [.int .i64 (k : Int)] rfl rfl (cells_new w3 [_] _) (oneInt _ _) (by omega) (by unfold maxLen; omega) (by have := HB3.out.size; simp; omega) ?_; intro v4 w4 hown4 hg4 hat4; obtain ⟨A4, c4, rfl, hc4⟩ := own_form hown4; have hXa := HX1.out.low (below_new w3 (.cells #[.int .i64 (k : Int)] 3)); have hOW := (hXa.own.kept hg4 (typ_ne hXa.own (HO1.out.alloc _) (by decide))); rw [← HLEN.out] at hOW; obtain ⟨⟨uu, cu⟩, fu⟩ := own_slot hOW (j := q) (by omega)))
              | fail)
            have hput := hXa.put HLEN.out HQ1.out HROW.out hg4 (ys := [(k : Int)]) (by rw [HPP.out]) (by rw [List.map_append]; exact hown4) (by simpa using hat4)
            have hb4 := below_app (below_self HB3.out (below_new w3 _)) hg4 (HO1.out.alloc _) (by have := HB3.out.size; simp; omega)
            have HPUT := Lib.hid hput
            have HB5 : Hid (Below w.heap.size w (w4.setCell ⟨g1, q, none⟩ (.slice A4 (p + 1) c4))) := Lib.hid (hb4.setCell (p := ⟨g1, q, none⟩) hgb1 _)
            clear hput hb4 hXa hOW hown4 hg4 hat4
            go_wp2_with fail
            go_roundw
            case rel => exact ⟨k + 1, _, by omega, by go_num, by rw [HSK.out]; rfl, by rw [HSK.out]; (rw [show ([[k]]).reverse = ([] : List (List Nat)).reverse ++ [[k]] from by simp, ← encR_new, HQR.out]; exact HPUT.out), HB5.out⟩
            case measure => simp [intOf]; omega
          · skip
            obtain ⟨z, hz⟩ : ∃ z, lv[l]? = some z := ⟨_, List.getElem?_eq_getElem (by rw [HLL.out]; omega)⟩
            have hzd : lv.getD l 0 = z := by rw [List.getD_eq_getElem?_getD, hz]; rfl
            obtain ⟨ad2, e2, _, hcell2⟩ := (HR.out.below HB.out).at_ (show l < n by omega)
            obtain rfl := Option.some.inj e2
            have cz := hcell2 _ (by rw [List.getElem?_map, hz]; rfl)
            clear hcell2
            have hln : (l : Int) < (n : Int) := by omega
            have hl0 : (0 : Int) ≤ (l : Int) := by omega
            have hln0 : decide ((l : Int) < 0) = false := by simp
            by_cases hzy : z = y
            · skip
              have hst := rn_more (lv := lv) hlf' hf (by rw [hzd, hyd]; exact hzy)
              subst hzy
              have gzz : (z != z) = false := by simp
              have HSK := Lib.hid hst
              rw [hf] at HX hQl hla
              simp only at HX hQl hla
              have hla' : la = (l : Int) := hla.symm
              subst hla'
              obtain ⟨q, hq⟩ : ∃ q, rs.length = q := ⟨_, rfl⟩
              have hQq : Q.length = q + 1 := by rw [hQl, List.length_cons, hq]
              have HRS := Lib.hid hq
              have hq5 : q ≤ 100000 := by omega
              rw [hQq] at hcv HX ⊢
              have hqi : (0 : Int) ≤ (q : Int) := by omega
              have hqi5 : (q : Int) ≤ 100000 := by omega
              have HLEN : Hid (q + 1 = Q.length) := Lib.hid hQq.symm
              have HROW : Hid ((encR (r :: rs).reverse)[q]? = some (encN r)) := Lib.hid (by
                unfold encR
                rw [List.reverse_cons, List.map_append, List.getElem?_append_right (by simp [hq]), List.length_map, List.length_reverse, hq, Nat.sub_self]
                rfl)
              clear hcell hbcell hx hy hxd hyd hlf hlf' hla hX hB hQl hq hz hzd hQq
              go_wp2_with fail
              refine (HLf.out _).mono ?_
              rintro e w2 ⟨rfl, rfl⟩
              go_wp2_with fail
              go_quiet (fail)
              have hX1 := HX.out.low (below_drewN (Below.refl _ _) nq)
              have hb3 := below_drewN HB.out nq
              obtain ⟨w3, hW⟩ : ∃ W, wr.drewN nq = W := ⟨_, rfl⟩
              rw [hW] at hX1 hb3 ⊢
              clear cx cy cz
              go_upto_region 11 with fail
              obtain ⟨g1, V1, k1, hA1, hgb1, d1, fz1, hk1, hQ1, ho1, hg1l⟩ := hX1.row (i := q) HLEN.out HROW.out
              subst hA1
              have HX1 := Lib.hid hX1
              have HB3 := Lib.hid hb3
              have HO1 := Lib.hid ho1
              have HQ1 := Lib.hid hQ1
              have hq1 : (q : Int) < (q : Int) + 1 := by omega
              clear hX1 hb3 ho1 hQ1 hW
              obtain ⟨p, hp⟩ : ∃ p, (encN r).length = p := ⟨_, rfl⟩
              rw [hp] at d1 hk1 HO1 HQ1
              have hp5 : p ≤ 100000 := by rw [← hp]; (unfold encN; rw [List.length_map]; omega)
              have HPP := Lib.hid hp
              clear hp
              go_wp2_with (first
                | (at_builtin; go_loud (refine wpList_app rfl _ _ _ rfl intSliceM (by decide) (.slice V1 p k1) p _ rfl (HO1.out.alloc _) ⟨w3.heap.size, 0, none⟩ 1 1 [.int .i64 (k : Int)] rfl rfl (cells_new w3 [_] _) (oneInt _ _) (by omega) (by unfold maxLen; omega) (by have := HB3.out.size; simp; omega) ?_; intro v4 w4 hown4 hg4 hat4; obtain ⟨A4, c4, rfl, hc4⟩ := own_form hown4; have hXa := HX1.out.low (below_new w3 (.cells #[.int .i64 (k : Int)] 3)); have hOW := (hXa.own.kept hg4 (typ_ne hXa.own (HO1.out.alloc _) (by decide))); rw [← HLEN.out] at hOW; obtain ⟨⟨uu, cu⟩, fu⟩ := own_slot hOW (j := q) (by omega)))
                | fail)
              have hput := hXa.put HLEN.out HQ1.out HROW.out hg4 (ys := [(k : Int)]) (by rw [HPP.out]) (by rw [List.map_append]; exact hown4) (by simpa using hat4)
              have hb4 := below_app (below_self HB3.out (below_new w3 _)) hg4 (HO1.out.alloc _) (by have := HB3.out.size; simp; omega)
              have HPUT := Lib.hid hput
              have HB5 : Hid (Below w.heap.size w (w4.setCell ⟨g1, q, none⟩ (.slice A4 (p + 1) c4))) := Lib.hid (hb4.setCell (p := ⟨g1, q, none⟩) hgb1 _)
              clear hput hb4 hXa hOW hown4 hg4 hat4
              go_wp2_with fail
              go_roundw
              case rel => exact ⟨k + 1, _, by omega, by go_num, by rw [HSK.out]; rfl, by rw [HSK.out]; (rw [show ((r ++ [k]) :: rs).reverse = rs.reverse ++ [r ++ [k]] from by simp, ← encR_more, List.length_reverse, HRS.out]; have h9 := HPUT.out; rw [List.reverse_cons] at h9; exact h9), HB5.out⟩
              case measure => simp [intOf]; omega
            · skip
              have hst := rn_new (lv := lv) hlf' hf (by rw [hzd, hyd]; exact hzy)
              have gzy : (z == y) = false := by simp [hzy]
              have gzy2 : (z != y) = true := by simp [hzy]
              have HSK := Lib.hid hst
              rw [hf] at HX hQl hla
              simp only at HX hQl hla
              have hla' : la = (l : Int) := hla.symm
              subst hla'
              obtain ⟨q, hq⟩ : ∃ q, Q.length = q := ⟨_, rfl⟩
              have HQ := Lib.hid hq
              have hqR : ((r :: rs).reverse).length = q := by rw [← hq, hQl]; simp
              have HQR := Lib.hid hqR
              have hq5 : q ≤ 100000 := by rw [← hqR]; simp; omega
              rw [hq] at hcv HX ⊢
              have hqi : (0 : Int) ≤ (q : Int) := by omega
              have hqi5 : (q : Int) ≤ 100000 := by omega
              have hone := Lib.hid oneNil
              have HLEN : Hid (q + 1 = (Q ++ [Value.slice none 0 0]).length) := Lib.hid (by rw [List.length_append, hq]; rfl)
              have HROW : Hid ((encR ((r :: rs).reverse) ++ [[]])[q]? = some []) := Lib.hid (by
                rw [List.getElem?_append_right (by unfold encR; rw [List.length_map, hqR]; exact Nat.le_refl _)]
                unfold encR
                rw [List.length_map, hqR, Nat.sub_self]
                rfl)
              clear hz hzd
              clear hcell hbcell hx hy hxd hyd hlf hlf' hla hX hB hQl hq hqR
              go_wp2_with fail
              refine (HLf.out _).mono ?_
              rintro e w2 ⟨rfl, rfl⟩
              go_wp2_with fail
              go_quiet (fail)
              have HXq := Lib.hid (HX.out.low (below_drewN (Below.refl _ _) nq))
              have HBq := Lib.hid (below_drewN HB.out nq)
              obtain ⟨W, hW⟩ : ∃ W, wr.drewN nq = W := ⟨_, rfl⟩
              rw [hW] at HXq HBq ⊢
              clear cx cy cz
              have HON : Hid (W.ownsRow w.heap.size 22 1 (.slice V q cv) q Q) := Lib.hid (by have := HXq.out.own; rwa [HQ.out] at this)
              go_upto_region 11 with (at_builtin; refine wpList_app rfl _ _ _ rfl lsSlice (by decide) (.slice V q cv) q Q rfl (HON.out.alloc _) ⟨W.heap.size, 0, none⟩ 1 1 [.slice none 0 0] rfl rfl (cells_new W [_] _) hone.out (by omega) (by unfold maxLen; omega) (by have := HBq.out.size; simp; omega) ?_; intro v1 w3 hown3 hg3 hat3; obtain ⟨A1, c1, rfl, hc1⟩ := own_form hown3)
              have hb3 := below_app (below_self HBq.out (below_new W (.cells #[.slice none 0 0] 22))) hg3 (HON.out.alloc _) (by have := HBq.out.size; simp; omega)
              have hX1 := (HXq.out.low (below_new W (.cells #[.slice none 0 0] 22))).addNil hg3 (by rw [HQ.out]; exact hown3)
              obtain ⟨g1, V1, k1, hA1, hgb1, d1, fz1, hk1, hQ1, ho1, hg1l⟩ := hX1.row (i := q) HLEN.out HROW.out
              subst hA1
              have HX1 := Lib.hid hX1
              have HB3 := Lib.hid hb3
              have HO1 := Lib.hid ho1
              have HQ1 := Lib.hid hQ1
              have hq1 : (q : Int) < (q : Int) + 1 := by omega
              clear hX1 hb3 ho1 hQ1 hown3 hg3 hat3
              obtain ⟨p, hp⟩ : ∃ p, (([] : List Int)).length = p := ⟨_, rfl⟩
              rw [hp] at d1 hk1 HO1 HQ1
              have hp5 : p ≤ 100000 := by rw [← hp]; simp
              have HPP := Lib.hid hp
              clear hp
              go_wp2_with (first
                | (at_builtin; go_loud (refine wpList_app rfl _ _ _ rfl intSliceM (by decide) (.slice V1 p k1) p _ rfl (HO1.out.alloc _) ⟨w3.heap.size, 0, none⟩ 1 1 [.int .i64 (k : Int)] rfl rfl (cells_new w3 [_] _) (oneInt _ _) (by omega) (by unfold maxLen; omega) (by have := HB3.out.size; simp; omega) ?_; intro v4 w4 hown4 hg4 hat4; obtain ⟨A4, c4, rfl, hc4⟩ := own_form hown4; have hXa := HX1.out.low (below_new w3 (.cells #[.int .i64 (k : Int)] 3)); have hOW := (hXa.own.kept hg4 (typ_ne hXa.own (HO1.out.alloc _) (by decide))); rw [← HLEN.out] at hOW; obtain ⟨⟨uu, cu⟩, fu⟩ := own_slot hOW (j := q) (by omega)))
                | fail)
              have hput := hXa.put HLEN.out HQ1.out HROW.out hg4 (ys := [(k : Int)]) (by rw [HPP.out]) (by rw [List.map_append]; exact hown4) (by simpa using hat4)
              have hb4 := below_app (below_self HB3.out (below_new w3 _)) hg4 (HO1.out.alloc _) (by have := HB3.out.size; simp; omega)
              have HPUT := Lib.hid hput
              have HB5 : Hid (Below w.heap.size w (w4.setCell ⟨g1, q, none⟩ (.slice A4 (p + 1) c4))) := Lib.hid (hb4.setCell (p := ⟨g1, q, none⟩) hgb1 _)
              clear hput hb4 hXa hOW hown4 hg4 hat4
              go_wp2_with fail
              go_roundw
              case rel => exact ⟨k + 1, _, by omega, by go_num, by rw [HSK.out]; rfl, by rw [HSK.out]; (rw [show ([k] :: r :: rs).reverse = (r :: rs).reverse ++ [[k]] from by simp, ← encR_new, HQR.out]; exact HPUT.out), HB5.out⟩
              case measure => simp [intOf]; omega
      · obtain rfl : k = n := by omega
        clear hX hB hQl
        go_wp2
        go_ret
        exact ⟨⟨_, Q, rfl, HX.out⟩, HB.out⟩
  · have hG : runsG lv cl = [] := by unfold runsG; rw [if_neg (by omega)]
    rw [hG]
    have gnm : ((n : Int) == (m : Int)) = false := by simp; omega
    have gnm2 : ((n : Int) != (m : Int)) = true := by simp; omega
    clear hr hs hll hlc hG
    go_enter Try.func10, Try.ntmps10
    go_wp2
    go_ret
    exact ⟨⟨_, [], rfl, LsAt.nil_ _ _⟩, Below.refl _ _⟩
end Go.Proofs.Ytnmpoipakmjbpaa
/- The reference's direction, begins, ahead, behind, walked. -/
namespace Go.Proofs.Ytnmpoipakmjbpaa
open Go.RowKit

/-- The direction of two levels. -/
def dirF (a b : Int) : Int := if max a b % 2 = 0 then 0 else 1
/-- The level of the last place ahead of p that is not left out. -/
def ahF (lv cl : List Int) (level : Int) : Nat → Int
  | 0 => level
  | k + 1 => if leftC (cl.getD k 0) = true then ahF lv cl level k else lv.getD k 0
/-- The level of the first place from p on that is not left out. -/
def bhF (lv cl : List Int) (level : Int) (p : Nat) : Int := match ((List.range lv.length).drop p).find? (fun i => !leftC (cl.getD i 0)) with
  | some i => lv.getD i 0
  | none => level
theorem bh_end {lv cl : List Int} {level : Int} {p : Nat} (h : lv.length ≤ p) : bhF lv cl level p = level := by
  unfold bhF
  rw [List.drop_of_length_le (by simpa using h)]
  rfl
theorem bh_step {lv cl : List Int} {level : Int} {p : Nat} (h : p < lv.length) : bhF lv cl level p = if leftC (cl.getD p 0) = true then bhF lv cl level (p + 1) else lv.getD p 0 := by
  have hd : (List.range lv.length).drop p = p :: (List.range lv.length).drop (p + 1) := by
    rw [List.drop_eq_getElem_cons (by simpa using h)]
    simp
  unfold bhF
  rw [hd, List.find?_cons]
  by_cases hl : leftC (cl.getD p 0) = true
  · simp only [hl, Bool.not_true, if_true]
  · have hl' : leftC (cl.getD p 0) = false := by simpa using hl
    simp only [hl', Bool.not_false, Bool.false_eq_true, if_false]
set_option maxRecDepth 100000 in
theorem rqDir_any (a b : Int) (w : World) : Calls Try.prog 30 #[.int .i64 a, .int .i64 b] w fun e w' => e = .returned (.int .i64 (dirF a b)) ∧ w = w' := by
  obtain ⟨M, hM⟩ : ∃ M, max a b = M := ⟨_, rfl⟩
  unfold dirF
  rw [hM]
  have hmx : (if a < b then b else a) = M := by rw [← hM]; split <;> omega
  have ht : Int.tmod M 2 = 0 ↔ M % 2 = 0 := by
    constructor
    · intro h
      have := Int.dvd_of_tmod_eq_zero h
      omega
    · intro h
      exact Int.tmod_eq_zero_of_dvd (by omega)
  obtain ⟨y, hy⟩ : ∃ y, Int.tmod M 2 = y := ⟨_, rfl⟩
  rw [hy] at ht
  clear hM
  by_cases h0 : M % 2 = 0
  · rw [if_pos h0]
    have hy0 : y = 0 := ht.2 h0
    subst hy0
    clear ht h0
    go_enter Try.func30, Try.ntmps30
    go_wp2
    go_ret
    exact ⟨rfl, rfl⟩
  · rw [if_neg h0]
    have hy0 : ¬ y = 0 := fun e => h0 (ht.1 e)
    have gy : (y == 0) = false := by simp [hy0]
    have gy2 : (y != 0) = true := by simp [hy0]
    clear ht h0
    go_enter Try.func30, Try.ntmps30
    go_wp2
    go_ret
    exact ⟨rfl, rfl⟩
set_option maxRecDepth 100000 in
set_option maxHeartbeats 2000000 in
theorem rqAhead_any (A B : Option Addr) (n c d p : Nat) (lv cl : List Int) (level : Int) (w : World) (hr : Rd w 1 A n (lv.map (Value.int .i64))) (hs : Rd w 1 B n (cl.map (Value.int .i64))) (hp : p ≤ n) (hn : n ≤ 100000) : Calls Try.prog 31 #[.slice A n c, .slice B n d, .int .i64 (p : Int), .int .i64 level] w fun e w' => e = .returned (.int .i64 (ahF lv cl level p)) ∧ w = w' := by
  have hll : lv.length = n := by simpa using hr.len1
  have hlc : cl.length = n := by simpa using hs.len1
  have HLL := Lib.hid hll
  have HLC := Lib.hid hlc
  have HR := Lib.hid hr
  have HS := Lib.hid hs
  have hp5 : (p : Int) ≤ 100000 := by omega
  have hp0 : (0 : Int) ≤ (p : Int) := by omega
  clear hr hs hll hlc
  go_enter Try.func31, Try.ntmps31
  go_wp2_with fail
  go_loopw [9] (fun i wr => ∃ k : Nat, k ≤ p ∧ i = .int .i64 ((k : Int) - 1) ∧ ahF lv cl level k = ahF lv cl level p ∧ wr = w) (fun i _ => (intOf i + 1).toNat)
  case atStart => exact ⟨p, Nat.le_refl _, by go_num, rfl, rfl⟩
  case round =>
    obtain ⟨k, hk, rfl, he, rfl⟩ := hrel
    have HE := Lib.hid he
    clear he
    cases k with
    | zero =>
      rw [ahF] at HE
      go_wp2_with fail
      go_ret
      exact ⟨retI HE.out, rfl⟩
    | succ k =>
      have hk1 : (((k + 1 : Nat) : Int) - 1) = (k : Int) := by omega
      rw [hk1]
      obtain ⟨x, hx⟩ : ∃ x, cl[k]? = some x := ⟨_, List.getElem?_eq_getElem (by rw [HLC.out]; omega)⟩
      obtain ⟨bd, rfl, _, hbcell⟩ := HS.out.at_ (show k < n by omega)
      have cx := hbcell _ (by rw [List.getElem?_map, hx]; rfl)
      obtain ⟨y, hy⟩ : ∃ y, lv[k]? = some y := ⟨_, List.getElem?_eq_getElem (by rw [HLL.out]; omega)⟩
      obtain ⟨ad, rfl, _, hcell⟩ := HR.out.at_ (show k < n by omega)
      have cy := hcell _ (by rw [List.getElem?_map, hy]; rfl)
      have hxd : cl.getD k 0 = x := by rw [List.getD_eq_getElem?_getD, hx]; rfl
      have hyd : lv.getD k 0 = y := by rw [List.getD_eq_getElem?_getD, hy]; rfl
      rw [ahF, hxd, hyd] at HE
      have hkn : (k : Int) < (n : Int) := by omega
      have hk0 : (0 : Int) ≤ (k : Int) := by omega
      have hk5 : (k : Int) ≤ 100000 := by omega
      have HLf := Lib.hid (fun W => rxLeft_any x W)
      obtain ⟨lf, hlf⟩ : ∃ lf, leftC x = lf := ⟨_, rfl⟩
      rw [hlf] at HLf HE
      clear hcell hbcell hx hy hxd hyd hlf hk1
      cases lf with
      | true =>
        rw [if_pos rfl] at HE
        go_wp2_with fail
        refine (HLf.out _).mono ?_
        rintro e w2 ⟨rfl, rfl⟩
        go_wp2_with fail
        go_roundw
        case rel => exact ⟨k, by omega, by go_num, HE.out, by first | rfl | trivial⟩
        case measure => simp [intOf]
      | false =>
        rw [if_neg (by decide)] at HE
        go_wp2_with fail
        refine (HLf.out _).mono ?_
        rintro e w2 ⟨rfl, rfl⟩
        go_wp2_with fail
        go_ret
        exact ⟨retI HE.out, rfl⟩
set_option maxRecDepth 100000 in
set_option maxHeartbeats 2000000 in
theorem rqBehind_any (A B : Option Addr) (n c d p : Nat) (lv cl : List Int) (level : Int) (w : World) (hr : Rd w 1 A n (lv.map (Value.int .i64))) (hs : Rd w 1 B n (cl.map (Value.int .i64))) (hp : p < n) (hn : n ≤ 100000) : Calls Try.prog 32 #[.slice A n c, .slice B n d, .int .i64 (p : Int), .int .i64 level] w fun e w' => e = .returned (.int .i64 (bhF lv cl level (p + 1))) ∧ w = w' := by
  have hll : lv.length = n := by simpa using hr.len1
  have hlc : cl.length = n := by simpa using hs.len1
  have HLL := Lib.hid hll
  have HLC := Lib.hid hlc
  have HR := Lib.hid hr
  have HS := Lib.hid hs
  have hp5 : (p : Int) ≤ 100000 := by omega
  have hp0 : (0 : Int) ≤ (p : Int) := by omega
  clear hr hs hll hlc
  go_enter Try.func32, Try.ntmps32
  go_wp2_with fail
  go_loopw [9] (fun i wr => ∃ k : Nat, k ≤ n ∧ i = .int .i64 (k : Int) ∧ bhF lv cl level k = bhF lv cl level (p + 1) ∧ wr = w) (fun i _ => n - (intOf i).toNat)
  case atStart => exact ⟨p + 1, by omega, by go_num, rfl, rfl⟩
  case round =>
    obtain ⟨k, hk, rfl, he, rfl⟩ := hrel
    have HE := Lib.hid he
    clear he
    by_cases hlt : k < n
    · obtain ⟨x, hx⟩ : ∃ x, cl[k]? = some x := ⟨_, List.getElem?_eq_getElem (by rw [HLC.out]; omega)⟩
      obtain ⟨bd, rfl, _, hbcell⟩ := HS.out.at_ hlt
      have cx := hbcell _ (by rw [List.getElem?_map, hx]; rfl)
      obtain ⟨y, hy⟩ : ∃ y, lv[k]? = some y := ⟨_, List.getElem?_eq_getElem (by rw [HLL.out]; omega)⟩
      obtain ⟨ad, rfl, _, hcell⟩ := HR.out.at_ hlt
      have cy := hcell _ (by rw [List.getElem?_map, hy]; rfl)
      have hxd : cl.getD k 0 = x := by rw [List.getD_eq_getElem?_getD, hx]; rfl
      have hyd : lv.getD k 0 = y := by rw [List.getD_eq_getElem?_getD, hy]; rfl
      rw [bh_step (by rw [HLL.out]; exact hlt), hxd, hyd] at HE
      have hkn : (k : Int) < (n : Int) := by omega
      have hk0 : (0 : Int) ≤ (k : Int) := by omega
      have hk5 : (k : Int) ≤ 100000 := by omega
      have HLf := Lib.hid (fun W => rxLeft_any x W)
      obtain ⟨lf, hlf⟩ : ∃ lf, leftC x = lf := ⟨_, rfl⟩
      rw [hlf] at HLf HE
      clear hcell hbcell hx hy hxd hyd hlf
      cases lf with
      | true =>
        rw [if_pos rfl] at HE
        go_wp2_with fail
        refine (HLf.out _).mono ?_
        rintro e w2 ⟨rfl, rfl⟩
        go_wp2_with fail
        go_roundw
        case rel => exact ⟨k + 1, by omega, by go_num, HE.out, by first | rfl | trivial⟩
        case measure => simp [intOf]; omega
      | false =>
        rw [if_neg (by decide)] at HE
        go_wp2_with fail
        refine (HLf.out _).mono ?_
        rintro e w2 ⟨rfl, rfl⟩
        go_wp2_with fail
        go_ret
        exact ⟨retI HE.out, rfl⟩
    · rw [bh_end (by rw [HLL.out]; omega)] at HE
      obtain rfl : k = n := by omega
      go_wp2_with fail
      go_ret
      exact ⟨retI HE.out, rfl⟩
set_option maxRecDepth 100000 in
set_option maxHeartbeats 2000000 in
/-- Which run begins with a place. -/
theorem rqBegins_any (base c : Nat) (A : Option Addr) (Q : List Value) (R : List (List Nat)) (p : Nat) (w : World) (h : LsAt w base (.slice A R.length c) Q (encR R)) (hne : ∀ r ∈ R, r ≠ []) (hn : R.length ≤ 100000) : Calls Try.prog 29 #[.slice A R.length c, .int .i64 (p : Int)] w fun e w' => e = .returned (.int .i64 (lastI (begF R p))) ∧ w = w' := by
  have HX := Lib.hid h
  have hQl : Q.length = R.length := by have := h.len; unfold encR at this; rwa [List.length_map] at this
  have HQ := Lib.hid hQl
  have HNE := Lib.hid hne
  obtain ⟨n, hnn⟩ : ∃ n, R.length = n := ⟨_, rfl⟩
  rw [hnn] at hn HX ⊢
  have HN := Lib.hid hnn
  have hls := len_ls
  clear h hne hQl hnn
  go_enter Try.func29, Try.ntmps29
  go_wp2_with fail
  go_loopw [5] (fun i wr => ∃ k : Nat, k ≤ n ∧ i = .int .i64 (k : Int) ∧ (∀ r ∈ R.take k, r.head? ≠ some p) ∧ wr = w) (fun i _ => n - (intOf i).toNat)
  case atStart => exact ⟨0, Nat.zero_le _, rfl, by simp, rfl⟩
  case round =>
    obtain ⟨k, hk, rfl, hb, rfl⟩ := hrel
    have HB := Lib.hid hb
    clear hb
    by_cases hlt : k < n
    · obtain ⟨r, hr⟩ : ∃ r, R[k]? = some r := ⟨_, List.getElem?_eq_getElem (by rw [HN.out]; exact hlt)⟩
      have hrne := HNE.out r (List.mem_of_getElem? hr)
      obtain ⟨a, r', rfl⟩ : ∃ a r', r = a :: r' := by
        cases r with
        | nil => exact absurd rfl hrne
        | cons a r' => exact ⟨a, r', rfl⟩
      have hre : (encR R)[k]? = some (encN (a :: r')) := by unfold encR; rw [List.getElem?_map, hr]; rfl
      obtain ⟨g, V, kk, rfl, _, c0, _, hkk, _, ho, hg⟩ := HX.out.row (by rw [HQ.out, HN.out]) hre
      obtain ⟨m, hm⟩ : ∃ m, (encN (a :: r')).length = m := ⟨_, rfl⟩
      have hm1 : 0 < m := by rw [← hm]; simp [encN]
      rw [hm] at c0 ho
      obtain ⟨vd, rfl, _, hvcell⟩ := (Rd.of_own ho).at_ hm1
      have cv := hvcell (.int .i64 (a : Int)) rfl
      have hm1' : (0 : Int) < (m : Int) := by omega
      have hkn : (k : Int) < (n : Int) := by omega
      have hk0 : (0 : Int) ≤ (k : Int) := by omega
      have hk5 : (k : Int) ≤ 100000 := by omega
      have hadd : vd.add 0 = vd := by unfold Addr.add; simp
      rw [hadd] at cv
      clear hadd
      have HRK := Lib.hid hr
      have hgz : g < wr.heap.size := hg
      clear hvcell hre hrne ho hm hr
      by_cases hap : a = p
      · subst hap
        have HF : Hid (begF R a = some k) := Lib.hid (by
          unfold begF
          rw [List.findIdx?_eq_some_iff_getElem]
          refine ⟨by rw [HN.out]; exact hlt, ?_, fun j hj => ?_⟩
          · have := List.getElem?_eq_some_iff.1 HRK.out
            obtain ⟨h1, h2⟩ := this
            rw [h2]
            simp
          · have hjn : j < R.length := by rw [HN.out]; omega
            have := HB.out R[j] (List.mem_of_getElem? (i := j) (by rw [List.getElem?_take, if_pos hj, List.getElem?_eq_getElem hjn]))
            simpa using this)
        have gaa : ((a : Int) == (a : Int)) = true := by simp
        go_wp2_with fail
        go_ret
        exact ⟨by rw [HF.out]; rfl, rfl⟩
      · have gap : ((a : Int) == (p : Int)) = false := by simp; omega
        have HB2 : Hid (∀ r ∈ R.take (k + 1), r.head? ≠ some p) := Lib.hid (by
          intro r hr
          rw [List.take_add_one, HRK.out] at hr
          rcases List.mem_append.1 hr with h | h
          · exact HB.out r h
          · simp at h
            subst h
            simp [hap])
        clear hap
        go_wp2_with fail
        go_roundw
        case rel => exact ⟨k + 1, by omega, by go_num, HB2.out, by first | rfl | trivial⟩
        case measure => simp [intOf]; omega
    · have HF : Hid (begF R p = none) := Lib.hid (by
        unfold begF
        rw [List.findIdx?_eq_none_iff]
        intro r hr
        have := HB.out r (by rw [List.take_of_length_le (by rw [HN.out]; omega)]; exact hr)
        simpa using this)
      obtain rfl : k = n := by omega
      go_wp2_with fail
      go_ret
      exact ⟨by rw [HF.out]; rfl, rfl⟩
end Go.Proofs.Ytnmpoipakmjbpaa
/- The reference's Sequences: what it answers, as mathematics; what lies in memory meanwhile. -/
namespace Go.Proofs.Ytnmpoipakmjbpaa
open Go.RowKit

/-- A sequence: its places, level, sos, eos. -/
structure SqE where
  at_ : List Nat
  lev : Int
  sos : Int
  eos : Int
/-- The sequence of some places. -/
def sqAns (lv cl bf mt : List Int) (level : Int) (P : List Nat) : SqE :=
  let f := P.headD 0
  let l := P.getLastD 0
  ⟨P, lv.getD f 0, dirF (lv.getD f 0) (ahF lv cl level f), if opB (bf.getD l 0) = true ∧ mt.getD l 0 = bf.length then dirF (lv.getD l 0) level else dirF (lv.getD l 0) (bhF lv cl level (l + 1))⟩
/-- The sequences of the first i runs. -/
def seqsF (lv cl bf : List Int) (level : Int) (i : Nat) : List SqE := (sqF (runsG lv cl) bf (matF bf) i).1.map fun ks => sqAns lv cl bf (matF bf) level (placesF (runsG lv cl) ks)
/-- Which runs are used. -/
def usedL (U : List Nat) (N : Nat) : List Bool := (List.range N).map fun j => decide (j ∈ U)
theorem usedL_len (U : List Nat) (N : Nat) : (usedL U N).length = N := by simp [usedL]
theorem usedL_at {U : List Nat} {N j : Nat} (h : j < N) : (usedL U N)[j]? = some (decide (j ∈ U)) := by simp [usedL, h]
theorem usedL_nil (N : Nat) : usedL [] N = List.replicate N false := by
  apply List.ext_getElem <;> simp [usedL]
theorem usedL_set {U : List Nat} {N k : Nat} : (usedL U N).set k true = usedL (U ++ [k]) N := by
  apply List.ext_getElem
  · simp [usedL]
  · intro i h1 h2
    simp [usedL, List.getElem_set]
    by_cases e : k = i
    · simp [e]
    · have e' : ¬ i = k := fun h => e h.symm
      simp [e, e']
theorem placesF_snoc (R : List (List Nat)) (ks : List Nat) (k : Nat) : placesF R (ks ++ [k]) = placesF R ks ++ R.getD k [] := by unfold placesF; simp
theorem encN_app (a b : List Nat) : encN (a ++ b) = encN a ++ encN b := by simp [encN]
/-- A sequence as it lies: its places' slice. -/
structure SqO where
  V : Value
  e : SqE
def cQ (o : SqO) : List Value := [o.V, .int .i64 o.e.lev, .int .i64 o.e.sos, .int .i64 o.e.eos]
/-- The sequences so far, in memory. -/
structure OsAt (w : World) (B : Nat) (vo : Value) (O : List SqO) : Prop where
  own : w.ownsRow B 44 4 vo O.length (O.flatMap cQ)
  rows : ∀ o ∈ O, w.ownsRow B 3 1 o.V o.e.at_.length ((encN o.e.at_).map (Value.int .i64))
theorem seqSlice : SliceOf Try.prog 31 44 4 48 := .mk_ (z := .agg #[.slice none 0 0, .int .i64 0, .int .i64 0, .int .i64 0]) Try.underlying31 (by kernel_rfl) rfl
section
variable {w w' : World} {B : Nat} {vo v : Value} {O : List SqO}
theorem OsAt.nil_ (w : World) (B : Nat) : OsAt w B (.slice none 0 0) [] := ⟨⟨rfl, .inl ⟨rfl, rfl⟩⟩, by simp⟩
theorem OsAt.low (h : OsAt w B vo O) (hb : Below w.heap.size w w') : OsAt w' B vo O := ⟨own_below h.own hb, fun o ho => own_below (h.rows o ho) hb⟩
/-- Writes to a block of another type. -/
theorem OsAt.kept {g : Nat} {t : TypeId} {cs : Array Value} (h : OsAt w B vo O) (hk : Kept w w' [g]) (hg : w.heap[g]? = some (.cells cs t (0, 0))) (h1 : t ≠ 44) (h2 : t ≠ 3) : OsAt w' B vo O := by
  have typ : ∀ {e : TypeId} {size n : Nat} {v : Value} {xs : List Value}, t ≠ e → w.ownsRow B e size v n xs → w'.ownsRow B e size v n xs := fun hne ho =>
    ⟨ho.1, ho.2.imp id fun ⟨x, cap, cur, e1, hb, hx, r⟩ => ⟨x, cap, cur, e1, hb, hk.heap hx (fun hm => by
      rw [List.mem_singleton] at hm
      subst hm
      rw [hg] at hx
      simp only [Option.some.injEq, Obj.cells.injEq] at hx
      exact hne hx.2.1), r⟩⟩
  exact ⟨typ h1 h.own, fun o ho => typ h2 (h.rows o ho)⟩
/-- A sequence more. -/
theorem OsAt.push {o : SqO} (h : OsAt w B vo O) (hg : w.grownBy w' vo.ownBlock) (ho : w'.ownsRow B 44 4 v (O.length + 1) (O.flatMap cQ ++ cQ o)) (hr : w.ownsRow B 3 1 o.V o.e.at_.length ((encN o.e.at_).map (Value.int .i64))) : OsAt w' B v (O ++ [o]) := by
  refine ⟨by simpa using ho, fun x hx => ?_⟩
  rcases List.mem_append.1 hx with hx | hx
  · exact (h.rows x hx).kept hg (typ_ne (h.rows x hx) h.own (by decide))
  · rw [List.mem_singleton] at hx
    subst hx
    exact hr.kept hg (typ_ne hr h.own (by decide))
/-- Writes to new blocks, and to one, are writes to that one. -/
theorem Kept.grownN {a b c : World} {S : List Nat} {row : Option Nat} (h : Kept a b S) (hg : b.grownBy c row) (hr : ∀ x, row = some x → a.heap.size ≤ x) : Kept a c S :=
  ⟨hg.os.trans h.os, hg.tape.trans h.tape, hg.output.trans h.output, Nat.le_trans h.size hg.size, fun i hi hn => (hg.block i (Nat.lt_of_lt_of_le hi h.size) (fun e => by have := hr i e.symm; omega)).trans (h.block i hi hn)⟩
end
end Go.Proofs.Ytnmpoipakmjbpaa
/- The reference's Sequences: what lies in memory while one sequence is gathered. -/
namespace Go.Proofs.Ytnmpoipakmjbpaa
open Go.RowKit

theorem mk_boolsQ (n : Nat) (hn : n ≤ 100000000) (w : World) : (Instr.makeSlice 53 (.int .i64 (n : Int)) (.int .i64 (n : Int))).run Try.prog w = .ok (.slice (some ⟨w.heap.size, 0, none⟩) n n) (w.alloc (.cells (Array.replicate n (Value.bool false)) 4)) := by
  have hin : (Try.prog.info? 4).map (fun i => (i.zero, i.size, i.bytes)) = some (some (.bool false), 1, 1) := by kernel_rfl
  obtain ⟨i, h1, h2, h3, h4⟩ := info_parts hin
  have h := run_make (P := Try.prog) w 53 4 i (.bool false) Try.underlying53 h1 h2 .i64 .i64 n n (by omega) (Int.le_refl _) (by rw [h4]; omega) (by omega)
  rw [h3] at h
  simp only [Int.toNat_natCast, Nat.mul_one] at h
  rw [h]
  refine congrArg (fun c => Result.ok _ (w.alloc (.cells c _))) ?_
  apply Array.toList_inj.1
  rw [show (Value.bool false).cells = #[.bool false] from rfl, toList_madeCells_one]
  simp
/-- One sequence being gathered: gu the flags, bs the sequence; V the runs used, P its places. -/
structure InAt (wi w : World) (gu bs N : Nat) (V P : List Nat) (u : Value) : Prop where
  used : w.heap[gu]? = some (.cells ((usedL V N).map Value.bool).toArray 4 (0, 0))
  box : w.heap[bs]? = some (.cells #[u, .int .i64 0, .int .i64 0, .int .i64 0] 44 (0, 0))
  at_ : w.ownsRow wi.heap.size 3 1 u P.length ((encN P).map (Value.int .i64))
  kept : Kept wi w [gu]
  hgu : gu < wi.heap.size
  hbs : wi.heap.size ≤ bs
section
variable {wi w w' : World} {gu bs N k : Nat} {V P : List Nat} {u u' : Value}
theorem InAt.low (h : InAt wi w gu bs N V P u) (hb : Below w.heap.size w w') : InAt wi w' gu bs N V P u :=
  ⟨(hb.block _ (hp_lt h.used)).trans h.used, (hb.block _ (hp_lt h.box)).trans h.box, own_below h.at_ hb, h.kept.trans (Kept.of_below hb _), h.hgu, h.hbs⟩
theorem InAt.flag (h : InAt wi w gu bs N V P u) (hk : k < N) : w.cell? ⟨gu, k, none⟩ = some (.bool (decide (k ∈ V))) ∧ w.frozen? ⟨gu, k, none⟩ = false :=
  ⟨hp_cell h.used (by rw [List.getElem?_toArray, List.getElem?_map, usedL_at hk]; rfl), hp_froz h.used k⟩
theorem InAt.mark (h : InAt wi w gu bs N V P u) : InAt wi (w.setCell ⟨gu, k, none⟩ (.bool true)) gu bs N (V ++ [k]) P u := by
  have hne : bs ≠ gu := by have := h.hgu; have := h.hbs; omega
  have e : ((usedL V N).map Value.bool).toArray.setIfInBounds k (.bool true) = ((usedL (V ++ [k]) N).map Value.bool).toArray := by
    rw [List.setIfInBounds_toArray, show (Value.bool true) = Value.bool true from rfl, ← List.map_set, usedL_set]
  refine ⟨by rw [heap_setCell_same w gu k _ _ _ h.used, e], by rw [hp_far hne]; exact h.box, own_set_far h.at_ (fun e => ?_), h.kept.set (.inl (List.mem_singleton.2 rfl)) _ _, h.hgu, h.hbs⟩
  have := (h.at_.lt gu e).1
  have := h.hgu
  omega
theorem InAt.app {Q : List Nat} {m : Nat} (h : InAt wi w gu bs N V P u) (hg : w.grownBy w' u.ownBlock) (hm : m = P.length + Q.length) (ho : w'.ownsRow wi.heap.size 3 1 u' m ((encN P).map (Value.int .i64) ++ (encN Q).map (Value.int .i64))) : InAt wi (w'.setCell ⟨bs, 0, none⟩ u') gu bs N V (P ++ Q) u' ∧ w'.heap[bs]? = some (.cells #[u, .int .i64 0, .int .i64 0, .int .i64 0] 44 (0, 0)) := by
  have n1 : u.ownBlock ≠ some gu := fun e => by
    have := (h.at_.lt gu e).1
    have := h.hgu
    omega
  have n2 : u.ownBlock ≠ some bs := fun e => by
    obtain ⟨cs, h9⟩ := own_row h.at_ bs e
    rw [h.box] at h9
    cases h9
  have hne : gu ≠ bs := by have := h.hgu; have := h.hbs; omega
  have hb' := blk_grown h.box hg n2
  have ho' : w'.ownsRow wi.heap.size 3 1 u' (P ++ Q).length ((encN (P ++ Q)).map (Value.int .i64)) := by
    rw [List.length_append, ← hm, encN_app, List.map_append]
    exact ho
  refine ⟨⟨by rw [hp_far hne]; exact blk_grown h.used hg n1, ?_, own_set_far ho' (fun e => ?_), (h.kept.grownN hg (fun x e => (h.at_.lt x e).1)).set (.inr h.hbs) _ _, h.hgu, h.hbs⟩, hb'⟩
  · rw [heap_setCell_same w' bs 0 _ _ _ hb']
    rfl
  · obtain ⟨cs, h9⟩ := own_row ho' bs e
    rw [hb'] at h9
    cases h9
end
end Go.Proofs.Ytnmpoipakmjbpaa
/- The reference's Sequences: the steps of one sequence, as mathematics. -/
namespace Go.Proofs.Ytnmpoipakmjbpaa
open Go.RowKit

section
variable {R : List (List Nat)} {bf mt : List Int}
theorem ch_none (f : Nat) (u : List Nat) : chF R bf mt f none u = u := by cases f <;> rw [chF]
theorem ch_used {f k : Nat} {u : List Nat} (h : k ∈ u) : chF R bf mt f (some k) u = u := by
  cases f with
  | zero => rw [chF]
  | succ f => rw [chF, if_pos h]
theorem ch_more {f k : Nat} {u : List Nat} (h : k ∉ u) : chF R bf mt (f + 1) (some k) u = chF R bf mt f (nxF R bf mt k) (u ++ [k]) := by rw [chF, if_neg h]
/-- Where the chain stops, nothing is added. -/
theorem ch_stop {f : Nat} {ko : Option Nat} {u : List Nat} (h : ¬ ∃ k, ko = some k ∧ k ∉ u) : chF R bf mt f ko u = u := by
  cases ko with
  | none => exact ch_none f u
  | some k => exact ch_used (Classical.not_not.1 fun hk => h ⟨k, rfl, hk⟩)
theorem nodup_snoc {u : List Nat} {k : Nat} (h : u.Nodup) (hk : k ∉ u) : (u ++ [k]).Nodup := by
  rw [List.nodup_append]
  refine ⟨h, by simp, ?_⟩
  intro x hx y hy
  rw [List.mem_singleton] at hy
  subst hy
  exact fun e => hk (e ▸ hx)
/-- There is a run more, so there is a round more. -/
theorem fuel_pos {f k N : Nat} {u : List Nat} (h : u.Nodup) (hb : ∀ x ∈ u, x < N) (hk : k ∉ u) (hkN : k < N) (hf : N < f + u.length) : 0 < f := by
  have h1 := nodup_snoc h hk
  have h2 : (u ++ [k]).length ≤ (List.range N).length := h1.length_le_of_subset (fun x hx => by
    rw [List.mem_range]
    rcases List.mem_append.1 hx with hx | hx
    · exact hb x hx
    · rw [List.mem_singleton] at hx; rw [hx]; exact hkN)
  simp at h2
  omega
theorem nx_of {k la : Nat} {r : List Nat} (hr : R[k]? = some r) (hl : r.getLast? = some la) : nxF R bf mt k = if opB (bf.getD la 0) = true ∧ mt.getD la 0 < bf.length then begF R (mt.getD la 0).toNat else none := by
  unfold nxF
  rw [List.getD_eq_getElem?_getD, hr, Option.getD_some, hl]
theorem getD_of {R : List (List Nat)} {k : Nat} {r : List Nat} (hr : R[k]? = some r) : R.getD k [] = r := by rw [List.getD_eq_getElem?_getD, hr]; rfl
theorem placesF_more {k : Nat} {ks r : List Nat} (hr : R[k]? = some r) : placesF R (ks ++ [k]) = placesF R ks ++ r := by rw [placesF_snoc, getD_of hr]
/-- Where an opening place is matched. -/
theorem mat_open {xs : List Int} {i : Nat} {x : Int} (hx : xs[i]? = some x) (ho : opB x = true) : ∃ p : Nat, (matF xs)[i]? = some ((p : Nat) : Int) := ⟨_, (matF_good xs).op i (by unfold OpAt; rw [hx]; simp [ho])⟩
theorem oneEnc (r : List Nat) : ∀ u ∈ (encN r).map (Value.int .i64), u.oneCell' = true := by
  intro u hu
  obtain ⟨x, _, rfl⟩ := List.mem_map.1 hu
  rfl
theorem enc_last {P : List Nat} {r : List Nat} {la q : Nat} (hl : r.getLast? = some la) (hq : P.length + r.length = q + 1) : ((encN (P ++ r)).map (Value.int .i64))[q]? = some (.int .i64 (la : Int)) := by
  have h1 : (P ++ r)[q]? = some la := by
    have hr : r ≠ [] := fun e => by rw [e] at hl; simp at hl
    have h2 : (P ++ r).getLast? = some la := by rw [List.getLast?_append, hl]; rfl
    rw [List.getLast?_eq_getElem?, List.length_append, hq] at h2
    exact h2
  unfold encN
  rw [List.getElem?_map, List.getElem?_map, h1]
  rfl
/-- No more places in some runs than in all. -/
theorem places_len {V : List Nat} (h : V.Nodup) (hb : ∀ x ∈ V, x < R.length) : (placesF R V).length ≤ R.flatten.length := by
  have hp : (V ++ (List.range R.length).filter (fun x => decide (x ∉ V))).Perm (List.range R.length) := by
    refine (List.perm_ext_iff_of_nodup ?_ List.nodup_range).2 fun a => ?_
    · rw [List.nodup_append]
      refine ⟨h, List.nodup_range.filter _, fun x hx y hy e => ?_⟩
      have := (List.mem_filter.1 hy).2
      simp at this
      exact this (e ▸ hx)
    · rw [List.mem_append, List.mem_filter, List.mem_range]
      simp only [decide_eq_true_eq]
      constructor
      · rintro (h1 | h1)
        · exact hb a h1
        · exact h1.1
      · intro h1
        by_cases e : a ∈ V
        · exact .inl e
        · exact .inr ⟨h1, e⟩
  have e2 : placesF R (List.range R.length) = R.flatten := by
    unfold placesF
    rw [List.flatMap_def]
    congr 1
    refine List.ext_getElem? fun i => ?_
    rw [List.getElem?_map]
    by_cases hi : i < R.length
    · rw [List.getElem?_range hi, Option.map_some, List.getD_eq_getElem?_getD, List.getElem?_eq_getElem hi, Option.getD_some]
    · rw [List.getElem?_eq_none (by simpa using hi), List.getElem?_eq_none (by omega)]; rfl
  have := (hp.flatMap_right (fun k => R.getD k [])).length_eq
  rw [← e2]
  unfold placesF
  rw [← this, List.flatMap_append, List.length_append]
  exact Nat.le_add_right _ _
end
end Go.Proofs.Ytnmpoipakmjbpaa
/- The reference's Sequences: a sequence that is gathered, as its fields are set. -/
namespace Go.Proofs.Ytnmpoipakmjbpaa
open Go.RowKit

/-- One sequence whose fields are being set. -/
structure BxAt (wi w : World) (gu bs N : Nat) (V P : List Nat) (u : Value) (a b c : Int) : Prop where
  used : w.heap[gu]? = some (.cells ((usedL V N).map Value.bool).toArray 4 (0, 0))
  box : w.heap[bs]? = some (.cells #[u, .int .i64 a, .int .i64 b, .int .i64 c] 44 (0, 0))
  at_ : w.ownsRow wi.heap.size 3 1 u P.length ((encN P).map (Value.int .i64))
  kept : Kept wi w [gu]
  hgu : gu < wi.heap.size
  hbs : wi.heap.size ≤ bs
theorem InAt.bx {wi w : World} {gu bs N : Nat} {V P : List Nat} {u : Value} (h : InAt wi w gu bs N V P u) : BxAt wi w gu bs N V P u 0 0 0 := ⟨h.used, h.box, h.at_, h.kept, h.hgu, h.hbs⟩
section
variable {wi w w' : World} {gu bs N : Nat} {V P : List Nat} {u : Value} {a b c x : Int}
theorem BxAt.low (h : BxAt wi w gu bs N V P u a b c) (hb : Below w.heap.size w w') : BxAt wi w' gu bs N V P u a b c :=
  ⟨(hb.block _ (hp_lt h.used)).trans h.used, (hb.block _ (hp_lt h.box)).trans h.box, own_below h.at_ hb, h.kept.trans (Kept.of_below hb _), h.hgu, h.hbs⟩
theorem BxAt.drewN (h : BxAt wi w gu bs N V P u a b c) (k : Nat) : BxAt wi (w.drewN k) gu bs N V P u a b c := h.low (below_drewN (Below.refl _ _) k)
theorem BxAt.put_ (h : BxAt wi w gu bs N V P u a b c) {j : Nat} {y : Value} : (w.setCell ⟨bs, j, none⟩ y).heap[gu]? = some (.cells ((usedL V N).map Value.bool).toArray 4 (0, 0)) ∧ (w.setCell ⟨bs, j, none⟩ y).ownsRow wi.heap.size 3 1 u P.length ((encN P).map (Value.int .i64)) ∧ Kept wi (w.setCell ⟨bs, j, none⟩ y) [gu] := by
  have hne : gu ≠ bs := by have := h.hgu; have := h.hbs; omega
  refine ⟨by rw [hp_far hne]; exact h.used, own_set_far h.at_ (fun e => ?_), h.kept.set (.inr h.hbs) _ _⟩
  obtain ⟨cs, h9⟩ := own_row h.at_ bs e
  rw [h.box] at h9
  cases h9
theorem BxAt.put1 (h : BxAt wi w gu bs N V P u a b c) : BxAt wi (w.setCell ⟨bs, 1, none⟩ (.int .i64 x)) gu bs N V P u x b c :=
  ⟨h.put_.1, by rw [heap_setCell_same w bs 1 _ _ _ h.box]; rfl, h.put_.2.1, h.put_.2.2, h.hgu, h.hbs⟩
theorem BxAt.put2 (h : BxAt wi w gu bs N V P u a b c) : BxAt wi (w.setCell ⟨bs, 2, none⟩ (.int .i64 x)) gu bs N V P u a x c :=
  ⟨h.put_.1, by rw [heap_setCell_same w bs 2 _ _ _ h.box]; rfl, h.put_.2.1, h.put_.2.2, h.hgu, h.hbs⟩
theorem BxAt.put3 (h : BxAt wi w gu bs N V P u a b c) : BxAt wi (w.setCell ⟨bs, 3, none⟩ (.int .i64 x)) gu bs N V P u a b x :=
  ⟨h.put_.1, by rw [heap_setCell_same w bs 3 _ _ _ h.box]; rfl, h.put_.2.1, h.put_.2.2, h.hgu, h.hbs⟩
/-- The sequence itself, handed on. -/
theorem OsAt.out {vo v1 : Value} {O : List SqO} {w1 : World} {e : SqE} (h : BxAt wi w gu bs N V P u e.lev e.sos e.eos) (hP : e.at_ = P) (ho : OsAt wi gu vo O) (hU : ∃ cs, wi.heap[gu]? = some (.cells cs 4 (0, 0))) {cs : List Value} (hg : (w.alloc (.cells cs.toArray 44)).grownBy w1 vo.ownBlock) (h1 : w1.ownsRow gu 44 4 v1 (O.length + 1) (O.flatMap cQ ++ [u, .int .i64 e.lev, .int .i64 e.sos, .int .i64 e.eos])) : OsAt w1 gu v1 (O ++ [⟨u, e⟩]) ∧ w1.heap[gu]? = some (.cells ((usedL V N).map Value.bool).toArray 4 (0, 0)) := by
  obtain ⟨cb, hcb⟩ := hU
  have k1 := ho.kept h.kept hcb (by decide) (by decide)
  have k2 := k1.low (below_new w (.cells cs.toArray 44))
  refine ⟨k2.push (o := ⟨u, e⟩) hg h1 ?_, blk_grown ((below_new w _).block gu (hp_lt h.used) |>.trans h.used) hg (fun e => ?_)⟩
  · have := own_base ((h.at_).alloc (.cells cs.toArray 44)) (Nat.le_of_lt h.hgu)
    subst hP
    exact this
  · obtain ⟨c2, h9⟩ := own_row k1.own gu e
    rw [h.used] at h9
    cases h9
end
section
variable {R : List (List Nat)} {bf mt : List Int}
theorem sq_len : ∀ i, (sqF R bf mt i).1.length ≤ i
  | 0 => by simp [sqF]
  | i + 1 => by
    have := sq_len i
    rw [sqF]
    split
    · omega
    · simp; omega
theorem last_of {P : List Nat} (h : P ≠ []) : P.getLast? = some (P.getLastD 0) := by
  obtain ⟨y, hy⟩ : ∃ y, P.getLast? = some y := by
    cases e : P.getLast? with
    | none => exact absurd (List.getLast?_eq_none_iff.1 e) h
    | some y => exact ⟨y, rfl⟩
  rw [List.getLastD_eq_getLast?, hy]
  rfl
theorem enc_head {P : List Nat} (h : P ≠ []) : ((encN P).map (Value.int .i64))[0]? = some (.int .i64 ((P.headD 0 : Nat) : Int)) := by
  cases P with
  | nil => exact absurd rfl h
  | cons a P => rfl
theorem enc_tail {P : List Nat} {q : Nat} (hq : P.length = q + 1) : ((encN P).map (Value.int .i64))[q]? = some (.int .i64 ((P.getLastD 0 : Nat) : Int)) := by
  have h2 : P[q]? = P.getLast? := by rw [List.getLast?_eq_getElem?, hq]; rfl
  have h3 : P.getLast? = some (P.getLastD 0) := last_of (fun e => by rw [e] at hq; simp at hq)
  unfold encN
  rw [List.getElem?_map, List.getElem?_map, h2, h3]
  rfl
theorem sqAns_of {lv cl : List Int} {level lvf lvl x : Int} {P : List Nat} {fi la : Nat} (hf : P.headD 0 = fi) (hl : P.getLastD 0 = la) (h1 : lv.getD fi 0 = lvf) (h2 : lv.getD la 0 = lvl) (h3 : bf.getD la 0 = x) : sqAns lv cl bf mt level P = ⟨P, lvf, dirF lvf (ahF lv cl level fi), if opB x = true ∧ mt.getD la 0 = bf.length then dirF lvl level else dirF lvl (bhF lv cl level (la + 1))⟩ := by
  subst hf hl h1 h2 h3
  rfl
theorem oneSq (a : Option Addr) (m c : Nat) (x y z : Int) : ∀ u ∈ [Value.slice a m c, .int .i64 x, .int .i64 y, .int .i64 z], u.oneCell' = true := by
  intro u hu
  simp at hu
  rcases hu with rfl | rfl | rfl | rfl <;> rfl
theorem places_mem {ks : List Nat} {x : Nat} (h : x ∈ placesF R ks) : ∃ r ∈ R, x ∈ r := by
  unfold placesF at h
  obtain ⟨k, _, hk⟩ := List.mem_flatMap.1 h
  rw [List.getD_eq_getElem?_getD] at hk
  rcases hr : R[k]? with _ | r
  · rw [hr] at hk; simp at hk
  · rw [hr] at hk
    exact ⟨r, List.mem_of_getElem? hr, hk⟩
theorem head_mem {P : List Nat} (h : P ≠ []) : P.headD 0 ∈ P := by
  cases P with
  | nil => exact absurd rfl h
  | cons a P => simp
theorem last_mem {P : List Nat} (h : P ≠ []) : P.getLastD 0 ∈ P := by
  exact List.mem_of_getLast? (last_of h)
theorem places_ne {ks : List Nat} (h : ks ≠ []) (hb : ∀ k ∈ ks, k < R.length) (hR : ∀ r ∈ R, r ≠ []) : placesF R ks ≠ [] := by
  cases ks with
  | nil => exact absurd rfl h
  | cons k ks =>
    have hk := hb k (by simp)
    have := hR R[k] (List.getElem_mem hk)
    intro e
    unfold placesF at e
    rw [List.flatMap_cons] at e
    have e2 := (List.append_eq_nil_iff.1 e).1
    rw [List.getD_eq_getElem?_getD, List.getElem?_eq_getElem hk] at e2
    exact this e2
end
end Go.Proofs.Ytnmpoipakmjbpaa
/- Sequences as the program makes them, as mathematics: which runs are free, what goes on behind a place, what is around a run. No function of the program. -/
namespace Go.Proofs.Ytnmpoipakmjbpaa
open Go.RowKit

theorem split_uniq {a : Nat} : ∀ {X F Y G : List Nat}, a ∉ X → a ∉ F → X ++ a :: Y = F ++ a :: G → X = F ∧ Y = G
  | [], [], Y, G, _, _, h => by simpa using h
  | [], f :: F, Y, G, _, h2, h => by
    simp at h
    exact absurd (by simp [h.1]) h2
  | x :: X, [], Y, G, h1, _, h => by
    simp at h
    exact absurd (by simp [h.1]) h1
  | x :: X, f :: F, Y, G, h1, h2, h => by
    simp only [List.cons_append, List.cons.injEq] at h
    obtain ⟨e1, e2⟩ := split_uniq (fun m => h1 (by simp [m])) (fun m => h2 (by simp [m])) h.2
    exact ⟨by rw [h.1, e1], e2⟩
/-- What stays of the places ahead of one, and behind it. -/
theorem filter_split {nl : Nat → Bool} {n a : Nat} {X Y : List Nat} (h : (List.range n).filter nl = X ++ a :: Y) : (List.range a).filter nl = X ∧ ((List.range n).drop (a + 1)).filter nl = Y ∧ a < n := by
  have hm : a ∈ (List.range n).filter nl := by rw [h]; simp
  obtain ⟨hr, hn⟩ := List.mem_filter.1 hm
  have hlt := List.mem_range.1 hr
  have hnd : ((List.range n).filter nl).Nodup := List.nodup_range.filter _
  rw [h] at hnd
  have e : List.range n = List.range a ++ a :: (List.range n).drop (a + 1) := by
    have h1 := (List.take_append_drop a (List.range n)).symm
    rw [List.take_range, Nat.min_eq_left (by omega), List.drop_eq_getElem_cons (by simpa using hlt)] at h1
    simpa using h1
  have h2 := h
  rw [e, List.filter_append, List.filter_cons, if_pos hn] at h2
  have hx : a ∉ X := fun m => (List.nodup_append.1 hnd).2.2 a m a (by simp) rfl
  have hf : a ∉ (List.range a).filter nl := fun m => by
    have := List.mem_range.1 (List.mem_filter.1 m).1
    omega
  obtain ⟨e1, e2⟩ := split_uniq hf hx h2
  exact ⟨e1, e2, hlt⟩
theorem run_split {R : List (List Nat)} {k : Nat} {r : List Nat} (h : R[k]? = some r) : R.flatten = (R.take k).flatten ++ (r ++ (R.drop (k + 1)).flatten) := by
  obtain ⟨hk, hr⟩ := List.getElem?_eq_some_iff.1 h
  conv => lhs; rw [← List.take_append_drop k R, List.drop_eq_getElem_cons hk, hr]
  simp
theorem flatten_disj : ∀ {L : List (List Nat)}, L.flatten.Nodup → ∀ {i j : Nat} {a b : List Nat} {p : Nat}, L[i]? = some a → L[j]? = some b → p ∈ a → p ∈ b → i = j
  | [], _, i, _, _, _, _, h, _, _, _ => by simp at h
  | l :: L, hn, 0, 0, _, _, _, _, _, _, _ => rfl
  | l :: L, hn, 0, j + 1, a, b, p, h1, h2, h3, h4 => by
    obtain rfl := Option.some.inj h1
    rw [List.flatten_cons] at hn
    have hb : p ∈ L.flatten := List.mem_flatten.2 ⟨b, List.mem_of_getElem? (by simpa using h2), h4⟩
    exact absurd rfl ((List.nodup_append.1 hn).2.2 p h3 p hb)
  | l :: L, hn, i + 1, 0, a, b, p, h1, h2, h3, h4 => by
    obtain rfl := Option.some.inj h2
    rw [List.flatten_cons] at hn
    have hb : p ∈ L.flatten := List.mem_flatten.2 ⟨a, List.mem_of_getElem? (by simpa using h1), h3⟩
    exact absurd rfl ((List.nodup_append.1 hn).2.2 p h4 p hb)
  | l :: L, hn, i + 1, j + 1, a, b, p, h1, h2, h3, h4 => by
    rw [List.flatten_cons] at hn
    have := flatten_disj (List.nodup_append.1 hn).2.1 (by simpa using h1) (by simpa using h2) h3 h4
    omega
/-- Runs as they come: of places below n, each once, none empty. -/
structure Runs (R : List (List Nat)) (lv cl : List Int) (n : Nat) : Prop where
  flat : R.flatten = (List.range n).filter fun i => !leftC (cl.getD i 0)
  one : ∀ r ∈ R, r ≠ [] ∧ ∀ x ∈ r, ∀ y ∈ r, lv.getD x 0 = lv.getD y 0
theorem runs_of (lv cl : List Int) : Runs (runsF lv cl) lv cl lv.length := ⟨runs_flat lv cl, fun _ hr => runs_one hr⟩
section
variable {R : List (List Nat)} {lv cl : List Int} {n : Nat}
theorem Runs.nodup (h : Runs R lv cl n) : R.flatten.Nodup := by rw [h.flat]; exact List.nodup_range.filter _
theorem Runs.lt (h : Runs R lv cl n) {r : List Nat} {x : Nat} (hr : r ∈ R) (hx : x ∈ r) : x < n := by
  have : x ∈ R.flatten := List.mem_flatten.2 ⟨r, hr, hx⟩
  rw [h.flat] at this
  exact List.mem_range.1 (List.mem_filter.1 this).1
theorem Runs.beg (h : Runs R lv cl n) {k p : Nat} {r : List Nat} (hk : R[k]? = some r) (hp : r.head? = some p) : begF R p = some k := by
  obtain ⟨hlt, hr⟩ := List.getElem?_eq_some_iff.1 hk
  unfold begF
  refine List.findIdx?_eq_some_iff_getElem.2 ⟨hlt, by rw [hr]; simp [hp], fun j hj => ?_⟩
  intro hd
  have hd := of_decide_eq_true hd
  have hjl : j < R.length := by omega
  have := flatten_disj h.nodup (List.getElem?_eq_getElem hjl) hk (List.mem_of_head? hd) (List.mem_of_head? hp)
  omega
theorem Runs.begOnly (_h : Runs R lv cl n) {k p q : Nat} (hp : begF R p = some k) (hq : begF R q = some k) : p = q := by
  have h1 := (beg_lt hp).2
  have h2 := (beg_lt hq).2
  rw [h1] at h2
  exact Option.some.inj h2
theorem Runs.begNone (h : Runs R lv cl n) {p : Nat} (hp : n ≤ p) : begF R p = none := by
  cases hb : begF R p with
  | none => rfl
  | some k =>
    obtain ⟨hk, hh⟩ := beg_lt hb
    rw [List.getD_eq_getElem?_getD, List.getElem?_eq_getElem hk, Option.getD_some] at hh
    have := h.lt (List.getElem_mem hk) (List.mem_of_head? hh)
    omega
/-- The level of a run, and around all of them the whole's. -/
def levF (R : List (List Nat)) (lv : List Int) (level : Int) (k : Int) : Int := if k < 0 ∨ (R.length : Int) ≤ k then level else lv.getD ((R.getD k.toNat []).headD 0) 0
theorem flat_head {L : List (List Nat)} (h : ∀ r ∈ L, r ≠ []) : L.flatten.head? = L.head?.bind List.head? := by
  cases L with
  | nil => rfl
  | cons r L =>
    rw [List.flatten_cons]
    have hr := h r (by simp)
    cases r with
    | nil => exact absurd rfl hr
    | cons a r => rfl
theorem flat_last {L : List (List Nat)} (h : ∀ r ∈ L, r ≠ []) : L.flatten.getLast? = L.getLast?.bind List.getLast? := by
  rcases List.eq_nil_or_concat L with rfl | ⟨L', r, rfl⟩
  · rfl
  · rw [List.concat_eq_append, List.flatten_append, List.flatten_cons, List.flatten_nil, List.append_nil]
    have hr : r ≠ [] := h r (by simp)
    obtain ⟨y, hy⟩ : ∃ y, r.getLast? = some y := by
      cases e : r.getLast? with
      | none => exact absurd (List.getLast?_eq_none_iff.1 e) hr
      | some y => exact ⟨y, rfl⟩
    rw [List.getLast?_append, hy]
    simp [hy]
theorem Runs.behind (h : Runs R lv cl n) (hn : lv.length = n) {k la : Nat} {r : List Nat} (level : Int) (hk : R[k]? = some r) (hl : r.getLast? = some la) : bhF lv cl level (la + 1) = levF R lv level ((k : Int) + 1) := by
  obtain ⟨hkl, hkr⟩ := List.getElem?_eq_some_iff.1 hk
  obtain ⟨r', rfl⟩ : ∃ r', r = r' ++ [la] := by
    obtain ⟨r', hr'⟩ := List.getLast?_eq_some_iff.1 hl
    exact ⟨r', hr'⟩
  have hs : (List.range n).filter (fun i => !leftC (cl.getD i 0)) = ((R.take k).flatten ++ r') ++ la :: (R.drop (k + 1)).flatten := by
    rw [← h.flat, run_split hk]
    simp
  obtain ⟨_, h2, _⟩ := filter_split hs
  unfold bhF
  rw [hn, ← List.head?_filter, h2, flat_head (fun r hr => (h.one r (List.mem_of_mem_drop hr)).1), List.head?_drop]
  unfold levF
  by_cases hlt : k + 1 < R.length
  · rw [if_neg (by omega), List.getElem?_eq_getElem hlt]
    have hne := (h.one _ (List.getElem_mem hlt)).1
    rw [show ((k : Int) + 1).toNat = k + 1 by omega, getD_of (List.getElem?_eq_getElem hlt)]
    cases hr : R[k + 1] with
    | nil => exact absurd hr hne
    | cons a r => rfl
  · rw [if_pos (by omega), List.getElem?_eq_none (by omega)]
    rfl
theorem ah_last (lv cl : List Int) (level : Int) : ∀ f, ahF lv cl level f = match ((List.range f).filter fun i => !leftC (cl.getD i 0)).getLast? with | some i => lv.getD i 0 | none => level
  | 0 => rfl
  | f + 1 => by
    rw [ahF, List.range_succ, List.filter_append, List.filter_cons, List.filter_nil]
    cases hl : leftC (cl.getD f 0) with
    | true =>
      simp only [if_true, Bool.not_true, Bool.false_eq_true, if_false, List.append_nil]
      exact ah_last lv cl level f
    | false =>
      simp only [Bool.not_false, if_true, Bool.false_eq_true, if_false]
      rw [List.getLast?_append]
      rfl
theorem Runs.ahead (h : Runs R lv cl n) {k f : Nat} {r : List Nat} (level : Int) (hk : R[k]? = some r) (hf : r.head? = some f) : ahF lv cl level f = levF R lv level ((k : Int) - 1) := by
  obtain ⟨hkl, hkr⟩ := List.getElem?_eq_some_iff.1 hk
  obtain ⟨r', rfl⟩ : ∃ r', r = f :: r' := by
    cases r with
    | nil => simp at hf
    | cons a r' => exact ⟨r', by simp at hf; rw [hf]⟩
  have hs : (List.range n).filter (fun i => !leftC (cl.getD i 0)) = (R.take k).flatten ++ f :: (r' ++ (R.drop (k + 1)).flatten) := by
    rw [← h.flat, run_split hk]
    simp
  obtain ⟨h1, _, _⟩ := filter_split hs
  rw [ah_last, h1, flat_last (fun r hr => (h.one r (List.mem_of_mem_take hr)).1)]
  unfold levF
  cases k with
  | zero => rw [if_pos (by omega)]; rfl
  | succ k =>
    have hk' : k < R.length := by omega
    rw [if_neg (by omega), show (((k + 1 : Nat) : Int) - 1).toNat = k by omega]
    have e : (R.take (k + 1)).getLast? = some R[k] := by
      rw [List.take_add_one, List.getElem?_eq_getElem hk', Option.toList_some, List.getLast?_append]
      rfl
    rw [e, getD_of (List.getElem?_eq_getElem hk')]
    obtain ⟨hne, hsame⟩ := h.one _ (List.getElem_mem hk')
    obtain ⟨y, hy⟩ : ∃ y, R[k].getLast? = some y := by
      cases e : R[k].getLast? with
      | none => exact absurd (List.getLast?_eq_none_iff.1 e) hne
      | some y => exact ⟨y, rfl⟩
    rw [Option.bind_some, hy]
    exact hsame y (List.mem_of_getLast? hy) _ (head_mem hne)
/-- Which run goes on behind a place, as the program asks it. -/
theorem mat_small {bf : List Int} {la : Nat} (hl : la < bf.length) (ho : opB (bf.getD la 0) = false) : (matF bf).getD la 0 < (la : Int) := by
  have hG := matF_good bf
  have hx : bf[la]? = some (bf.getD la 0) := by rw [List.getD_eq_getElem?_getD, List.getElem?_eq_getElem hl]; rfl
  have hn : ¬ OpAt bf la := fun h => by
    rw [opAt_of hx, ho] at h
    cases h
  rcases hG.else_ la hl hn with e | ⟨i, hi, e⟩
  · rw [List.getD_eq_getElem?_getD, e]
    show (-1 : Int) < la
    omega
  · have h2 := hG.shut i hi (by omega)
    rw [e] at h2
    rw [List.getD_eq_getElem?_getD, h2]
    have := ansF_ge bf (i + 1) 0 (by have := opAt_lt hi; omega)
    show (i : Int) < la
    omega
theorem mat_big {bf : List Int} {la : Nat} (hl : la < bf.length) (ho : opB (bf.getD la 0) = true) : ∃ p : Nat, (matF bf).getD la 0 = (p : Int) ∧ la < p ∧ p ≤ bf.length := by
  have hG := matF_good bf
  have hx : bf[la]? = some (bf.getD la 0) := by rw [List.getD_eq_getElem?_getD, List.getElem?_eq_getElem hl]; rfl
  have hi : OpAt bf la := (opAt_of hx).2 ho
  refine ⟨ansF bf (la + 1) 0, by rw [List.getD_eq_getElem?_getD, hG.op la hi]; rfl, ?_, ansF_le bf _ _⟩
  have := ansF_ge bf (la + 1) 0 (by omega)
  omega
theorem Runs.next (h : Runs R lv cl n) {bf : List Int} (hb : bf.length = n) {k la : Nat} {r : List Nat} (hk : R[k]? = some r) (hl : r.getLast? = some la) : nxF R bf (matF bf) k = if (matF bf).getD la 0 ≤ (la : Int) then none else begF R ((matF bf).getD la 0).toNat := by
  have hla : la < bf.length := by rw [hb]; exact h.lt (List.mem_of_getElem? hk) (List.mem_of_getLast? hl)
  rw [nx_of hk hl]
  cases ho : opB (bf.getD la 0) with
  | false =>
    rw [if_neg (by simp), if_pos (by have := mat_small hla ho; omega)]
  | true =>
    obtain ⟨p, hp, h1, h2⟩ := mat_big hla ho
    rw [hp, if_neg (show ¬ (p : Int) ≤ (la : Int) by omega), Int.toNat_natCast]
    by_cases h3 : p < bf.length
    · rw [if_pos ⟨rfl, by omega⟩]
    · rw [if_neg (fun h => h3 (by omega)), h.begNone (by omega)]
/-- Where a match is the end of all, it is of what opens. -/
theorem mat_end {bf : List Int} {la : Nat} (hl : la < bf.length) : ((matF bf).getD la 0 = (bf.length : Int)) ↔ (opB (bf.getD la 0) = true ∧ (matF bf).getD la 0 = (bf.length : Int)) := by
  refine ⟨fun h => ⟨?_, h⟩, fun h => h.2⟩
  cases ho : opB (bf.getD la 0) with
  | true => rfl
  | false =>
    have := mat_small hl ho
    omega
/-- The runs that are in no sequence yet, by their first places. -/
def freeF (R : List (List Nat)) (U : List Nat) (p : Nat) : Option Nat := match begF R p with
  | some k => if k ∈ U then none else some k
  | none => none
theorem freeF_some {U : List Nat} {p k : Nat} (h : freeF R U p = some k) : begF R p = some k ∧ k ∉ U := by
  unfold freeF at h
  split at h
  · rename_i j hj
    split at h
    · cases h
    · rename_i hm
      obtain rfl := Option.some.inj h
      exact ⟨hj, hm⟩
  · cases h
theorem freeF_of {U : List Nat} {p k : Nat} (h1 : begF R p = some k) (h2 : k ∉ U) : freeF R U p = some k := by
  unfold freeF
  rw [h1]
  exact if_neg h2
theorem freeF_used {U : List Nat} {p k : Nat} (h1 : begF R p = some k) (h2 : k ∈ U) : freeF R U p = none := by
  unfold freeF
  rw [h1]
  exact if_pos h2
theorem freeF_no {U : List Nat} {p : Nat} (h1 : begF R p = none) : freeF R U p = none := by unfold freeF; rw [h1]
theorem Runs.taken (h : Runs R lv cl n) {U : List Nat} {p k : Nat} (hp : begF R p = some k) : delMN (freeF R U) p = freeF R (U ++ [k]) := by
  funext q
  unfold delMN
  by_cases e : q = p
  · rw [if_pos e, e, freeF_used hp (by simp)]
  · rw [if_neg e]
    cases hb : begF R q with
    | none => rw [freeF_no hb, freeF_no hb]
    | some j =>
      have hjk : j ≠ k := fun e2 => e (h.begOnly hb (by rw [e2]; exact hp))
      unfold freeF
      rw [hb]
      simp [hjk]
theorem freeF_same {U : List Nat} {p : Nat} (h : freeF R U p = none) : delMN (freeF R U) p = freeF R U := by
  funext q
  unfold delMN
  by_cases e : q = p
  · rw [if_pos e, e, h]
  · rw [if_neg e]
/-- The map while it is filled. -/
def fillF (R : List (List Nat)) (i : Nat) (p : Nat) : Option Nat := match begF R p with
  | some k => if k < i then some k else none
  | none => none
theorem fill_none : fillF R 0 = fun _ => none := by
  funext p
  unfold fillF
  split
  · exact if_neg (by omega)
  · rfl
theorem Runs.fill (h : Runs R lv cl n) {i p : Nat} {r : List Nat} (hi : R[i]? = some r) (hp : r.head? = some p) : putMN (fillF R i) p i = fillF R (i + 1) := by
  have hb := h.beg hi hp
  funext q
  unfold putMN
  by_cases e : q = p
  · rw [if_pos e, e]
    unfold fillF
    rw [hb]
    exact (if_pos (by omega)).symm
  · rw [if_neg e]
    unfold fillF
    cases hq : begF R q with
    | none => rfl
    | some j =>
      have hji : j ≠ i := fun e2 => e (h.begOnly hq (by rw [e2]; exact hb))
      by_cases hj : j < i
      · simp [hj, show j < i + 1 by omega]
      · simp [hj, show ¬ j < i + 1 by omega]
theorem fill_all : fillF R R.length = freeF R [] := by
  funext p
  unfold fillF freeF
  cases hb : begF R p with
  | none => rfl
  | some k => simp [(beg_lt hb).1]
end
end Go.Proofs.Ytnmpoipakmjbpaa
/- stack's New, walked. -/
namespace Go.Proofs.Ytnmpoipakmjbpaa
open Go.RowKit

/-- The cells of a stack that no call made. -/
noncomputable def zCells : Array Value := match (Try.prog.info? 92).bind (fun i => i.zero) with
  | some (.agg cs) => cs
  | _ => #[]
theorem z_size : zCells.size = 382 := by kernel_rfl
theorem z_a : zCells[0]? = some (.int .i64 0) := by kernel_rfl
theorem z_b : zCells[1]? = some (.int .i64 0) := by kernel_rfl
theorem z_c : zCells[2]? = some (.int .i64 0) := by kernel_rfl
theorem z_e : zCells[3]? = some (.int .i64 0) := by kernel_rfl
theorem z_n : zCells[381]? = some (.int .i64 0) := by kernel_rfl
theorem z_run (w : World) : (zeroValue 92).run Try.prog w = .ok (.agg zCells) w := by kernel_rfl
theorem new_cells (level : Int) : CsOf ((((zCells.setIfInBounds 381 (.int .i64 1)).setIfInBounds 3 (.int .i64 (min (max level 0) 125))).setIfInBounds 4 (.int .i64 13)).setIfInBounds 5 (.bool false)) (newS level) := by
  have hs := z_size
  refine ⟨by simp [hs], ?_, ?_, ?_, ?_, fun k e he => ?_⟩
  · rw [aset_ne (by omega), aset_ne (by omega), aset_ne (by omega), aset_ne (by omega)]; exact z_a
  · rw [aset_ne (by omega), aset_ne (by omega), aset_ne (by omega), aset_ne (by omega)]; exact z_b
  · rw [aset_ne (by omega), aset_ne (by omega), aset_ne (by omega), aset_ne (by omega)]; exact z_c
  · rw [aset_ne (by omega), aset_ne (by omega), aset_ne (by omega)]; exact aset_eq (by omega)
  · have hk := Stk.all_at he
    have hk0 : k = 0 := by simp [Stk.len, newS] at hk; exact hk
    subst hk0
    have he' : e = ⟨min (max level 0) 125, 13, false⟩ := by simpa [Stk.all, newS] using he.symm
    subst he'
    refine ⟨?_, ?_, ?_⟩
    · rw [aset_ne (by omega), aset_ne (by omega)]; exact aset_eq (by simp [hs])
    · rw [aset_ne (by omega)]; exact aset_eq (by simp [hs])
    · exact aset_eq (by simp [hs])
set_option maxRecDepth 100000 in
set_option maxHeartbeats 400000 in
theorem stkNew_any (level : Int) (w : World) : Calls Try.prog 41 #[.int .i64 level] w fun e w' => e = .returned (.pointer (some ⟨w.heap.size, 0, none⟩)) ∧ StkAt w' w.heap.size (newS level) ∧ Below w.heap.size w w' := by
  have hz := z_run
  have hc := new_cells level
  have hs := z_size
  have z3 := z_e
  obtain ⟨Z, hZ⟩ : ∃ Z, zCells = Z := ⟨_, rfl⟩
  rw [hZ] at hz hc hs z3
  have hnlt : ¬ Z.size < 382 := by omega
  obtain ⟨W, hW⟩ : ∃ W, w.alloc (.cells (Z.setIfInBounds 381 (.int .i64 1)) 92) = W := ⟨_, rfl⟩
  have hbn := below_new w (.cells (Z.setIfInBounds 381 (.int .i64 1)) 92)
  have hh : W.heap[w.heap.size]? = some (.cells (Z.setIfInBounds 381 (.int .i64 1)) 92 (0, 0)) := by rw [← hW]; exact heap_alloc_new w _
  rw [hW] at hbn
  have g1 := heap_setCell_same W w.heap.size 3 _ _ (.int .i64 (min (max level 0) 125)) hh
  have g2 := heap_setCell_same _ w.heap.size 4 _ _ (.int .i64 13) g1
  have g3 := heap_setCell_same _ w.heap.size 5 _ _ (.bool false) g2
  have HA : Hid (StkAt (((W.setCell ⟨w.heap.size, 3, none⟩ (.int .i64 (min (max level 0) 125))).setCell ⟨w.heap.size, 4, none⟩ (.int .i64 13)).setCell ⟨w.heap.size, 5, none⟩ (.bool false)) w.heap.size (newS level)) := Lib.hid ⟨⟨_, g3, hc⟩, rises_new level⟩
  have HB : Hid (Below w.heap.size w (((W.setCell ⟨w.heap.size, 3, none⟩ (.int .i64 (min (max level 0) 125))).setCell ⟨w.heap.size, 4, none⟩ (.int .i64 13)).setCell ⟨w.heap.size, 5, none⟩ (.bool false))) := Lib.hid (((hbn.setCell (p := ⟨w.heap.size, 3, none⟩) (Nat.le_refl _) _).setCell (p := ⟨w.heap.size, 4, none⟩) (Nat.le_refl _) _).setCell (p := ⟨w.heap.size, 5, none⟩) (Nat.le_refl _) _)
  obtain ⟨u3, c3⟩ : ∃ u, W.cell? ⟨w.heap.size, 3, none⟩ = some u := ⟨_, hp_cell hh (Array.getElem?_eq_getElem (by simp [hs]))⟩
  obtain ⟨u4, c4⟩ : ∃ u, W.cell? ⟨w.heap.size, 4, none⟩ = some u := ⟨_, hp_cell hh (Array.getElem?_eq_getElem (by simp [hs]))⟩
  obtain ⟨u5, c5⟩ : ∃ u, W.cell? ⟨w.heap.size, 5, none⟩ = some u := ⟨_, hp_cell hh (Array.getElem?_eq_getElem (by simp [hs]))⟩
  have f3 := hp_froz hh 3
  have f4 := hp_froz hh 4
  have f5 := hp_froz hh 5
  obtain ⟨m, hm⟩ : ∃ m, min (max level 0) 125 = m := ⟨_, rfl⟩
  rw [hm] at HA HB
  obtain ⟨g, hg⟩ : ∃ g, w.heap.size = g := ⟨_, rfl⟩
  rw [hg] at HA HB c3 c4 c5 f3 f4 f5 ⊢
  clear hc hh g1 g2 g3 z3 hbn
  go_enter Try.func41, Try.ntmps41
  go_upto_region 2 with fail
  go_wp2
  all_goals go_ret
  all_goals first
    | (have e0 : m = 0 := by omega
       rw [e0] at HA HB
       exact ⟨rfl, HA.out, HB.out⟩)
    | (have e0 : m = 125 := by omega
       rw [e0] at HA HB
       exact ⟨rfl, HA.out, HB.out⟩)
    | (have e0 : m = level := by omega
       rw [e0] at HA HB
       exact ⟨rfl, HA.out, HB.out⟩)
end Go.Proofs.Ytnmpoipakmjbpaa
/- Lists of sequences, compared. -/
namespace Go.Proofs.Ytnmpoipakmjbpaa
open Go.RowKit

theorem cQ_at {O : List SqO} {k : Nat} {o : SqO} (h : O[k]? = some o) : ∀ j, j < 4 → (O.flatMap cQ)[k * 4 + j]? = (cQ o)[j]? := by
  induction O generalizing k with
  | nil => simp at h
  | cons a O ih =>
    intro j hj
    rw [List.flatMap_cons]
    cases k with
    | zero =>
      simp at h
      subst h
      rw [Nat.zero_mul, Nat.zero_add, List.getElem?_append_left (by simpa [cQ] using hj)]
    | succ k =>
      have := ih (k := k) (by simpa using h) j hj
      rw [List.getElem?_append_right (by simp [cQ]; omega)]
      have e : (k + 1) * 4 + j - (cQ a).length = k * 4 + j := by simp [cQ]; omega
      rw [e, this]
theorem cQ_len (O : List SqO) : (O.flatMap cQ).length = O.length * 4 := by
  induction O with
  | nil => rfl
  | cons a O ih => rw [List.flatMap_cons, List.length_append, ih]; simp [cQ]; omega
/-- A slice of sequences that reads so. -/
structure RO (w : World) (A : Option Addr) (n : Nat) (O : List SqO) : Prop where
  rd : Rd w 4 A n (O.flatMap cQ)
  rows : ∀ o ∈ O, ∃ a c, o.V = .slice a o.e.at_.length c ∧ Rd w 1 a o.e.at_.length ((encN o.e.at_).map (Value.int .i64))
theorem RO.of_own {w : World} {B n c : Nat} {A : Option Addr} {O : List SqO} (h : OsAt w B (.slice A n c) O) (hn : n = O.length) : RO w A n O := by
  subst hn
  refine ⟨Rd.of_own h.own, fun o ho => ?_⟩
  have := h.rows o ho
  obtain ⟨a, k, e, _⟩ := own_form this
  rw [e] at this
  exact ⟨a, k, e, Rd.of_own this⟩
theorem RO.len {w : World} {A : Option Addr} {n : Nat} {O : List SqO} (h : RO w A n O) : O.length = n := by
  have := h.rd.1
  rw [cQ_len] at this
  omega
theorem RO.cell {w : World} {A : Option Addr} {n k : Nat} {O : List SqO} {o : SqO} (h : RO w A n O) (hk : O[k]? = some o) : ∃ ad, A = some ad ∧ w.cell? (ad.add (k * 4)) = some o.V ∧ w.cell? ⟨(ad.add (k * 4)).block, (ad.add (k * 4)).off + 1, none⟩ = some (.int .i64 o.e.lev) ∧ w.cell? ⟨(ad.add (k * 4)).block, (ad.add (k * 4)).off + 2, none⟩ = some (.int .i64 o.e.sos) ∧ w.cell? ⟨(ad.add (k * 4)).block, (ad.add (k * 4)).off + 3, none⟩ = some (.int .i64 o.e.eos) := by
  have hl := (List.getElem?_eq_some_iff.1 hk).1
  rw [h.len] at hl
  obtain ⟨ad, rfl, _, hc⟩ := h.rd.2 (by omega)
  have g := cQ_at hk
  have g0 := hc _ _ (g 0 (by omega))
  have g1 := hc _ _ (g 1 (by omega))
  have g2 := hc _ _ (g 2 (by omega))
  have g3 := hc _ _ (g 3 (by omega))
  rw [addNext ad (k * 4) 0] at g1
  rw [show k * 4 + 2 = k * 4 + (1 + 1) from rfl, addNext ad (k * 4) 1] at g2
  rw [show k * 4 + 3 = k * 4 + (2 + 1) from rfl, addNext ad (k * 4) 2] at g3
  exact ⟨ad, rfl, g0, g1, g2, g3⟩
theorem RO.drewN {w : World} {A : Option Addr} {n : Nat} {O : List SqO} (h : RO w A n O) (q : Nat) : RO (w.drewN q) A n O := ⟨h.rd.drewN q, fun o ho => (h.rows o ho).imp fun _ => Exists.imp fun _ => And.imp id fun r => r.drewN q⟩
set_option maxRecDepth 100000 in
set_option maxHeartbeats 8000000 in
theorem sqSame_yes (A B : Option Addr) (n m c d : Nat) (O1 O2 : List SqO) (w : World) (h1 : RO w A n O1) (h2 : RO w B m O2) (he : O1.map (fun o => o.e) = O2.map (fun o => o.e)) (hn : n ≤ 100000) (hat : ∀ o ∈ O1, o.e.at_.length ≤ 100000) :
    Calls Try.prog 14 #[.slice A n c, .slice B m d] w fun e w' => e = .returned (.bool true) ∧ ∃ q, w' = w.drewN q := by
  have hnm : n = m := by
    have := congrArg List.length he
    rw [List.length_map, List.length_map, h1.len, h2.len] at this
    exact this
  subst hnm
  have H1 := Lib.hid h1
  have H2 := Lib.hid h2
  have HE := Lib.hid he
  have HL1 := Lib.hid h1.len
  have HL2 := Lib.hid h2.len
  have HAT := Lib.hid hat
  clear h1 h2 he hat
  go_enter Try.func14, Try.ntmps14
  go_wp2_with fail
  go_loopw [5, 13] (fun s5 s13 wr => ∃ k : Nat, k ≤ n ∧ s13 = .int .i64 (k : Int) ∧ ∃ q, wr = w.drewN q) (fun _ s13 _ => n - (intOf s13).toNat)
  case atStart => exact ⟨0, Nat.zero_le _, rfl, 0, rfl⟩
  case round =>
    obtain ⟨k, hk, rfl, q, hq⟩ := hrel
    have G1 : Hid (RO wr A n O1) := Lib.hid (by rw [hq]; exact H1.out.drewN q)
    have G2 : Hid (RO wr B n O2) := Lib.hid (by rw [hq]; exact H2.out.drewN q)
    have HQ := Lib.hid hq
    clear hq
    by_cases hlt : k < n
    · obtain ⟨o1, e1⟩ : ∃ o, O1[k]? = some o := ⟨_, List.getElem?_eq_getElem (by rw [HL1.out]; exact hlt)⟩
      obtain ⟨o2, e2⟩ : ∃ o, O2[k]? = some o := ⟨_, List.getElem?_eq_getElem (by rw [HL2.out]; exact hlt)⟩
      have hee : o1.e = o2.e := by
        have := congrArg (fun l => l[k]?) HE.out
        simp only [List.getElem?_map, e1, e2, Option.map_some, Option.some.injEq] at this
        exact this
      obtain ⟨a1, k1, v1, r1⟩ := G1.out.rows o1 (List.mem_of_getElem? e1)
      obtain ⟨a2, k2, v2, r2⟩ := G2.out.rows o2 (List.mem_of_getElem? e2)
      obtain ⟨ad, rfl, x0, x1, x2, x3⟩ := G1.out.cell e1
      obtain ⟨bd, rfl, y0, y1, y2, y3⟩ := G2.out.cell e2
      rw [v1] at x0
      rw [v2, ← hee] at y0
      rw [← hee] at r2 y1 y2 y3
      have hal := HAT.out o1 (List.mem_of_getElem? e1)
      obtain ⟨⟨P, lev, so, eo⟩, hes⟩ : ∃ e, o1.e = e := ⟨_, rfl⟩
      rw [hes] at x0 x1 x2 x3 y0 y1 y2 y3 r1 r2 hal
      simp only at x0 x1 x2 x3 y0 y1 y2 y3 r1 r2 hal
      obtain ⟨z, hz⟩ : ∃ z, P.length = z := ⟨_, rfl⟩
      rw [hz] at x0 y0 r1 r2 hal
      have HEQ := Lib.hid (fun q => (equalInt_any a1 a2 z z k1 k2 (encN P) (encN P) (wr.drewN q) (r1.drewN q) (r2.drewN q) (by unfold maxLen; omega) (by unfold maxLen; omega)).mono (fun e w' (h : _ ∧ ∃ m, w' = (wr.drewN q).drewN m) => (⟨h.1, h.2.imp fun m h2 => h2⟩ : e = .returned (.bool (decide (encN P = encN P))) ∧ ∃ m, w' = (wr.drewN q).drewN m)))
      have HEQ2 := Lib.hid (fun q => (HEQ.out q).mono (fun e w' h => (⟨h.1, by obtain ⟨m, hm⟩ := h.2; exact ⟨q + m, by rw [hm]; exact World.drewN_drewN wr q m⟩⟩ : e = .returned (.bool (decide (encN P = encN P))) ∧ ∃ m, w' = wr.drewN m)))
      rw [decide_eq_true rfl] at HEQ2
      have gl : (lev != lev) = false := by simp
      have gs : (so != so) = false := by simp
      have ge : (eo != eo) = false := by simp
      have hk0 : (0 : Int) ≤ (k : Int) := by omega
      have hk5 : (k : Int) ≤ 100000 := by omega
      have hkn : (k : Int) < (n : Int) := by omega
      clear e1 e2 hee v1 v2 r1 r2 hes hz
      go_upto_region 6 with fail
      go_quiet ((go_at_call 13; exact HEQ2.out _))
      go_wp2_with fail
      go_roundw
      case rel => exact ⟨k + 1, by omega, by go_num, q + nq, by rw [HQ.out]; exact World.drewN_drewN _ _ _⟩
      case measure => simp [intOf]; omega
    · obtain rfl : k = n := by omega
      go_wp2_with fail
      go_ret
      exact ⟨rfl, q, HQ.out⟩
end Go.Proofs.Ytnmpoipakmjbpaa
