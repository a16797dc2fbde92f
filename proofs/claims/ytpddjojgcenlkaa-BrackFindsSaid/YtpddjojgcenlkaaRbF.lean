/- The reference's Find of pairs of brackets, walked. -/
import Derived.Test.YtpddjojgcenlkaaRbI
import Derived.Test.YtpddjojgcenlkaaStL
import Derived.Test.YtpddjojgcenlkaaOwR
import Derived.Test.YtpddjojgcenlkaaPrR1
import Derived.BigQuiet
import Derived.Deep.RegionHeld3
namespace Go.Proofs.Ytpddjojgcenlkaa
open Go.RowKit

/-- What lies in memory between two rounds: the stack, the pairs. -/
structure FdAt (w0 w : World) (v o : Value) (st : List Nat) (out : List (Nat × Nat)) : Prop where
  stk : w.ownsRow w0.heap.size 3 1 v st.length ((stkL st).map (Value.int .i64))
  row : w.ownsRow w0.heap.size 27 2 o out.length (cellsS (prL out))
  low : Below w0.heap.size w0 w
section
variable {w0 w w' : World} {v o : Value} {st : List Nat} {out : List (Nat × Nat)}
theorem FdAt.ne (h : FdAt w0 w v o st out) : o.ownBlock = none ∨ o.ownBlock ≠ v.ownBlock := by
  rcases ho : o.ownBlock with _ | g
  · exact .inl rfl
  · refine .inr fun e => ?_
    obtain ⟨c1, h1⟩ := own_row h.row g ho
    obtain ⟨c2, h2⟩ := own_row h.stk g e.symm
    rw [h1] at h2
    simp at h2
theorem FdAt.lowr (h : FdAt w0 w v o st out) (hb : Below w.heap.size w w') : FdAt w0 w' v o st out := ⟨own_below h.stk hb, own_below h.row hb, h.low.trans (hb.mono h.low.size)⟩
theorem FdAt.push (h : FdAt w0 w v o st out) {k : Nat} {v' : Value} (hg : w.grownBy w' v.ownBlock) (hown : w'.ownsRow w0.heap.size 3 1 v' (st.length + 1) ((stkL st).map (Value.int .i64) ++ [.int .i64 (k : Int)])) : FdAt w0 w' v' o (k :: st) out :=
  ⟨by rw [stkL_push, List.map_append, List.length_cons]; exact hown, h.row.kept hg h.ne, below_app h.low hg h.stk h.low.size⟩
theorem FdAt.shut (h : FdAt w0 w v o st out) {o' : Value} {out' : List (Nat × Nat)} {n : Nat} (hb : Below w.heap.size w w') (hr : w'.ownsRow w.heap.size 27 2 o' n (cellsS (prL out'))) (hn : n = out'.length) : FdAt w0 w' v o' st out' :=
  ⟨own_below h.stk hb, by subst hn; exact own_base hr h.low.size, h.low.trans (hb.mono h.low.size)⟩
theorem FdAt.head {pre r : List Nat} {t g c n : Nat} (hn : n = st.length) (h : FdAt w0 w (.slice (some ⟨g, 0, none⟩) n c) o st out) (he : st = pre ++ t :: r) : FdAt w0 w (.slice (some ⟨g, 0, none⟩) r.length c) o r out := by
  subst hn
  have h1 := headM (m := r.length) h.stk (by rw [he]; simp; omega)
  refine ⟨?_, h.row, h.low⟩
  rw [Nat.mul_one, ← List.map_take, he] at h1
  have : (stkL (pre ++ t :: r)).take r.length = stkL r := by
    rw [stkL, List.reverse_append, List.reverse_cons, List.map_append, List.map_append, List.append_assoc]
    rw [List.take_append_of_le_length (by simp), List.take_of_length_le (by simp)]
    rfl
  rwa [this] at h1
end
theorem own_top {w : World} {base : Nat} {e : TypeId} {size n c m : Nat} {A : Option Addr} {xs : List Value} (h : w.ownsRow base e size (.slice A n c) m xs) : c ≤ maxLen := by
  rcases h.2 with ⟨e, _⟩ | ⟨g, cap, cur, e, _, _, _, hcm, _⟩
  · injection e with _ _ e; subst e; exact Nat.zero_le _
  · injection e with _ _ e; subst e; exact hcm
theorem stkL_at {pre r : List Nat} {t : Nat} : (stkL (pre ++ t :: r))[r.length]? = some ((t : Nat) : Int) := by
  rw [stkL, List.reverse_append, List.reverse_cons, List.map_append, List.map_append, List.append_assoc, List.getElem?_append_right (by simp)]
  simp
set_option maxRecDepth 100000 in
set_option maxHeartbeats 4000000 in
theorem rbFind_any (A B : Option Addr) (n c m d : Nat) (cs ls : List Int) (w : World) (hr : Rd w 1 A n (cs.map (Value.int .i64))) (hs : Rd w 1 B m (ls.map (Value.int .i64))) (hn : n ≤ 100000) (hm : m ≤ 100000) :
    Calls Try.prog 9 #[.slice A n c, .slice B m d] w fun e w' => ∃ v, e = .returned v ∧ w'.ownsRow w.heap.size 27 2 v (bkF cs ls).length (cellsS (prL (bkF cs ls))) ∧ Below w.heap.size w w' := by
  have hlc : cs.length = n := by simpa using hr.len1
  have hll : ls.length = m := by simpa using hs.len1
  have HLC := Lib.hid hlc
  have HLL := Lib.hid hll
  have HR := Lib.hid hr
  have HS := Lib.hid hs
  clear hlc hll hr hs
  go_enter Try.func9, Try.ntmps9
  by_cases hnm : n = m
  · subst hnm
    obtain ⟨F, hF⟩ : ∃ F : Nat → BkS, bkA (fun i => decide (ls.getD i 0 = 13)) (fun i => (braF (cs.getD i 0)).1) (fun o i => bmF (cs.getD o 0) (cs.getD i 0)) = F := ⟨_, rfl⟩
    have HF := Lib.hid hF
    have HB := Lib.hid (show bkF cs ls = (F n).out by unfold bkF; rw [if_pos (by rw [HLC.out, HLL.out]), hF, HLC.out])
    have hF0 : F 0 = ⟨[], [], false⟩ := by rw [← hF]; rfl
    have HF0 := Lib.hid hF0
    clear hF hF0
    go_wp2_with fail
    go_loopw [5, 6, 7] (fun v o i wr => ∃ k : Nat, k ≤ n ∧ i = .int .i64 (k : Int) ∧ (F k).stop = false ∧ FdAt w wr v o (F k).st (F k).out) (fun _ _ i _ => n - (intOf i).toNat)
    case atStart => exact ⟨0, Nat.zero_le _, rfl, by rw [HF0.out], by rw [HF0.out]; exact ⟨⟨rfl, .inl ⟨rfl, rfl⟩⟩, ⟨rfl, .inl ⟨rfl, rfl⟩⟩, Below.refl _ _⟩⟩
    case round =>
      obtain ⟨k, hk, rfl, hst, hD⟩ := hrel
      have hok := bk_ok (fun i => decide (ls.getD i 0 = 13)) (fun i => (braF (cs.getD i 0)).1) (fun o i => bmF (cs.getD o 0) (cs.getD i 0)) k
      have hou := bk_outs (fun i => decide (ls.getD i 0 = 13)) (fun i => (braF (cs.getD i 0)).1) (fun o i => bmF (cs.getD o 0) (cs.getD i 0)) k
      rw [HF.out] at hok hou
      obtain ⟨st, out, hfk⟩ : ∃ st out, F k = ⟨st, out, false⟩ := ⟨(F k).st, (F k).out, by rw [← hst]⟩
      have HFK := Lib.hid (show bkA (fun i => decide (ls.getD i 0 = 13)) (fun i => (braF (cs.getD i 0)).1) (fun o i => bmF (cs.getD o 0) (cs.getD i 0)) k = ⟨st, out, false⟩ by rw [HF.out]; exact hfk)
      rw [hfk] at hD hok hou
      have hlen := hok.len
      have HLT := Lib.hid hok.lt
      simp only at hD hlen hou
      have HD := Lib.hid hD
      have HFk := Lib.hid hfk
      clear hok hD hst hfk
      by_cases hlt : k < n
      · obtain ⟨x, hx⟩ : ∃ x, cs[k]? = some x := ⟨_, List.getElem?_eq_getElem (by rw [HLC.out]; exact hlt)⟩
        obtain ⟨y, hy⟩ : ∃ y, ls[k]? = some y := ⟨_, List.getElem?_eq_getElem (by rw [HLL.out]; exact hlt)⟩
        obtain ⟨ad, rfl, hab, hcell⟩ := HR.out.at_ hlt
        obtain ⟨bd, rfl, hbb, hbcell⟩ := HS.out.at_ hlt
        have cx0 : w.cell? (ad.add k) = some (.int .i64 x) := hcell _ (by rw [List.getElem?_map, hx]; rfl)
        have cy0 : w.cell? (bd.add k) = some (.int .i64 y) := hbcell _ (by rw [List.getElem?_map, hy]; rfl)
        have cx := cell_below HD.out.low cx0
        have hxd : cs.getD k 0 = x := by rw [List.getD_eq_getElem?_getD, hx]; rfl
        have hyd : ls.getD k 0 = y := by rw [List.getD_eq_getElem?_getD, hy]; rfl
        obtain ⟨p, q, hpq⟩ : ∃ p q, braF x = (p, q) := ⟨_, _, rfl⟩
        have HBR := Lib.hid (fun W => refBracket_any x p q hpq W)
        have HKD := Lib.hid (show (fun i => (braF (cs.getD i 0)).1) k = p by simp only [hxd, hpq])
        have HON := Lib.hid (show (fun i => decide (ls.getD i 0 = 13)) k = decide (y = 13) by simp only [hyd])
        have HXD := Lib.hid hxd
        have HCX := Lib.hid cx0
        have HCY := Lib.hid cy0
        have hkn : (k : Int) < (n : Int) := by omega
        have hk0 : (0 : Int) ≤ (k : Int) := by omega
        have hk5 : (k : Int) ≤ 100000 := by omega
        clear hx hy hcell hbcell hxd hyd hpq cx0 cy0
        by_cases hy13 : y = 13
        · subst hy13
          by_cases hp0 : p = 0
          · subst hp0
            have HN := Lib.hid (bk_pass HFK.out (.inr HKD.out))
            rw [HF.out] at HN
            go_wp2_with (first
              | (go_at_call 17; refine (HBR.out _).mono ?_; rintro e w2 ⟨rfl, hb2⟩; have cy := cell_below (HD.out.low.trans (hb2.mono HD.out.low.size)) HCY.out)
              | fail)
            go_roundw
            case rel => exact ⟨k + 1, by omega, by go_num, by rw [HN.out], by rw [HN.out]; exact HD.out.lowr hb2⟩
            case measure => simp [intOf]; omega
          · have gp0 : (p == 0) = false := by simp [hp0]
            by_cases hp1 : p = 1
            · subst hp1
              have HO := Lib.hid (HON.out.trans (decide_eq_true rfl))
              obtain ⟨As, cv, hv, hcv⟩ := own_form HD.out.stk
              subst hv
              by_cases h63 : 63 ≤ st.length
              · have HN := Lib.hid (bk_full HFK.out HO.out HKD.out h63 hlt)
                rw [HF.out] at HN
                have h63i : (63 : Int) ≤ (st.length : Int) := by omega
                go_wp2_with (first
                  | (go_at_call 17; refine (HBR.out _).mono ?_; rintro e w2 ⟨rfl, hb2⟩; have cy := cell_below (HD.out.low.trans (hb2.mono HD.out.low.size)) HCY.out)
                  | fail)
                go_ret
                exact ⟨_, rfl, by rw [HN.out] at HB; rw [HB.out]; exact (HD.out.lowr hb2).row, (HD.out.lowr hb2).low⟩
              · have HN := Lib.hid (bk_push HFK.out HO.out HKD.out (by omega))
                rw [HF.out] at HN
                have h63i : ¬ (63 : Int) ≤ (st.length : Int) := by omega
                go_wp2_with (first
                  | (go_at_call 17; refine (HBR.out _).mono ?_; rintro e w2 ⟨rfl, hb2⟩; have cy := cell_below (HD.out.low.trans (hb2.mono HD.out.low.size)) HCY.out; have HD2 := Lib.hid (HD.out.lowr hb2))
                  | (at_builtin; refine wpList_app rfl _ _ _ rfl intSliceM (by decide) _ st.length _ rfl (HD2.out.stk.alloc _) ⟨w2.heap.size, 0, none⟩ 1 1 [.int .i64 (k : Int)] rfl rfl (cells_new w2 [.int .i64 (k : Int)] 3) (oneInt _ _) (by omega) (by unfold maxLen; omega) (Nat.le_trans HD2.out.low.size (by simp)) ?_; intro v1 w3 hown3 hg3 hat3)
                  | fail)
                have HD3 := Lib.hid ((HD2.out.lowr (below_new _ _)).push (k := k) hg3 hown3)
                clear hown3 hg3 hat3
                go_roundw
                case rel => exact ⟨k + 1, by omega, by go_num, by rw [HN.out], by rw [HN.out]; exact HD3.out⟩
                case measure => simp [intOf]; omega
            · have gp1 : (p == 1) = false := by simp [hp1]
              have HO := Lib.hid (HON.out.trans (decide_eq_true rfl))
              have HK0 := Lib.hid (show (fun i => (braF (cs.getD i 0)).1) k ≠ 0 by rw [HKD.out]; exact hp0)
              have HK1 := Lib.hid (show (fun i => (braF (cs.getD i 0)).1) k ≠ 1 by rw [HKD.out]; exact hp1)
              obtain ⟨As, cv, hv, hcv⟩ := own_form HD.out.stk
              subst hv
              obtain ⟨Ao, co, ho, hco⟩ := own_form HD.out.row
              subst ho
              have hcm := own_top HD.out.row
              have hst1 : (st.length : Int) ≤ 63 := by omega
              have hst0 : (0 : Int) ≤ (st.length : Int) := by omega
              clear hp0 hp1
              go_wp2_with (first
                | (go_at_call 17; refine (HBR.out _).mono ?_; rintro e w2 ⟨rfl, hb2⟩; have cy := cell_below (HD.out.low.trans (hb2.mono HD.out.low.size)) HCY.out; have HD2 := Lib.hid (HD.out.lowr hb2))
                | fail)
              clear cy hb2
              go_loopw [5, 6, 10] (fun v o j wi => ∃ pre r : List Nat, v = .slice As st.length cv ∧ o = .slice Ao out.length co ∧ st = pre ++ r ∧ j = .int .i64 ((r.length : Int) - 1) ∧ popTo (fun o => bmF (cs.getD o 0) (cs.getD k 0)) st = popTo (fun o => bmF (cs.getD o 0) (cs.getD k 0)) r ∧ FdAt w wi (.slice As st.length cv) (.slice Ao out.length co) st out) (fun _ _ j _ => (intOf j + 1).toNat)
              case atStart => exact ⟨[], st, rfl, rfl, rfl, by go_num, rfl, HD2.out⟩
              case round =>
                obtain ⟨pre, r, rfl, rfl, hpr, rfl, hpop, hDi⟩ := hrel
                have HDi := Lib.hid hDi
                have HPR := Lib.hid hpr
                have HPOP := Lib.hid hpop
                clear hDi hpr hpop
                cases r with
                | nil =>
                  have HN := Lib.hid (bk_none HFK.out HO.out HK0.out HK1.out (HPOP.out.trans rfl))
                  rw [HF.out] at HN
                  go_wp2_with fail
                  go_roundw
                  case rel => exact ⟨k + 1, by omega, by go_num, by rw [HN.out], by rw [HN.out]; exact HDi.out⟩
                  case measure => simp [intOf]; omega
                | cons t r =>
                  have htk : t < k := HLT.out t (by rw [HPR.out]; simp)
                  have hll : st.length = pre.length + (r.length + 1) := by rw [HPR.out]; simp
                  have hpos : 0 < st.length := by omega
                  obtain ⟨gs, cc, hve, hcc, hgs, hbs, hcs⟩ := own_at HDi.out.stk hpos
                  simp only [Value.slice.injEq] at hve
                  obtain ⟨rfl, -, rfl⟩ := hve
                  have ct : wr.cell? ⟨gs, r.length, none⟩ = some (.int .i64 (t : Int)) := hcs _ _ (by rw [List.getElem?_map, HPR.out, stkL_at]; rfl)
                  obtain ⟨xt, hxt⟩ : ∃ xt, cs[t]? = some xt := ⟨_, List.getElem?_eq_getElem (by rw [HLC.out]; omega)⟩
                  have cxt0 : w.cell? (ad.add t) = some (.int .i64 xt) := by
                    obtain ⟨ad', hae, _, hcell⟩ := HR.out.at_ (show t < n by omega)
                    obtain rfl := Option.some.inj hae
                    exact hcell _ (by rw [List.getElem?_map, hxt]; rfl)
                  have cxt := cell_below HDi.out.low cxt0
                  have cxi := cell_below HDi.out.low HCX.out
                  have hxtd : cs.getD t 0 = xt := by rw [List.getD_eq_getElem?_getD, hxt]; rfl
                  have HMA := Lib.hid (fun W => refMatch_any xt x W)
                  obtain ⟨b, hb⟩ : ∃ b, bmF xt x = b := ⟨_, rfl⟩
                  rw [hb] at HMA
                  have HFB := Lib.hid (show (fun o => bmF (cs.getD o 0) (cs.getD k 0)) t = b by simp only [hxtd, HXD.out, hb])
                  have htn : (t : Int) < (n : Int) := by omega
                  have ht0 : (0 : Int) ≤ (t : Int) := by omega
                  obtain ⟨q, hq⟩ : ∃ q, r.length = q := ⟨_, rfl⟩
                  have hq0 : (0 : Int) ≤ (q : Int) := by omega
                  have hqn : (q : Int) < (st.length : Int) := by omega
                  have hqe : ((((t :: r).length : Nat) : Int) - 1) = (q : Int) := by simp; omega
                  have HQ := Lib.hid hq
                  rw [hqe]
                  rw [hq] at ct
                  clear hcs hxt cxt0 hxtd hb hll hpos
                  go_wp2_with fail
                  go_region_held3 (fun w' => w'.cell? ⟨gs, q, none⟩ = some (.int .i64 (t : Int)) ∧ w'.cell? (ad.add t) = some (.int .i64 xt) ∧ w'.cell? (ad.add k) = some (.int .i64 x))
                    (first
                      | exact ⟨ct, cxt, cxi⟩
                      | exact ⟨cell_below h1 ct, cell_below h1 cxt, cell_below h1 cxi⟩
                      | assumption
                      | fail)
                    (first
                      | (go_at_call 18; refine (HMA.out _).mono ?_; rintro e w9 ⟨rfl, h1⟩)
                      | fail)
                  have HB9 := Lib.hid (show Below wr.heap.size wr w9 from ⟨h1.os, h1.tape, h1.output, h1.size, h1.block⟩)
                  have HD9 := Lib.hid (HDi.out.lowr HB9.out)
                  have ct9 := cell_below HB9.out ct
                  clear h1 ct cxt cxi
                  cases b with
                  | true =>
                    have HN := Lib.hid (bk_some HFK.out HO.out HK0.out HK1.out (HPOP.out.trans (show popTo (fun o => bmF (cs.getD o 0) (cs.getD k 0)) (t :: r) = some (t, r) by rw [popTo, if_pos HFB.out])))
                    rw [HF.out] at HN
                    have hqc : (q : Int) ≤ (cv : Int) := by omega
                    go_wp2_with (first
                      | (go_at_call 19; refine (rbInsert_any Ao out.length co (prL out) (t : Int) (k : Int) _ (Rd.of_own HD9.out.row) hco hcm (by omega)).mono ?_; rintro e w10 ⟨v10, rfl, hv10, hb10⟩; have HD10 := Lib.hid (HD9.out.shut hb10 (out' := insP out (t, k)) (by rw [prL_ins]; exact hv10) (by rw [insP_len])); clear hv10 hb10)
                      | fail)
                    go_roundw
                    case rel => exact ⟨k + 1, by omega, by go_num, by rw [HN.out], by rw [HN.out, ← HQ.out]; exact HD10.out.head rfl HPR.out⟩
                    case measure => simp [intOf]; omega
                  | false =>
                    have HP2 := Lib.hid (HPOP.out.trans (show popTo (fun o => bmF (cs.getD o 0) (cs.getD k 0)) (t :: r) = popTo (fun o => bmF (cs.getD o 0) (cs.getD k 0)) r by rw [popTo, if_neg (by rw [HFB.out]; decide)]))
                    go_wp2_with fail
                    go_roundw
                    case rel => exact ⟨pre ++ [t], r, rfl, rfl, by rw [HPR.out]; simp, by rw [HQ.out], HP2.out, HD9.out⟩
                    case measure => simp [intOf]
        · have gy : (y != 13) = true := by simp [hy13]
          have HN := Lib.hid (bk_pass HFK.out (.inl (HON.out.trans (decide_eq_false hy13))))
          rw [HF.out] at HN
          go_wp2_with (first
            | (go_at_call 17; refine (HBR.out _).mono ?_; rintro e w2 ⟨rfl, hb2⟩; have cy := cell_below (HD.out.low.trans (hb2.mono HD.out.low.size)) HCY.out)
            | fail)
          go_roundw
          case rel => exact ⟨k + 1, by omega, by go_num, by rw [HN.out], by rw [HN.out]; exact HD.out.lowr hb2⟩
          case measure => simp [intOf]; omega
      · obtain rfl : k = n := by omega
        have HZ := Lib.hid (show bkF cs ls = out by rw [HB.out, HFk.out])
        go_wp2
        go_ret
        exact ⟨_, rfl, by rw [HZ.out]; exact HD.out.row, HD.out.low⟩
  · have hne : ((n : Int) != (m : Int)) = true := by simp; omega
    have HB := Lib.hid (show bkF cs ls = [] by unfold bkF; rw [if_neg (by rw [HLC.out, HLL.out]; exact hnm)])
    go_wp2
    go_ret
    exact ⟨_, rfl, by rw [HB.out]; exact ⟨rfl, .inl ⟨rfl, rfl⟩⟩, Below.refl _ _⟩
end Go.Proofs.Ytpddjojgcenlkaa
