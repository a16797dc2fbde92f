/- Texts of one claim, one behind the other. -/
import Derived.BigQuiet
import Derived.WalkMore
import Derived.Deep.RegionHeld3
import Derived.Test.YtdgomaoikeffhaaGreatMgAp2
import Derived.Test.YtdgomaoikeffhaaGreatMgAp3
import Derived.Test.YtdgomaoikeffhaaGreatMgAp4
import Derived.Test.YtdgomaoikeffhaaGreatMgAp18
import Derived.Test.YtdgomaoikeffhaaGreatMgAp26
import Derived.Test.YtdgomaoikeffhaaGreatMgAp27
/- brack's Find, walked: the pairs of brackets of codes and their classes. -/
namespace Go.Proofs.YtdgomaoikeffhaaGreat
open Go.RowKit

theorem begunSlice : SliceOf Tryz.prog 141 143 2 16 := .mk_ (z := .agg #[.int .i64 0, .int .i64 0]) Tryz.underlying141 (by kernel_rfl) rfl
theorem headA {w : World} {base : Nat} {e : TypeId} {size n m cap : Nat} {A : Option Addr} {xs : List Value} (h : w.ownsRow base e size (.slice A n cap) n xs) (hm : m ≤ n) : w.ownsRow base e size (.slice A m cap) m (xs.take (m * size)) := by
  rcases h.2 with ⟨h1, h2⟩ | ⟨g, cap', cur, h', _⟩
  · simp only [Value.slice.injEq] at h1
    obtain ⟨rfl, rfl, rfl⟩ := h1
    obtain rfl : m = 0 := by omega
    exact ⟨by simp, .inl ⟨rfl, rfl⟩⟩
  · simp only [Value.slice.injEq] at h'
    obtain ⟨rfl, -, -⟩ := h'
    exact headM h hm
/-- What lies in memory between two rounds: the stack, what was found. -/
structure FpAt (w0 w : World) (v o : Value) (st ou : List Sp) : Prop where
  stk : w.ownsRow w0.heap.size 143 2 v st.length (cellsS st)
  row : w.ownsRow w0.heap.size 128 2 o ou.length (cellsS ou)
  low : Below w0.heap.size w0 w
section
variable {w0 w w' : World} {v o : Value} {st ou : List Sp}
theorem FpAt.ne (h : FpAt w0 w v o st ou) : o.ownBlock = none ∨ o.ownBlock ≠ v.ownBlock := by
  rcases ho : o.ownBlock with _ | g
  · exact .inl rfl
  · refine .inr fun e => ?_
    obtain ⟨c1, h1⟩ := own_row h.row g ho
    obtain ⟨c2, h2⟩ := own_row h.stk g e.symm
    rw [h1] at h2
    simp at h2
theorem FpAt.en (h : FpAt w0 w v o st ou) : v.ownBlock = none ∨ v.ownBlock ≠ o.ownBlock := by
  rcases ho : v.ownBlock with _ | g
  · exact .inl rfl
  · refine .inr fun e => ?_
    obtain ⟨c1, h1⟩ := own_row h.stk g ho
    obtain ⟨c2, h2⟩ := own_row h.row g e.symm
    rw [h1] at h2
    simp at h2
theorem FpAt.lowr (h : FpAt w0 w v o st ou) (hb : Below w.heap.size w w') : FpAt w0 w' v o st ou := ⟨own_below h.stk hb, own_below h.row hb, h.low.trans (hb.mono h.low.size)⟩
theorem cellsS_snocB (l : List Sp) (s : Sp) : cellsS (l ++ [s]) = cellsS l ++ [.int .i64 s.1, .int .i64 s.2] := by simp [cellsS, encS]
theorem FpAt.push (h : FpAt w0 w v o st ou) {s : Sp} {v' : Value} (hg : w.grownBy w' v.ownBlock) (hown : w'.ownsRow w0.heap.size 143 2 v' (st.length + 1) (cellsS st ++ [.int .i64 s.1, .int .i64 s.2])) : FpAt w0 w' v' o (st ++ [s]) ou :=
  ⟨by rw [cellsS_snocB, List.length_append]; exact hown, h.row.kept hg h.ne, below_app h.low hg h.stk h.low.size⟩
theorem FpAt.more (h : FpAt w0 w v o st ou) {s : Sp} {o' : Value} (hg : w.grownBy w' o.ownBlock) (hown : w'.ownsRow w0.heap.size 128 2 o' (ou.length + 1) (cellsS ou ++ [.int .i64 s.1, .int .i64 s.2])) : FpAt w0 w' v o' st (ou ++ [s]) :=
  ⟨h.stk.kept hg h.en, by rw [cellsS_snocB, List.length_append]; exact hown, below_app h.low hg h.row h.low.size⟩
theorem FpAt.head {pre r : List Sp} {A : Option Addr} {n m c : Nat} (hn : n = st.length) (hm : m = r.length) (h : FpAt w0 w (.slice A n c) o st ou) (he : st = r ++ pre) : FpAt w0 w (.slice A m c) o r ou := by
  subst hn hm
  have h1 := headA (m := r.length) h.stk (by rw [he]; simp)
  refine ⟨?_, h.row, h.low⟩
  have e : (cellsS st).take (r.length * 2) = cellsS r := by
    rw [he]
    unfold cellsS
    rw [List.flatMap_append, List.take_append_of_le_length (by have := cellsS_len r; unfold cellsS at this; omega), List.take_of_length_le (by have := cellsS_len r; unfold cellsS at this; omega)]
  rwa [e] at h1
end
theorem own_top {w : World} {base : Nat} {e : TypeId} {size n c m : Nat} {A : Option Addr} {xs : List Value} (h : w.ownsRow base e size (.slice A n c) m xs) : c ≤ maxLen := by
  rcases h.2 with ⟨e, _⟩ | ⟨g, cap, cur, e, _, _, _, hcm, _⟩
  · injection e with _ _ e; subst e; exact Nat.zero_le _
  · injection e with _ _ e; subst e; exact hcm
theorem stk_at {cs : List Int} {pre r : List Nat} {t : Nat} : (stkP cs (pre ++ t :: r)).reverse = (stkP cs r).reverse ++ ((t : Int), (braF (cs.getD t 0)).2) :: (stkP cs pre).reverse ∧ ((stkP cs (pre ++ t :: r)).reverse)[r.length]? = some ((t : Int), (braF (cs.getD t 0)).2) := by
  have e : (stkP cs (pre ++ t :: r)).reverse = (stkP cs r).reverse ++ ((t : Int), (braF (cs.getD t 0)).2) :: (stkP cs pre).reverse := by
    simp [stkP]
  refine ⟨e, ?_⟩
  rw [e, List.getElem?_append_right (by simp [stkP])]
  simp [stkP]
set_option maxRecDepth 100000 in
set_option maxHeartbeats 4000000 in
theorem bkFind_any (A B : Option Addr) (n c m d : Nat) (cs ls : List Int) (w : World) (hr : Rd w 1 A n (cs.map (Value.int .i64))) (hs : Rd w 1 B m (ls.map (Value.int .i64))) (hn : n ≤ 100000) (hm : m ≤ 100000) :
    Calls Tryz.prog 70 #[.slice A n c, .slice B m d] w fun e w' => ∃ v, e = .returned v ∧ w'.ownsRow w.heap.size 128 2 v (bkF cs ls).length (cellsS (prL (bkF cs ls))) ∧ Below w.heap.size w w' := by
  have hlc : cs.length = n := by simpa using hr.len1
  have hll : ls.length = m := by simpa using hs.len1
  have HLC := Lib.hid hlc
  have HLL := Lib.hid hll
  have HR := Lib.hid hr
  have HS := Lib.hid hs
  clear hlc hll hr hs
  go_enter Tryz.func70, Tryz.ntmps70
  by_cases hnm : n = m
  · subst hnm
    obtain ⟨F, hF⟩ : ∃ F : Nat → BkS, bkA (fun i => decide (ls.getD i 0 = 13)) (fun i => (braF (cs.getD i 0)).1) (fun o i => bmF (cs.getD o 0) (cs.getD i 0)) = F := ⟨_, rfl⟩
    have HF := Lib.hid hF
    have HB := Lib.hid (show bkF cs ls = (F n).out by unfold bkF; rw [if_pos (by rw [HLC.out, HLL.out]), hF, HLC.out])
    have hF0 : F 0 = ⟨[], [], false⟩ := by rw [← hF]; rfl
    have HF0 := Lib.hid hF0
    clear hF hF0
    go_wp2
    go_step3
    go_wp2
    go_step3
    go_wp2
    go_loopw [5, 6, 19] (fun o v i wr => ∃ k : Nat, k ≤ n ∧ i = .int .i64 (k : Int) ∧ (F k).stop = false ∧ ∃ ou : List Sp, ou.Perm (prL (F k).out) ∧ FpAt w wr v o (stkP cs (F k).st).reverse ou) (fun _ _ i _ => n - (intOf i).toNat)
    case atStart => exact ⟨0, Nat.zero_le _, rfl, by rw [HF0.out], [], by rw [HF0.out]; exact List.Perm.refl _, by rw [HF0.out]; exact ⟨⟨rfl, .inl ⟨rfl, rfl⟩⟩, ⟨rfl, .inl ⟨rfl, rfl⟩⟩, Below.refl _ _⟩⟩
    case round =>
      obtain ⟨k, hk, rfl, hst, ou, hperm, hD⟩ := hrel
      have hok := bk_ok (fun i => decide (ls.getD i 0 = 13)) (fun i => (braF (cs.getD i 0)).1) (fun o i => bmF (cs.getD o 0) (cs.getD i 0)) k
      have hou := bk_outs (fun i => decide (ls.getD i 0 = 13)) (fun i => (braF (cs.getD i 0)).1) (fun o i => bmF (cs.getD o 0) (cs.getD i 0)) k
      have hkd := bk_kd (fun i => decide (ls.getD i 0 = 13)) (fun i => (braF (cs.getD i 0)).1) (fun o i => bmF (cs.getD o 0) (cs.getD i 0)) k
      have hall := fun l => found_all (l := l) (on := fun i => decide (ls.getD i 0 = 13)) (kd := fun i => (braF (cs.getD i 0)).1) (mt := fun o i => bmF (cs.getD o 0) (cs.getD i 0)) (k := k) (o := ou)
      rw [HF.out] at hok hou hkd hall
      obtain ⟨st, out, hfk⟩ : ∃ st out, F k = ⟨st, out, false⟩ := ⟨(F k).st, (F k).out, by rw [← hst]⟩
      have HFK := Lib.hid (show bkA (fun i => decide (ls.getD i 0 = 13)) (fun i => (braF (cs.getD i 0)).1) (fun o i => bmF (cs.getD o 0) (cs.getD i 0)) k = ⟨st, out, false⟩ by rw [HF.out]; exact hfk)
      rw [hfk] at hD hok hou hkd hall hperm
      have hlen := hok.len
      have HLT := Lib.hid hok.lt
      simp only at hD hlen hou hkd hperm hall
      have HD := Lib.hid hD
      have HFk := Lib.hid hfk
      have HKD1 := Lib.hid hkd
      have HPM := Lib.hid hperm
      have HALL := Lib.hid (fun l => hall l hperm)
      have HOL := Lib.hid (show ou.length = out.length by rw [hperm.length_eq, prL_len])
      have HSL := Lib.hid (show (stkP cs st).reverse.length = st.length by simp [stkP])
      have houl : ou.length ≤ 100000 := by rw [HOL.out]; omega
      clear hok hD hst hfk hkd hperm hall
      by_cases hlt : k < n
      · obtain ⟨x, hx⟩ : ∃ x, cs[k]? = some x := ⟨_, List.getElem?_eq_getElem (by rw [HLC.out]; exact hlt)⟩
        obtain ⟨y, hy⟩ : ∃ y, ls[k]? = some y := ⟨_, List.getElem?_eq_getElem (by rw [HLL.out]; exact hlt)⟩
        obtain ⟨ad, rfl, hab, hcell⟩ := HR.out.at_ hlt
        obtain ⟨bd, rfl, hbb, hbcell⟩ := HS.out.at_ hlt
        have cx0 : w.cell? (ad.add k) = some (.int .i64 x) := hcell _ (by rw [List.getElem?_map, hx]; rfl)
        have cy0 : w.cell? (bd.add k) = some (.int .i64 y) := hbcell _ (by rw [List.getElem?_map, hy]; rfl)
        have cx := cell_below HD.out.low cx0
        have cy := cell_below HD.out.low cy0
        have hxd : cs.getD k 0 = x := by rw [List.getD_eq_getElem?_getD, hx]; rfl
        have hyd : ls.getD k 0 = y := by rw [List.getD_eq_getElem?_getD, hy]; rfl
        obtain ⟨p, q, hpq⟩ : ∃ p q, braF x = (p, q) := ⟨_, _, rfl⟩
        have HBR := Lib.hid (fun W => prBracket_any x p q hpq W)
        have HKD := Lib.hid (show (fun i => (braF (cs.getD i 0)).1) k = p by simp only [hxd, hpq])
        have HKQ := Lib.hid (show (braF (cs.getD k 0)).2 = q by simp only [hxd, hpq])
        have HON := Lib.hid (show (fun i => decide (ls.getD i 0 = 13)) k = decide (y = 13) by simp only [hyd])
        have hp012 : p = 0 ∨ p = 1 ∨ p = 2 := by have := bra_in x; rw [hpq] at this; exact this
        have hkn : (k : Int) < (n : Int) := by omega
        have hk0 : (0 : Int) ≤ (k : Int) := by omega
        have hk5 : (k : Int) ≤ 100000 := by omega
        clear hx hy hcell hbcell hxd hyd hpq cx0 cy0
        by_cases hy13 : y = 13
        · subst hy13
          have HO := Lib.hid (HON.out.trans (decide_eq_true rfl))
          rcases hp012 with hp | hp | hp
          · subst hp
            have HN := Lib.hid (bk_pass HFK.out (.inr HKD.out))
            rw [HF.out] at HN
            go_wp2_with (first
              | (go_at_call 93; refine (HBR.out _).mono ?_; rintro e w2 ⟨rfl, hb2⟩)
              | fail)
            go_roundw
            case rel => exact ⟨k + 1, by omega, by go_num, by rw [HN.out], ou, by rw [HN.out]; exact HPM.out, by rw [HN.out]; exact HD.out.lowr hb2⟩
            case measure => simp [intOf]; omega
          · subst hp
            have hs0 := HD.out.stk
            rw [HSL.out] at hs0
            obtain ⟨As, cv, hv, hcv⟩ := own_form hs0
            subst hv
            clear hs0
            by_cases h63 : 63 ≤ st.length
            · have HN := Lib.hid (bk_full HFK.out HO.out HKD.out h63 hlt)
              rw [HF.out] at HN
              have h63i : (63 : Int) ≤ (st.length : Int) := by omega
              go_wp2_with (first
                | (go_at_call 93; refine (HBR.out _).mono ?_; rintro e w2 ⟨rfl, hb2⟩; have HD2 := Lib.hid (HD.out.lowr hb2))
                | (go_at_call 95; refine (bkSort_any _ _ _ _ _ HD2.out.row (by omega)).mono ?_; rintro e w3 ⟨rfl, l', hp3, hl3, ho3, hg3⟩)
                | fail)
              (try rw [Exit.noGoto_ret])
              go_ret
              have hz := HALL.out l' hp3 hl3
              refine ⟨_, rfl, ?_, below_app HD2.out.low hg3 HD2.out.row HD2.out.low.size⟩
              rw [HB.out, HN.out, ← HOL.out, ← hz]
              exact ho3
            · have HN := Lib.hid (bk_push HFK.out HO.out HKD.out (by omega))
              rw [HF.out] at HN
              have h63i : ¬ (63 : Int) ≤ (st.length : Int) := by omega
              go_wp2_with (first
                | (go_at_call 93; refine (HBR.out _).mono ?_; rintro e w2 ⟨rfl, hb2⟩; have HD2 := Lib.hid (HD.out.lowr hb2))
                | (at_builtin; refine wpList_app rfl _ _ _ rfl begunSlice (by decide) _ st.length _ rfl (by have h := HD2.out.stk.alloc (.cells #[.int .i64 (k : Int), .int .i64 q] 143); rw [HSL.out] at h; exact h) ⟨w2.heap.size, 0, none⟩ 1 1 [.int .i64 (k : Int), .int .i64 q] rfl rfl (cells_new w2 [_, _] _) (oneInt2 _ _ _) (by omega) (by unfold maxLen; omega) (Nat.le_trans HD2.out.low.size (by simp)) ?_; intro v1 w3 hown3 hg3 hat3)
                | fail)
              have HD3 := Lib.hid ((HD2.out.lowr (below_new _ _)).push (s := ((k : Int), q)) hg3 (by rw [HSL.out]; exact hown3))
              clear hown3 hg3 hat3
              go_roundw
              case rel => exact ⟨k + 1, by omega, by go_num, by rw [HN.out], ou, by rw [HN.out]; exact HPM.out, by rw [HN.out]; simp only [stkP, List.map_cons, List.reverse_cons, HKQ.out]; exact HD3.out⟩
              case measure => simp [intOf]; omega
          · subst hp
            have hs0 := HD.out.stk
            rw [HSL.out] at hs0
            obtain ⟨As, cv, hv, hcv⟩ := own_form hs0
            subst hv
            have hcvm := own_top hs0
            clear hs0
            have HK0 := Lib.hid (show (fun i => (braF (cs.getD i 0)).1) k ≠ 0 by rw [HKD.out]; decide)
            have HK1 := Lib.hid (show (fun i => (braF (cs.getD i 0)).1) k ≠ 1 by rw [HKD.out]; decide)
            have hst1 : (st.length : Int) ≤ 63 := by omega
            have hst0 : (0 : Int) ≤ (st.length : Int) := by omega
            rcases pop_last HKD.out HKD1.out with ⟨hpop, hlast⟩ | ⟨t, pre, r, hpop, hste, hlast⟩
            · have HN := Lib.hid (bk_none HFK.out HO.out HK0.out HK1.out hpop)
              rw [HF.out] at HN
              rw [HKQ.out] at hlast
              have HLA := Lib.hid (fun W (h : Rd W 2 As st.length (cellsS (stkP cs st).reverse)) => bkLast_any As st.length cv _ q (-1) (by rw [List.reverse_reverse]; exact hlast) (by omega) W h)
              clear hpop hlast
              go_wp2_with (first
                | (go_at_call 93; refine (HBR.out _).mono ?_; rintro e w2 ⟨rfl, hb2⟩; have HD2 := Lib.hid (HD.out.lowr hb2))
                | (go_at_call 94; refine (HLA.out _ (by have h := HD2.out.stk; rw [HSL.out] at h; exact Rd.of_own h)).mono ?_; rintro e w3 ⟨rfl, hb3⟩)
                | fail)
              go_roundw
              case rel => exact ⟨k + 1, by omega, by go_num, by rw [HN.out], ou, by rw [HN.out]; exact HPM.out, by rw [HN.out]; exact HD2.out.lowr hb3⟩
              case measure => simp [intOf]; omega
            · have HN := Lib.hid (bk_some HFK.out HO.out HK0.out HK1.out hpop)
              rw [HF.out] at HN
              rw [HKQ.out] at hlast
              have HLA := Lib.hid (fun W (h : Rd W 2 As st.length (cellsS (stkP cs st).reverse)) => bkLast_any As st.length cv _ q (r.length : Int) (by rw [List.reverse_reverse]; exact hlast) (by omega) W h)
              have hsa := stk_at (cs := cs) (pre := pre) (r := r) (t := t)
              rw [← hste] at hsa
              have HSA := Lib.hid hsa.1
              obtain ⟨ad2, rfl, hb9, d1, d2⟩ := (Rd.of_own (by have h := HD.out.stk; rw [HSL.out] at h; exact h)).span hsa.2
              have hrl : r.length < st.length := by rw [hste]; simp; omega
              have htk : t < k := HLT.out t (by rw [hste]; simp)
              obtain ⟨qn, hqn⟩ : ∃ qn, r.length = qn := ⟨_, rfl⟩
              rw [hqn] at HLA d1 d2 hrl
              have HQN := Lib.hid hqn
              have hq0 : (0 : Int) ≤ (qn : Int) := by omega
              have hqs : (qn : Int) < (st.length : Int) := by omega
              have hqc : (qn : Int) ≤ (cv : Int) := by omega
              have hge : decide ((0 : Int) ≤ (qn : Int)) = true := decide_eq_true hq0
              obtain ⟨Ao, co, ho, hco⟩ := own_form HD.out.row
              subst ho
              have hcm := own_top HD.out.row
              simp only at d1
              clear hpop hlast hste hsa d2 hqn
              go_wp2_with (first
                | (go_at_call 93; refine (HBR.out _).mono ?_; rintro e w2 ⟨rfl, hb2⟩; have HD2 := Lib.hid (HD.out.lowr hb2); have d12 := cell_below hb2 d1)
                | (go_at_call 94; refine (HLA.out _ (by have h := HD2.out.stk; rw [HSL.out] at h; exact Rd.of_own h)).mono ?_; rintro e w3 ⟨rfl, hb3⟩; have HD3 := Lib.hid (HD2.out.lowr hb3); have d13 := cell_below hb3 d12)
                | (at_builtin; refine wpList_app rfl _ _ _ rfl pairSliceR (by decide) _ ou.length _ rfl (HD3.out.row.alloc _) ⟨w3.heap.size, 0, none⟩ 1 1 [.int .i64 (t : Int), .int .i64 (k : Int)] rfl rfl (cells_new w3 [_, _] _) (oneInt2 _ _ _) (by omega) (by unfold maxLen; omega) (Nat.le_trans HD3.out.low.size (by simp)) ?_; intro v1 w4 hown4 hg4 hat4)
                | fail)
              have HD4 := Lib.hid ((HD3.out.lowr (below_new _ _)).more (s := ((t : Int), (k : Int))) hg4 hown4)
              clear hown4 hg4 hat4
              go_roundw
              case rel => exact ⟨k + 1, by omega, by go_num, by rw [HN.out], ou ++ [((t : Int), (k : Int))], by rw [HN.out]; exact found_more HPM.out (t, k), by rw [HN.out]; exact HD4.out.head HSL.out.symm (by rw [← HQN.out]; simp [stkP]) HSA.out⟩
              case measure => simp [intOf]; omega
        · have gy : (y != 13) = true := by simp [hy13]
          have HN := Lib.hid (bk_pass HFK.out (.inl (HON.out.trans (decide_eq_false hy13))))
          rw [HF.out] at HN
          go_wp2_with fail
          go_roundw
          case rel => exact ⟨k + 1, by omega, by go_num, by rw [HN.out], ou, by rw [HN.out]; exact HPM.out, by rw [HN.out]; exact HD.out⟩
          case measure => simp [intOf]; omega
      · obtain rfl : k = n := by omega
        have HZ := Lib.hid (show bkF cs ls = out by rw [HB.out, HFk.out])
        go_wp2_with (first
          | (go_at_call 95; refine (bkSort_any _ _ _ _ _ HD.out.row (by omega)).mono ?_; rintro e w3 ⟨rfl, l', hp3, hl3, ho3, hg3⟩)
          | fail)
        (try rw [Exit.noGoto_ret])
        go_ret
        have hz := HALL.out l' hp3 hl3
        refine ⟨_, rfl, ?_, below_app HD.out.low hg3 HD.out.row HD.out.low.size⟩
        rw [HZ.out, ← HOL.out, ← hz]
        exact ho3
  · have hne : ((n : Int) != (m : Int)) = true := by simp; omega
    have HB := Lib.hid (show bkF cs ls = [] by unfold bkF; rw [if_neg (by rw [HLC.out, HLL.out]; exact hnm)])
    go_wp2
    go_step3
    go_wp2
    (try rw [Exit.noGoto_ret])
    go_ret
    exact ⟨_, rfl, by rw [HB.out]; exact ⟨rfl, .inl ⟨rfl, rfl⟩⟩, Below.refl _ _⟩
end Go.Proofs.YtdgomaoikeffhaaGreat
/- brack's becomes and N0, walked: what brackets become. -/
namespace Go.Proofs.YtdgomaoikeffhaaGreat
open Go.RowKit

theorem bec_is {o : List Int} {p1 p2 : Nat} {level sos : Int} {a b : Bool} (h2 : p2 ≤ o.length) (hi : insS ((o.take p2).drop (p1 + 1)) level = (a, b)) : becF o p1 p2 level sos = if a = true then ofL level else if b = false then -1 else ahdV o p1 level sos := by
  have h := ins_sub (l := o) (lo := p1 + 1) (hi := p2) level h2
  rw [show (((p1 + 1 : Nat) : Int) - 1) = (p1 : Int) by omega, hi] at h
  unfold becF ahdV
  rw [h]
set_option maxRecDepth 100000 in
set_option maxHeartbeats 2000000 in
theorem bkBecomes_any (w0 w : World) (sb n c d p1 p2 : Nat) (C D : Option Addr) (level sos v : Int) (o bf : List Int) (h : BqAt w0 w sb C D n c d level sos o bf) (h1 : p1 < p2) (h2 : p2 < n) (hn : n ≤ 1000000) (hv : becF o p1 p2 level sos = v) :
    Calls Tryz.prog 71 #[.pointer (some ⟨sb, 0, none⟩), .agg #[.int .i64 (p1 : Int), .int .i64 (p2 : Int)]] w fun e w' => e = .returned (.int .i64 v) ∧ Below w.heap.size w w' := by
  obtain ⟨hol, hbl⟩ := h.len
  obtain ⟨a, b, hab⟩ : ∃ a b, insS ((o.take p2).drop (p1 + 1)) level = (a, b) := ⟨_, _, rfl⟩
  rw [bec_is (by omega) hab] at hv
  obtain ⟨_, _, hv', hnc⟩ := own_form h.row
  simp only [Value.slice.injEq] at hv'
  obtain ⟨rfl, -, rfl⟩ := hv'
  have HIN := Lib.hid (fun W (hr : Rd W 1 C n (o.map (Value.int .i64))) => bkInside_any C n c (p1 + 1) p2 o level a b hab h1 (by omega) hnc hn W hr)
  rw [show (((p1 + 1 : Nat) : Int) - 1) = (p1 : Int) by omega] at HIN
  have HSO := Lib.hid (fun W => bkSideOf_any level _ rfl W)
  obtain ⟨g, c', hvg, _, hgl, _, _⟩ := own_at h.row (show 0 < n by omega)
  simp only [Value.slice.injEq] at hvg
  obtain ⟨rfl, -, -⟩ := hvg
  have HRD := Lib.hid (Rd.of_own h.row)
  have HBX := Lib.hid h.box
  have HAH := Lib.hid (fun W (hB : Below w.heap.size w W) => callsIn_wide.1 (bkAhead_in sb ⟨g, 0, none⟩ D n c n d p1 o level sos _ W rfl ((hB.block sb (hp_lt HBX.out)).trans HBX.out) (HRD.out.below hB) (by omega) hnc hn (Nat.lt_of_lt_of_le hgl hB.size)))
  have c0 : w.cell? ⟨sb, 0, none⟩ = some (.slice (some ⟨g, 0, none⟩) n c) := hp_cell (j := 0) h.box rfl
  have c2 : w.cell? ⟨sb, 2, none⟩ = some (.int .i64 level) := hp_cell (j := 2) h.box rfl
  have hb := below_new w (.cells #[.int .i64 (p1 : Int), .int .i64 (p2 : Int)] 128)
  have hbx := heap_alloc_new w (.cells #[.int .i64 (p1 : Int), .int .i64 (p2 : Int)] 128)
  obtain ⟨wb, hwb⟩ : ∃ wb, w.alloc (.cells #[.int .i64 (p1 : Int), .int .i64 (p2 : Int)] 128) = wb := ⟨_, rfl⟩
  rw [hwb] at hb hbx
  have d0 := cell_below hb c0
  have d2 := cell_below hb c2
  have e0 : wb.cell? ⟨w.heap.size, 0, none⟩ = some (.int .i64 (p1 : Int)) := hp_cell (j := 0) hbx rfl
  have e1 : wb.cell? ⟨w.heap.size, 1, none⟩ = some (.int .i64 (p2 : Int)) := hp_cell (j := 1) hbx rfl
  have HB := Lib.hid hb
  obtain ⟨pb, hpb⟩ : ∃ pb, w.heap.size = pb := ⟨_, rfl⟩
  rw [hpb] at e0 e1
  have HPB := Lib.hid hpb
  have HWB := Lib.hid hwb
  clear h hab c0 c2 hb hbx hwb hpb hol hbl hgl
  go_enter Tryz.func71, Tryz.ntmps71
  go_wp2
  rw [HPB.out, HWB.out]
  go_region_held3 (fun w' => w'.cell? ⟨sb, 0, none⟩ = some (.slice (some ⟨g, 0, none⟩) n c) ∧ w'.cell? ⟨sb, 2, none⟩ = some (.int .i64 level) ∧ w'.cell? ⟨pb, 0, none⟩ = some (.int .i64 (p1 : Int)) ∧ w'.cell? ⟨pb, 1, none⟩ = some (.int .i64 (p2 : Int)) ∧ Below w.heap.size w w')
    (first
      | exact ⟨d0, d2, e0, e1, ⟨HB.out.os, HB.out.tape, HB.out.output, HB.out.size, HB.out.block⟩⟩
      | exact ⟨cell_below h1 (by assumption : _ ∧ _ ∧ _ ∧ _ ∧ Below w.heap.size w _).1, cell_below h1 (by assumption : _ ∧ _ ∧ _ ∧ _ ∧ Below w.heap.size w _).2.1, cell_below h1 (by assumption : _ ∧ _ ∧ _ ∧ _ ∧ Below w.heap.size w _).2.2.1, cell_below h1 (by assumption : _ ∧ _ ∧ _ ∧ _ ∧ Below w.heap.size w _).2.2.2.1, (by assumption : _ ∧ _ ∧ _ ∧ _ ∧ Below w.heap.size w _).2.2.2.2.trans (h1.mono (by assumption : _ ∧ _ ∧ _ ∧ _ ∧ Below w.heap.size w _).2.2.2.2.size)⟩
      | assumption
      | fail)
    (first
      | (go_at_call 98; refine (HIN.out _ (HRD.out.below (by assumption : _ ∧ _ ∧ _ ∧ _ ∧ Below w.heap.size w _).2.2.2.2)).mono ?_; rintro e w9 ⟨rfl, h1⟩)
      | fail)
  have hh := (by assumption : w9.cell? ⟨sb, 0, none⟩ = some (.slice (some ⟨g, 0, none⟩) n c) ∧ w9.cell? ⟨sb, 2, none⟩ = some (.int .i64 level) ∧ w9.cell? ⟨pb, 0, none⟩ = some (.int .i64 (p1 : Int)) ∧ w9.cell? ⟨pb, 1, none⟩ = some (.int .i64 (p2 : Int)) ∧ Below w.heap.size w w9)
  obtain ⟨f0, f2, f3, f4, hB9⟩ := hh
  have HB9 := Lib.hid hB9
  clear h1 d0 d2 e0 e1 hB9
  cases a with
  | true =>
    rw [if_pos rfl] at hv
    subst hv
    go_wp2_with (first
      | (go_at_call 99; refine (HSO.out _).mono ?_; rintro e w3 ⟨rfl, rfl⟩)
      | fail)
    go_ret
    exact ⟨rfl, HB9.out⟩
  | false =>
    rw [if_neg (by decide)] at hv
    cases b with
    | false =>
      rw [if_pos rfl] at hv
      subst hv
      go_wp2
      go_ret
      exact ⟨rfl, HB9.out⟩
    | true =>
      rw [if_neg (by decide)] at hv
      subst hv
      go_wp2_with (first
        | (go_at_call 100; refine (HAH.out _ HB9.out).mono ?_; rintro e w3 ⟨rfl, hb3⟩)
        | fail)
      go_ret
      exact ⟨rfl, HB9.out.trans (hb3.mono HB9.out.size)⟩
theorem BqAt.nb {w0 w : World} {sb n c d k : Nat} {C D : Option Addr} {level sos : Int} {o bf : List Int} (h : BqAt w0 w sb C D n c d level sos o bf) (hk : w.heap.size ≤ k) : (Value.slice C n c).ownBlock ≠ some k := fun e => by
  have := (h.row.lt k e).2
  omega
theorem BqAt.np {w0 w : World} {sb n c d K base : Nat} {C D : Option Addr} {level sos : Int} {o bf : List Int} {v : Value} {xs : List Value} (h : BqAt w0 w sb C D n c d level sos o bf) (hp : w.ownsRow base 128 2 v K xs) : v.ownBlock = none ∨ v.ownBlock ≠ (Value.slice C n c).ownBlock := by
  rcases ho : v.ownBlock with _ | g
  · exact .inl rfl
  · refine .inr fun e => ?_
    obtain ⟨c1, h1⟩ := own_row hp g ho
    obtain ⟨c2, h2⟩ := own_row h.row g e.symm
    rw [h1] at h2
    simp at h2
theorem n0P_step {bf o : List Int} {level sos : Int} {ps : List (Nat × Nat)} {k : Nat} {p : Nat × Nat} (hp : ps[k]? = some p) : n0P bf level sos o (ps.take (k + 1)) = n0Q bf level sos (n0P bf level sos o (ps.take k)) p := by
  unfold n0P
  rw [List.take_add_one, hp, Option.toList_some, List.foldl_append]
  rfl
set_option maxRecDepth 100000 in
set_option maxHeartbeats 4000000 in
theorem bkN0_any (A B D : Option Addr) (n c m d : Nat) (cs l bf : List Int) (level sos : Int) (w : World) (hr : Rd w 1 A n (cs.map (Value.int .i64))) (hs : Rd w 1 B n (l.map (Value.int .i64))) (hd : Rd w 1 D n (bf.map (Value.int .i64))) (hn : n ≤ 100000) :
    Calls Tryz.prog 44 #[.slice A n c, .slice B n m, .slice D n d, .int .i64 level, .int .i64 sos] w fun e w' => ∃ v, e = .returned v ∧ w'.ownsRow w.heap.size 3 1 v n ((n0F bf level sos l (bkF cs l)).map (Value.int .i64)) ∧ Below w.heap.size w w' := by
  have hbl : bf.length = n := by simpa using hd.len1
  have hll : l.length = n := by simpa using hs.len1
  have hcl : cs.length = n := by simpa using hr.len1
  have HSM := Lib.hid (bk_same (cs := cs) (l := l) (bf := bf) (level := level) (sos := sos) (by omega))
  have hok := bkF_ok cs l
  have HPR := Lib.hid hok.pair
  have hkl : (bkF cs l).length ≤ n := by
    unfold bkF
    split
    · have := bk_outs (fun i => decide (l.getD i 0 = 13)) (fun i => (braF (cs.getD i 0)).1) (fun o i => bmF (cs.getD o 0) (cs.getD i 0)) cs.length
      omega
    · simp
  have HCL := Lib.hid hcl
  have HBL := Lib.hid hbl
  have HR := Lib.hid hr
  have HS := Lib.hid hs
  have HD := Lib.hid hd
  have HDB := Lib.hid (show 0 < n → ∀ ad, D = some ad → ad.block < w.heap.size from fun h0 ad e => by
    obtain ⟨ad', e', hb, _⟩ := hd.2 h0
    rw [e] at e'
    obtain rfl := Option.some.inj e'
    exact hb)
  obtain ⟨K, hK⟩ : ∃ K, (bkF cs l).length = K := ⟨_, rfl⟩
  have HK := Lib.hid hK
  rw [hK] at hkl
  clear hr hs hd hok hbl hll hcl hK
  go_enter Tryz.func44, Tryz.ntmps44
  go_wp2_with (first
    | (go_at_call 6; refine (cloneInt_any B n m _ w HS.out (oneInts _ _) (by omega)).mono ?_; rintro e w1 ⟨v1, rfl, hv1, hb1⟩; obtain ⟨C, cc, he, hncc⟩ := own_form hv1; subst he; have HQ : Hid (BqAt w (w1.alloc (.cells #[.slice C n cc, .slice D n d, .int .i64 level, .int .i64 sos] 124)) w1.heap.size C D n cc d level sos l bf) := Lib.hid ⟨heap_alloc_new w1 _, hv1.alloc _, (HD.out.below hb1).alloc _, HDB.out, hb1.alloc hb1.size _⟩; clear hv1 hb1)
    | (go_at_call 70; refine (bkFind_any A B n c n m cs l _ (HR.out.below HQ.out.low) (HS.out.below HQ.out.low) hn hn).mono ?_; rintro e w2 ⟨v2, rfl, hv2, hb2⟩; rw [HK.out] at hv2; obtain ⟨P, cp, he2, hncp⟩ := own_form hv2; subst he2; have HQ2 := Lib.hid (HQ.out.lowr hb2); have HP2 := Lib.hid (own_base hv2 HQ.out.low.size); clear hv2 hb2 HQ)
    | fail)
  generalize w1.heap.size = sb at HQ2
  go_loopw [42] (fun i wr => ∃ k : Nat, k ≤ K ∧ i = .int .i64 (k : Int) ∧ BqAt w wr sb C D n cc d level sos (n0P bf level sos l ((bkF cs l).take k)) bf ∧ wr.ownsRow w.heap.size 128 2 (.slice P K cp) K (cellsS (prL (bkF cs l)))) (fun i _ => K - (intOf i).toNat)
  case atStart => exact ⟨0, Nat.zero_le _, rfl, HQ2.out, HP2.out⟩
  case round =>
    obtain ⟨k, hk, rfl, hq, hp⟩ := hrel
    have HQ := Lib.hid hq
    have HP := Lib.hid hp
    clear hq hp
    by_cases hlt : k < K
    · obtain ⟨⟨p1, p2⟩, hpk⟩ : ∃ p, (bkF cs l)[k]? = some p := ⟨_, List.getElem?_eq_getElem (by rw [HK.out]; exact hlt)⟩
      obtain ⟨hp12, hp2n⟩ := HPR.out (p1, p2) (List.mem_of_getElem? hpk)
      rw [HCL.out] at hp2n
      have HST := Lib.hid (n0P_step (bf := bf) (o := l) (level := level) (sos := sos) hpk)
      have hsp : (prL (bkF cs l))[k]? = some ((p1 : Int), (p2 : Int)) := by unfold prL; rw [List.getElem?_map, hpk]; rfl
      obtain ⟨ad, rfl, hab, d1, d2⟩ := (Rd.of_own HP.out).span hsp
      obtain ⟨o, ho⟩ : ∃ o, n0P bf level sos l ((bkF cs l).take k) = o := ⟨_, rfl⟩
      rw [ho] at HQ HST
      simp only at hp12 hp2n d1 d2
      obtain ⟨v, hv⟩ : ∃ v, becF o p1 p2 level sos = v := ⟨_, rfl⟩
      have hvc := bec_in o p1 p2 level sos
      unfold n0Q at HST
      simp only at HST
      rw [hv] at hvc HST
      have hki : (k : Int) < (K : Int) := by omega
      clear hpk hsp ho
      have HPB := Lib.hid (heap_alloc_new wr (.cells #[.int .i64 (p1 : Int), .int .i64 (p2 : Int)] 128))
      have HBP := Lib.hid (below_new wr (.cells #[.int .i64 (p1 : Int), .int .i64 (p2 : Int)] 128))
      have e0 : (wr.alloc (.cells #[.int .i64 (p1 : Int), .int .i64 (p2 : Int)] 128)).cell? ⟨wr.heap.size, 0, none⟩ = some (.int .i64 (p1 : Int)) := hp_cell (j := 0) HPB.out rfl
      have e1 : (wr.alloc (.cells #[.int .i64 (p1 : Int), .int .i64 (p2 : Int)] 128)).cell? ⟨wr.heap.size, 1, none⟩ = some (.int .i64 (p2 : Int)) := hp_cell (j := 1) HPB.out rfl
      by_cases hv1 : v = -1
      · subst hv1
        rw [if_pos (by decide)] at HST
        go_wp2_with (first
          | (go_at_call 71; refine (bkBecomes_any w _ sb n cc d p1 p2 C D level sos _ o bf (HQ.out.lowr HBP.out) hp12 hp2n (by omega) hv).mono ?_; rintro e w3 ⟨rfl, hb3⟩)
          | fail)
        have hb4 := HBP.out.trans (hb3.mono HBP.out.size)
        go_roundw
        case rel => exact ⟨k + 1, by omega, by go_num, by rw [HST.out]; exact HQ.out.lowr hb4, own_below HP.out hb4⟩
        case measure => simp [intOf]; omega
      · have g1 : (v != -1) = true := by simp [hv1]
        rw [if_neg (by omega)] at HST
        go_wp2_with (first
          | (go_at_call 71; refine (bkBecomes_any w _ sb n cc d p1 p2 C D level sos _ o bf (HQ.out.lowr HBP.out) hp12 hp2n (by omega) hv).mono ?_; rintro e w3 ⟨rfl, hb3⟩; have f0 := cell_below hb3 e0; have f1 := cell_below hb3 e1; have HQ3 := Lib.hid ((HQ.out.lowr HBP.out).lowr hb3); have hz3 := hb3.size; have HP3 := Lib.hid (own_below (own_below HP.out HBP.out) hb3))
          | fail)
        have HF1 := Lib.hid f1
        have HNB := Lib.hid (HQ.out.nb (Nat.le_refl wr.heap.size))
        have hz4 : wr.heap.size < w3.heap.size := by have := HBP.out.size; simp at hz3; omega
        clear f1
        go_wp2_with (first
          | (go_at_call 72; refine (bkSet_any w _ sb n cc d p2 C D level sos v _ bf HQ5.out hp2n (by omega)).mono ?_; rintro e w6 ⟨rfl, hq6, hg6⟩; have HQ6 := Lib.hid hq6; have HP6 := Lib.hid (HP5.out.kept hg6 (HQ5.out.np HP5.out)); clear hq6 hg6)
          | (go_at_call 72; refine (bkSet_any w _ sb n cc d p1 C D level sos v _ bf HQ3.out (by omega) (by omega)).mono ?_; rintro e w5 ⟨rfl, hq5, hg5⟩; have HQ5 := Lib.hid hq5; have HP5 := Lib.hid (HP3.out.kept hg5 (HQ3.out.np HP3.out)); have f15 := (World.cell?_of_block (a := ⟨wr.heap.size, 1, none⟩) (hg5.block wr.heap.size hz4 (fun e => HNB.out e.symm))).trans HF1.out; clear hq5 hg5)
          | fail)
        go_roundw
        case rel => exact ⟨k + 1, by omega, by go_num, by rw [HST.out]; exact HQ6.out, HP6.out⟩
        case measure => simp [intOf]; omega
    · obtain rfl : k = K := by omega
      have HE := Lib.hid (show n0P bf level sos l ((bkF cs l).take k) = n0F bf level sos l (bkF cs l) by rw [List.take_of_length_le (by rw [HK.out]; exact Nat.le_refl _), HSM.out])
      have c0 : wr.cell? ⟨sb, 0, none⟩ = some (.slice C n cc) := hp_cell (j := 0) HQ.out.box rfl
      go_wp2
      go_ret
      have h := HQ.out
      rw [HE.out] at h
      exact ⟨_, rfl, h.row, h.low⟩
end Go.Proofs.YtdgomaoikeffhaaGreat
