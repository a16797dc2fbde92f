/- Texts of one claim, one behind the other. -/
import Derived.Maps.OwnSet
import Derived.Maps.Views
import Derived.Laws.ResultCell
import Derived.Laws.MakeOwn
import Derived.Test.YtdgomaoikeffhaaGreatMgAp1
import Derived.Test.YtdgomaoikeffhaaGreatMgAp2
import Derived.Test.YtdgomaoikeffhaaGreatMgAp4
/- A row of the call's own, at a place: its cell, and that it can be written. -/
namespace Go.Proofs.YtdgomaoikeffhaaGreat
open Go.RowKit
/-- A row of the call's own, at a place: its cell, and that it can be written. -/
theorem row_at {w : World} {base : Nat} {e : TypeId} {V : Option Addr} {n cv : Nat} {xs : List Int} (h : w.ownsRow base e 1 (.slice V n cv) n (xs.map (Value.int .i64))) (hn : 0 < n) : ∃ g, V = some ⟨g, 0, none⟩ ∧ base ≤ g ∧ (∀ k x, xs[k]? = some x → w.cell? ⟨g, k, none⟩ = some (.int .i64 x)) ∧ (∀ k, k < n → w.frozen? ⟨g, k, none⟩ = false) ∧ ∀ k x, (w.setCell ⟨g, k, none⟩ (.int .i64 x)).ownsRow base e 1 (.slice V n cv) n ((xs.set k x).map (Value.int .i64)) := by
  obtain ⟨g, c, hv, _, hlt, hb, hc⟩ := own_at h hn
  injection hv with e1 _ e2
  subst e1 e2
  refine ⟨g, rfl, hb, fun k x hx => hc k _ (by rw [List.getElem?_map, hx]; rfl), fun k hk => ?_, fun k x => ?_⟩
  · exact (own_slot h (j := k) (by omega)).2
  · have := (h.stored k (.int .i64 x)).1
    rwa [← List.map_set] at this
end Go.Proofs.YtdgomaoikeffhaaGreat
/- weak's steps, walked: marks, numbers, exchange. -/
namespace Go.Proofs.YtdgomaoikeffhaaGreat
open Go.RowKit

/-- What a step leaves: the row changed where it stands, nothing else but new blocks. -/
def WkAns (w0 w' : World) (V : Option Addr) (n cv : Nat) (ys : List Int) (e : Ending) : Prop :=
  e = .returned (.tuple #[]) ∧ w'.ownsRow w0.heap.size 3 1 (.slice V n cv) n (ys.map (Value.int .i64)) ∧ Below w0.heap.size w0 w'
theorem cell_heap {w w' : World} {a : Addr} (h : w'.heap[a.block]? = w.heap[a.block]?) : w'.cell? a = w.cell? a := by unfold World.cell?; rw [h]
set_option maxRecDepth 100000 in
theorem wkCarried_any (c v : Int) (hv : carF c = v) (w : World) : Calls Tryz.prog 88 #[.int .i64 c] w fun e w' => e = .returned (.int .i64 v) ∧ w = w' := by
  unfold carF at hv
  by_cases h1 : c = 19
  · subst h1; rw [if_pos (by omega)] at hv; subst hv
    go_enter Tryz.func88, Tryz.ntmps88
    go_wp2; go_ret; exact ⟨rfl, rfl⟩
  by_cases h2 : c = 20
  · subst h2; rw [if_pos (by omega)] at hv; subst hv
    go_enter Tryz.func88, Tryz.ntmps88
    go_wp2; go_ret; exact ⟨rfl, rfl⟩
  by_cases h3 : c = 21
  · subst h3; rw [if_pos (by omega)] at hv; subst hv
    go_enter Tryz.func88, Tryz.ntmps88
    go_wp2; go_ret; exact ⟨rfl, rfl⟩
  by_cases h4 : c = 22
  · subst h4; rw [if_pos (by omega)] at hv; subst hv
    go_enter Tryz.func88, Tryz.ntmps88
    go_wp2; go_ret; exact ⟨rfl, rfl⟩
  rw [if_neg (by omega)] at hv
  subst hv
  have g1 : (c == 19) = false := by simp [h1]
  have g2 : (c == 20) = false := by simp [h2]
  have g3 : (c == 21) = false := by simp [h3]
  have g4 : (c == 22) = false := by simp [h4]
  clear h1 h2 h3 h4
  go_enter Tryz.func88, Tryz.ntmps88
  go_wp2; go_ret; exact ⟨rfl, rfl⟩
set_option maxRecDepth 100000 in
set_option maxHeartbeats 2000000 in
theorem wkMarks_any (sb : Nat) (sos : Int) (V : Option Addr) (n cv : Nat) (xs : List Int) (w0 w : World) (hs : carF sos = sos) (hbx : w0.heap[sb]? = some (.cells #[.int .i64 sos] 3 (0, 0))) (hb : Below w0.heap.size w0 w) (hown : w.ownsRow w0.heap.size 3 1 (.slice V n cv) n (xs.map (Value.int .i64))) (hn : n ≤ 1000) :
    Calls Tryz.prog 87 #[.slice V n cv, .pointer (some ⟨sb, 0, none⟩)] w fun e w' => WkAns w0 w' V n cv (wk1 sos xs) e := by
  have hlen : xs.length = n := by have := hown.1; simpa using this
  have hyl : (wk1 sos xs).length = n := by rw [wk1_len, hlen]
  have HAT := Lib.hid (fun k x (h : xs[k]? = some x) => (wk1_at (p := sos) h).trans (by rw [ah1_of hs]))
  obtain ⟨ys, hys⟩ : ∃ ys, wk1 sos xs = ys := ⟨_, rfl⟩
  rw [hys] at hyl HAT ⊢
  have HL := Lib.hid hlen
  have HYL := Lib.hid hyl
  have HO := Lib.hid hown
  have HB := Lib.hid hb
  have cb := hp_cell (j := 0) ((hb.block _ (hp_lt hbx)).trans hbx) rfl
  clear hlen hyl hys hown hb hbx hs
  go_enter Tryz.func87, Tryz.ntmps87
  go_wp2_with fail
  clear cb
  go_loopw [9, 3] (fun i a wr => ∃ k : Nat, k ≤ n ∧ i = .int .i64 (k : Int) ∧ a = .int .i64 (ah1 sos ys k) ∧ wr.ownsRow w0.heap.size 3 1 (.slice V n cv) n ((ys.take k ++ xs.drop k).map (Value.int .i64)) ∧ Below w0.heap.size w0 wr) (fun i _ _ => n - (intOf i).toNat)
  case atStart => exact ⟨0, Nat.zero_le _, rfl, rfl, by simpa using HO.out, HB.out⟩
  case round =>
    obtain ⟨k, hk, rfl, rfl, hown, hb⟩ := hrel
    by_cases hlt : k < n
    · obtain ⟨x, hxk⟩ : ∃ x, xs[k]? = some x := ⟨_, List.getElem?_eq_getElem (by rw [HL.out]; exact hlt)⟩
      have hyk := HAT.out k x hxk
      obtain ⟨a, ha⟩ : ∃ a, ah1 sos ys k = a := ⟨_, rfl⟩
      rw [ha] at hyk ⊢
      obtain ⟨g, rfl, hgb, hc, hf, hst⟩ := row_at hown (by omega)
      have cx := hc k x (by rw [wmix_at HYL.out hk (Nat.le_refl _), hxk])
      have fx := hf k hlt
      have HN := Lib.hid (show ∀ y, ys[k]? = some y → ah1 sos ys (k + 1) = carF y from fun y h => by
        show carF (ys.getD k 0) = _
        rw [List.getD_eq_getElem?_getD, h]; rfl)
      have HYK := Lib.hid hyk
      by_cases h8 : x = 8
      · subst h8
        have hy8 : ys[k]? = some a := by rw [HYK.out, if_pos rfl]
        obtain ⟨v, hv⟩ : ∃ v, carF a = v := ⟨_, rfl⟩
        have HV := Lib.hid hv
        have HC := Lib.hid (fun W => wkCarried_any a v hv W)
        have HO2 := Lib.hid (by have := hst k a; rwa [wmix_set HL.out HYL.out hlt hy8] at this)
        have HB2 := Lib.hid (hb.setCell (p := ⟨g, k, none⟩) hgb (.int .i64 a))
        have HY8 := Lib.hid hy8
        obtain ⟨g9, e9, _, hc9, _, _⟩ := row_at HO2.out (by omega)
        simp only [Option.some.injEq, Addr.mk.injEq, and_true] at e9
        subst e9
        have c2 := hc9 k a (by rw [wmix_lt HYL.out (by omega) (by omega), hy8])
        clear hown hb hxk hyk hc hf hst hv hy8 ha hc9
        go_wp2_with fail
        refine (HC.out _).mono ?_
        rintro e w2 ⟨rfl, rfl⟩
        go_wp2_with fail
        go_roundw
        case rel => exact ⟨k + 1, by omega, by go_num, by rw [HN.out _ HY8.out, HV.out], HO2.out, HB2.out⟩
        case measure => simp [intOf]; omega
      · have hy8 : ys[k]? = some x := by rw [HYK.out, if_neg h8]
        obtain ⟨v, hv⟩ : ∃ v, carF x = v := ⟨_, rfl⟩
        have HV := Lib.hid hv
        have HC := Lib.hid (fun W => wkCarried_any x v hv W)
        have HO2 := Lib.hid (by have := hown; rwa [wmix_keep HL.out HYL.out hlt hxk hy8] at this)
        have HB2 := Lib.hid hb
        have HY8 := Lib.hid hy8
        have g8 : (x == 8) = false := by simp [h8]
        clear hown hb hxk hyk hc hf hst hv hy8 ha h8
        go_wp2_with fail
        refine (HC.out _).mono ?_
        rintro e w2 ⟨rfl, rfl⟩
        go_wp2_with fail
        go_roundw
        case rel => exact ⟨k + 1, by omega, by go_num, by rw [HN.out _ HY8.out, HV.out], HO2.out, HB2.out⟩
        case measure => simp [intOf]; omega
    · have HE := Lib.hid (by have := hown; rwa [show k = n by omega, wmix_all HL.out HYL.out] at this)
      have HB2 := Lib.hid hb
      clear hown hb
      go_wp2_with fail
      exact bodyPost_end (v := .tuple #[]) (by simp [results, go_sem]) rfl ⟨rfl, HE.out, HB2.out⟩
/-- The boxes of a step on numbers. -/
structure NBox (w0 : World) (sb tb ab ob : Nat) (o a sos : Int) (S : List Int) : Prop where
  hs : w0.heap[sb]? = some (.cells #[.int .i64 sos] 3 (0, 0))
  ht : ∃ C m c, w0.heap[tb]? = some (.cells #[.slice C m c] 22 (0, 0)) ∧ Rd w0 1 C m (S.map (Value.int .i64)) ∧ m ≤ 1000
  ha : w0.heap[ab]? = some (.cells #[.int .i64 a] 3 (0, 0))
  ho : w0.heap[ob]? = some (.cells #[.int .i64 o] 3 (0, 0))
theorem NBox.below {w0 w : World} {sb tb ab ob : Nat} {o a sos : Int} {S : List Int} (h : NBox w0 sb tb ab ob o a sos S) (hb : Below w0.heap.size w0 w) : NBox w sb tb ab ob o a sos S :=
  ⟨(hb.block _ (hp_lt h.hs)).trans h.hs, by obtain ⟨C, m, c, h1, h2, h3⟩ := h.ht; exact ⟨C, m, c, (hb.block _ (hp_lt h1)).trans h1, h2.below hb, h3⟩, (hb.block _ (hp_lt h.ha)).trans h.ha, (hb.block _ (hp_lt h.ho)).trans h.ho⟩
set_option maxRecDepth 100000 in
set_option maxHeartbeats 2000000 in
theorem wkNumbers_any (sb tb ab ob : Nat) (o a sos : Int) (S : List Int) (V : Option Addr) (n cv : Nat) (xs : List Int) (w0 w : World) (hx : NBox w0 sb tb ab ob o a sos S) (hb : Below w0.heap.size w0 w) (hown : w.ownsRow w0.heap.size 3 1 (.slice V n cv) n (xs.map (Value.int .i64))) (hn : n ≤ 1000) :
    Calls Tryz.prog 106 #[.slice V n cv, .pointer (some ⟨sb, 0, none⟩), .pointer (some ⟨tb, 0, none⟩), .pointer (some ⟨ab, 0, none⟩), .pointer (some ⟨ob, 0, none⟩)] w fun e w' => WkAns w0 w' V n cv (wkN o a S sos xs) e := by
  have hlen : xs.length = n := by have := hown.1; simpa using this
  have hyl : (wkN o a S sos xs).length = n := by rw [wkN_len, hlen]
  have HAT := Lib.hid (fun k x (h : xs[k]? = some x) => wkN_at (o := o) (a := a) (S := S) (p := sos) h)
  obtain ⟨ys, hys⟩ : ∃ ys, wkN o a S sos xs = ys := ⟨_, rfl⟩
  rw [hys] at hyl HAT ⊢
  have HL := Lib.hid hlen
  have HYL := Lib.hid hyl
  have HO := Lib.hid hown
  have HB := Lib.hid hb
  have HX := Lib.hid hx
  have cb := hp_cell (j := 0) (hx.below hb).hs rfl
  clear hlen hyl hys hown hb hx
  go_enter Tryz.func106, Tryz.ntmps106
  go_wp2_with fail
  clear cb
  go_loopw [12, 6] (fun i p wr => ∃ k : Nat, k ≤ n ∧ i = .int .i64 (k : Int) ∧ p = .int .i64 (stN S sos xs k) ∧ wr.ownsRow w0.heap.size 3 1 (.slice V n cv) n ((ys.take k ++ xs.drop k).map (Value.int .i64)) ∧ Below w0.heap.size w0 wr) (fun i _ _ => n - (intOf i).toNat)
  case atStart => exact ⟨0, Nat.zero_le _, rfl, rfl, by simpa using HO.out, HB.out⟩
  case round =>
    obtain ⟨k, hk, rfl, rfl, hown, hb⟩ := hrel
    by_cases hlt : k < n
    · obtain ⟨x, hxk⟩ : ∃ x, xs[k]? = some x := ⟨_, List.getElem?_eq_getElem (by rw [HL.out]; exact hlt)⟩
      have hyk := HAT.out k x hxk
      obtain ⟨p, hp⟩ : ∃ p, stN S sos xs k = p := ⟨_, rfl⟩
      have hnx : stN S sos xs (k + 1) = skN S p x := by rw [stN, hp, List.getD_eq_getElem?_getD, hxk]; rfl
      rw [hp] at hyk ⊢
      obtain ⟨g, rfl, hgb, hc, hf, hst⟩ := row_at hown (by omega)
      have cx := hc k x (by rw [wmix_at HYL.out hk (Nat.le_refl _), hxk])
      have fx := hf k hlt
      have hxb := HX.out.below hb
      obtain ⟨C, m, c, ht, hrC, hm⟩ := hxb.ht
      have ct := hp_cell (j := 0) ht rfl
      have ca := hp_cell (j := 0) hxb.ha rfl
      have co := hp_cell (j := 0) hxb.ho rfl
      have HC := Lib.hid (containsI_any C m c S x wr hrC hm)
      have HNX := Lib.hid hnx
      obtain ⟨p2, hp2⟩ : ∃ p2, skN S p x = p2 := ⟨_, rfl⟩
      rw [hp2] at hyk HNX
      unfold skN at hp2
      unfold nkN at hyk
      have HP2 := Lib.hid hp2
      obtain ⟨b, hbb⟩ : ∃ b, decide (x ∈ S) = b := ⟨_, rfl⟩
      rw [hbb] at HC
      have hp3 : (if b = true then x else p) = p2 := by rw [← hp2, ← hbb]; simp
      clear hp2 hbb ht hrC hnx hp hc hf hm hxb
      by_cases h3 : x = 3 ∧ p2 = a
      · obtain ⟨rfl, rfl⟩ := h3
        rw [if_pos ⟨rfl, rfl⟩] at hyk
        have HO2 := Lib.hid (by have := hst k o; rwa [wmix_set HL.out HYL.out hlt hyk] at this)
        have HB2 := Lib.hid (hb.setCell (p := ⟨g, k, none⟩) hgb (.int .i64 o))
        clear hown hb hxk hyk hst
        cases b
        all_goals
          simp only [Bool.false_eq_true, if_false, if_true] at hp3
          subst hp3
          go_wp2_with fail
          refine HC.out.mono ?_
          rintro e w2 ⟨rfl, rfl⟩
          go_wp2_with fail
          go_roundw
          case rel => exact ⟨k + 1, by omega, by go_num, by rw [HNX.out], HO2.out, HB2.out⟩
          case measure => simp [intOf]; omega
      · rw [if_neg h3] at hyk
        have HO2 := Lib.hid (by have := hown; rwa [wmix_keep HL.out HYL.out hlt hxk hyk] at this)
        have HB2 := Lib.hid hb
        clear hown hb hxk hyk hst
        by_cases hx3 : x = 3
        · have hpa : ¬ p2 = a := fun h => h3 ⟨hx3, h⟩
          have gpa : (p2 == a) = false := by simp [hpa]
          subst hx3
          clear h3 hpa
          cases b
          all_goals
            simp only [Bool.false_eq_true, if_false, if_true] at hp3
            subst hp3
            go_wp2_with fail
            refine HC.out.mono ?_
            rintro e w2 ⟨rfl, rfl⟩
            go_wp2_with fail
            go_roundw
            case rel => exact ⟨k + 1, by omega, by go_num, by rw [HNX.out], HO2.out, HB2.out⟩
            case measure => simp [intOf]; omega
        · have g3 : (x == 3) = false := by simp [hx3]
          clear h3 hx3
          cases b
          all_goals
            simp only [Bool.false_eq_true, if_false, if_true] at hp3
            subst hp3
            go_wp2_with fail
            refine HC.out.mono ?_
            rintro e w2 ⟨rfl, rfl⟩
            go_wp2_with fail
            go_roundw
            case rel => exact ⟨k + 1, by omega, by go_num, by rw [HNX.out], HO2.out, HB2.out⟩
            case measure => simp [intOf]; omega
    · have HE := Lib.hid (by have := hown; rwa [show k = n by omega, wmix_all HL.out HYL.out] at this)
      have HB2 := Lib.hid hb
      clear hown hb
      go_wp2_with fail
      exact bodyPost_end (v := .tuple #[]) (by simp [results, go_sem]) rfl ⟨rfl, HE.out, HB2.out⟩
set_option maxRecDepth 100000 in
set_option maxHeartbeats 2000000 in
theorem wkExchange_any (o : Int) (S : List Int) (C : Option Addr) (m c : Nat) (V : Option Addr) (n cv : Nat) (xs : List Int) (w0 w : World) (hrC : Rd w 1 C m (S.map (Value.int .i64))) (hCV : 0 < m → ∀ ad g, C = some ad → V = some ⟨g, 0, none⟩ → 0 < n → ad.block ≠ g) (hm : m ≤ 1000) (hb : Below w0.heap.size w0 w) (hown : w.ownsRow w0.heap.size 3 1 (.slice V n cv) n (xs.map (Value.int .i64))) (hn : n ≤ 1000) :
    Calls Tryz.prog 90 #[.slice V n cv, .int .i64 o, .slice C m c] w fun e w' => WkAns w0 w' V n cv (xs.map (exF o S)) e := by
  have hlen : xs.length = n := by have := hown.1; simpa using this
  have hyl : (xs.map (exF o S)).length = n := by rw [List.length_map, hlen]
  have HAT := Lib.hid (fun k x (h : xs[k]? = some x) => (show (xs.map (exF o S))[k]? = some (exF o S x) by rw [List.getElem?_map, h]; rfl))
  obtain ⟨ys, hys⟩ : ∃ ys, xs.map (exF o S) = ys := ⟨_, rfl⟩
  rw [hys] at hyl HAT ⊢
  have HL := Lib.hid hlen
  have HYL := Lib.hid hyl
  have HO := Lib.hid hown
  have HB := Lib.hid hb
  have HR := Lib.hid hrC
  have HCV := Lib.hid hCV
  clear hlen hyl hys hown hb hrC hCV
  go_enter Tryz.func90, Tryz.ntmps90
  go_wp2_with fail
  go_loopw [10] (fun i wr => ∃ k : Nat, k ≤ n ∧ i = .int .i64 (k : Int) ∧ Rd wr 1 C m (S.map (Value.int .i64)) ∧ wr.ownsRow w0.heap.size 3 1 (.slice V n cv) n ((ys.take k ++ xs.drop k).map (Value.int .i64)) ∧ Below w0.heap.size w0 wr) (fun i _ => n - (intOf i).toNat)
  case atStart => exact ⟨0, Nat.zero_le _, rfl, HR.out, by simpa using HO.out, HB.out⟩
  case round =>
    obtain ⟨k, hk, rfl, hrC, hown, hb⟩ := hrel
    by_cases hlt : k < n
    · obtain ⟨x, hxk⟩ : ∃ x, xs[k]? = some x := ⟨_, List.getElem?_eq_getElem (by rw [HL.out]; exact hlt)⟩
      have hyk := HAT.out k x hxk
      unfold exF at hyk
      obtain ⟨g, rfl, hgb, hc, hf, hst⟩ := row_at hown (by omega)
      have cx := hc k x (by rw [wmix_at HYL.out hk (Nat.le_refl _), hxk])
      have fx := hf k hlt
      have HC := Lib.hid (containsI_any C m c S x wr hrC hm)
      by_cases hS : x ∈ S
      · rw [if_pos hS] at hyk
        rw [decide_eq_true hS] at HC
        have HO2 := Lib.hid (by have := hst k o; rwa [wmix_set HL.out HYL.out hlt hyk] at this)
        have HB2 := Lib.hid (hb.setCell (p := ⟨g, k, none⟩) hgb (.int .i64 o))
        have HR2 : Hid (Rd (wr.setCell ⟨g, k, none⟩ (.int .i64 o)) 1 C m (S.map (Value.int .i64))) := Lib.hid ⟨hrC.1, fun h0 => by
          obtain ⟨ad, rfl, hl, hcl⟩ := hrC.2 h0
          have hne := HCV.out h0 ad g rfl rfl (by omega)
          refine ⟨ad, rfl, by simpa [World.setCell] using hl, fun j u hu => ?_⟩
          have h1 := hcl j u hu
          have h2 : (wr.setCell ⟨g, k, none⟩ (.int .i64 o)).heap[(ad.add j).block]? = wr.heap[(ad.add j).block]? := hp_far (by rw [blockAdd]; exact hne) _ _
          exact (cell_heap h2).trans h1⟩
        clear hown hb hxk hyk hst hrC hc hf hS
        go_wp2_with fail
        refine HC.out.mono ?_
        rintro e w2 ⟨rfl, rfl⟩
        go_wp2_with fail
        go_roundw
        case rel => exact ⟨k + 1, by omega, by go_num, HR2.out, HO2.out, HB2.out⟩
        case measure => simp [intOf]; omega
      · rw [if_neg hS] at hyk
        rw [decide_eq_false hS] at HC
        have HO2 := Lib.hid (by have := hown; rwa [wmix_keep HL.out HYL.out hlt hxk hyk] at this)
        have HB2 := Lib.hid hb
        have HR2 := Lib.hid hrC
        clear hown hb hxk hyk hst hrC hc hf hS
        go_wp2_with fail
        refine HC.out.mono ?_
        rintro e w2 ⟨rfl, rfl⟩
        go_wp2_with fail
        go_roundw
        case rel => exact ⟨k + 1, by omega, by go_num, HR2.out, HO2.out, HB2.out⟩
        case measure => simp [intOf]; omega
    · have HE := Lib.hid (by have := hown; rwa [show k = n by omega, wmix_all HL.out HYL.out] at this)
      have HB2 := Lib.hid hb
      clear hown hb hrC
      go_wp2_with fail
      exact bodyPost_end (v := .tuple #[]) (by simp [results, go_sem]) rfl ⟨rfl, HE.out, HB2.out⟩
end Go.Proofs.YtdgomaoikeffhaaGreat
/- Which blocks a call may write. -/
namespace Go.Proofs.YtdgomaoikeffhaaGreat
open Go.RowKit

/-- w' is w with new blocks, and with writes to the blocks of S alone. -/
structure Kept (w w' : World) (S : List Nat) : Prop where
  os : w'.os = w.os
  tape : w'.tape = w.tape
  output : w'.output = w.output
  size : w.heap.size ≤ w'.heap.size
  block : ∀ i, i < w.heap.size → i ∉ S → w'.heap[i]? = w.heap[i]?
theorem Kept.refl (w : World) (S : List Nat) : Kept w w S := ⟨rfl, rfl, rfl, Nat.le_refl _, fun _ _ _ => rfl⟩
theorem Kept.trans {a b c : World} {S : List Nat} (h : Kept a b S) (k : Kept b c S) : Kept a c S :=
  ⟨k.os.trans h.os, k.tape.trans h.tape, k.output.trans h.output, Nat.le_trans h.size k.size, fun i hi hs => (k.block i (Nat.lt_of_lt_of_le hi h.size) hs).trans (h.block i hi hs)⟩
theorem Kept.of_grown {a b : World} {g : Nat} {S : List Nat} (h : a.grownBy b (some g)) (hg : g ∈ S) : Kept a b S :=
  ⟨h.os, h.tape, h.output, h.size, fun i hi hs => h.block i hi (fun e => hs (by obtain rfl := Option.some.inj e; exact hg))⟩
theorem Kept.of_below {a b : World} (h : Below a.heap.size a b) (S : List Nat) : Kept a b S := ⟨h.os, h.tape, h.output, h.size, fun i hi _ => h.block i hi⟩
theorem Kept.drew {a b : World} {S : List Nat} (h : Kept a b S) : Kept a b.drew S := ⟨h.os, h.tape, h.output, h.size, h.block⟩
theorem Kept.set {a b : World} {S : List Nat} (h : Kept a b S) {g : Nat} (hg : g ∈ S ∨ a.heap.size ≤ g) (j : Nat) (u : Value) : Kept a (b.setCell ⟨g, j, none⟩ u) S :=
  ⟨h.os, h.tape, h.output, by simpa [World.setCell] using h.size, fun i hi hs => (Below.heap_setCell b ⟨g, j, none⟩ u i (by
    show i ≠ g
    rintro rfl
    rcases hg with hg | hg
    · exact hs hg
    · omega)).trans (h.block i hi hs)⟩
theorem Kept.heap {w w' : World} {S : List Nat} (h : Kept w w' S) {g : Nat} {o : Obj} (hg : w.heap[g]? = some o) (hs : g ∉ S) : w'.heap[g]? = some o := by
  have hlt : g < w.heap.size := by
    rcases Nat.lt_or_ge g w.heap.size with h' | h'
    · exact h'
    · rw [Array.getElem?_eq_none h'] at hg
      cases hg
  exact (h.block g hlt hs).trans hg
theorem Kept.cell {w w' : World} {S : List Nat} (h : Kept w w' S) {g j : Nat} {v : Value} (hc : w.cell? ⟨g, j, none⟩ = some v) (hs : g ∉ S) : w'.cell? ⟨g, j, none⟩ = some v := by
  have hlt : g < w.heap.size := cell_lt hc
  unfold World.cell? at hc ⊢
  rw [show w'.heap[(⟨g, j, none⟩ : Addr).block]? = w.heap[(⟨g, j, none⟩ : Addr).block]? from h.block g hlt hs]
  exact hc
theorem heap_lt {w : World} {g : Nat} {o : Obj} (h : w.heap[g]? = some o) : g < w.heap.size := by
  rcases Nat.lt_or_ge g w.heap.size with h' | h'
  · exact h'
  · rw [Array.getElem?_eq_none h'] at h
    cases h
theorem frozen_of_heap {w : World} {g : Nat} {cs : Array Value} {t : TypeId} (h : w.heap[g]? = some (.cells cs t (0, 0))) (j : Nat) : w.frozen? ⟨g, j, none⟩ = false := by
  unfold World.frozen?
  rw [show w.heap[(⟨g, j, none⟩ : Addr).block]? = _ from h]
  rfl
theorem heap_setCell_far {w : World} {g k : Nat} (h : k ≠ g) (j : Nat) (u : Value) : (w.setCell ⟨g, j, none⟩ u).heap[k]? = w.heap[k]? := Below.heap_setCell w ⟨g, j, none⟩ u k h
end Go.Proofs.YtdgomaoikeffhaaGreat
/- What writes to some blocks alone leaves: rows, what lies below. -/
namespace Go.Proofs.YtdgomaoikeffhaaGreat
open Go.RowKit

theorem own_kept {w w' : World} {base : Nat} {e : TypeId} {size n : Nat} {v : Value} {xs : List Value} {S : List Nat} (h : w.ownsRow base e size v n xs) (hk : Kept w w' S) (hs : ∀ x ∈ S, x < base) : w'.ownsRow base e size v n xs :=
  ⟨h.1, h.2.imp id fun ⟨g, cap, cur, e1, hb, hg, r⟩ => ⟨g, cap, cur, e1, hb, hk.heap hg (fun hm => by have := hs g hm; omega), r⟩⟩
theorem own_keptG {w w' : World} {base : Nat} {e : TypeId} {size n g c : Nat} {xs : List Value} {S : List Nat} (h : w.ownsRow base e size (.slice (some ⟨g, 0, none⟩) n c) n xs) (hk : Kept w w' S) (hs : g ∉ S) : w'.ownsRow base e size (.slice (some ⟨g, 0, none⟩) n c) n xs := by
  refine ⟨h.1, h.2.imp id fun ⟨g', cap, cur, e1, hb, hg, r⟩ => ⟨g', cap, cur, e1, hb, hk.heap hg (fun hm => ?_), r⟩⟩
  simp only [Value.slice.injEq, Option.some.injEq, Addr.mk.injEq, and_true] at e1
  obtain ⟨rfl, _⟩ := e1
  exact hs hm
theorem Kept.lower {a b w : World} {S : List Nat} {B : Nat} (h : Kept a b S) (hb : Below B w a) (hB : B ≤ a.heap.size) (hs : ∀ x ∈ S, B ≤ x) : Below B w b :=
  ⟨h.os.trans hb.os, h.tape.trans hb.tape, h.output.trans hb.output, Nat.le_trans hb.size h.size, fun k hk => (h.block k (Nat.lt_of_lt_of_le hk hB) (fun hm => by have := hs k hm; omega)).trans (hb.block k hk)⟩
theorem Kept.belowE {w b : World} (h : Kept w b []) : Below w.heap.size w b := h.lower (Below.refl _ _) (Nat.le_refl _) (by simp)
theorem Kept.moreS {a b : World} {S T : List Nat} (h : Kept a b S) (hs : ∀ x ∈ S, x ∈ T) : Kept a b T := ⟨h.os, h.tape, h.output, h.size, fun i hi hn => h.block i hi (fun hm => hn (hs i hm))⟩
/-- Writes to new blocks are no writes. -/
theorem Kept.less {a b : World} {S T : List Nat} (h : Kept a b S) (hs : ∀ x ∈ S, x ∈ T ∨ a.heap.size ≤ x) : Kept a b T := ⟨h.os, h.tape, h.output, h.size, fun i hi hn => h.block i hi (fun hm => by
  rcases hs i hm with h' | h'
  · exact hn h'
  · omega)⟩
end Go.Proofs.YtdgomaoikeffhaaGreat
/- A map from places to numbers that the call itself has made, as a function of the place: looked up, stored, deleted (after XFinT, which has spans). -/
namespace Go.Proofs.YtdgomaoikeffhaaGreat
open Go.RowKit

def numD (s : Nat) : DataW Unit := .lit (.int .i64 (s : Int))
def valN (s : Nat) : Value := .int .i64 (s : Int)
/-- How a number in a map reads. -/
def numElem : Value → Option (DataW Unit × List MemPlace)
  | .int .i64 a => if 0 ≤ a then some (numD a.toNat, []) else none
  | _ => none
theorem numElem_mk (s : Nat) : numElem (valN s) = some (numD s, []) := by
  show (if 0 ≤ (s : Int) then some (numD (s : Int).toNat, []) else none) = _
  rw [if_pos (by omega), Int.toNat_natCast]
theorem numElem_inv {v : Value} {z : DataW Unit × List MemPlace} (h : numElem v = some z) : ∃ s : Nat, v = valN s ∧ z = (numD s, []) := by
  unfold numElem at h
  split at h
  · rename_i a
    split at h
    · rename_i ha
      exact ⟨a.toNat, by unfold valN; rw [Int.toNat_of_nonneg ha], (Option.some.inj h).symm⟩
    · simp at h
  · simp at h
theorem numD_inj {s t : Nat} (h : numD s = numD t) : s = t := by
  unfold numD at h
  simp only [DataW.lit.injEq, Lit.int.injEq, true_and] at h
  omega
theorem key_wfN {k : Nat} (h : k ≤ 100000000) : (Lit.int .i64 (k : Int)).wf = true := by
  simp [Lit.wf, IntKind.min, IntKind.max, IntKind.signed, IntKind.bits]; omega
/-- How many places below n have a span. -/
def cntMN (M : Nat → Option Nat) : Nat → Nat
  | 0 => 0
  | n + 1 => cntMN M n + (if (M n).isSome = true then 1 else 0)
theorem cntMN_le (M : Nat → Option Nat) (n : Nat) : cntMN M n ≤ n := by
  induction n with
  | zero => exact Nat.le_refl _
  | succ n ih => unfold cntMN; split <;> omega
def putMN (M : Nat → Option Nat) (k : Nat) (s : Nat) : Nat → Option Nat := fun j => if j = k then some s else M j
def delMN (M : Nat → Option Nat) (k : Nat) : Nat → Option Nat := fun j => if j = k then none else M j
theorem cntMN_far {M N : Nat → Option Nat} {n : Nat} (h : ∀ j, j < n → M j = N j) : cntMN M n = cntMN N n := by
  induction n with
  | zero => rfl
  | succ n ih => unfold cntMN; rw [ih (fun j hj => h j (by omega)), h n (by omega)]
theorem cntMN_put {M : Nat → Option Nat} {n k : Nat} (hk : k < n) (s : Nat) : cntMN (putMN M k s) n = if (M k).isSome = true then cntMN M n else cntMN M n + 1 := by
  induction n with
  | zero => omega
  | succ n ih =>
    by_cases e : k = n
    · subst e
      unfold cntMN
      rw [cntMN_far (M := putMN M k s) (N := M) (fun j hj => if_neg (by omega)), show putMN M k s k = some s from if_pos rfl]
      cases hm : (M k).isSome <;> simp
    · have h1 := ih (by omega)
      unfold cntMN
      rw [h1, show putMN M k s n = M n from if_neg (fun h => e h.symm)]
      cases hm : (M k).isSome <;> simp <;> omega
theorem cntMN_del {M : Nat → Option Nat} {n k : Nat} (hk : k < n) : cntMN (delMN M k) n + (if (M k).isSome = true then 1 else 0) = cntMN M n := by
  induction n with
  | zero => omega
  | succ n ih =>
    by_cases e : k = n
    · subst e
      unfold cntMN
      rw [cntMN_far (M := delMN M k) (N := M) (fun j hj => if_neg (by omega)), show delMN M k k = none from if_pos rfl]
      simp
    · have h1 := ih (by omega)
      unfold cntMN
      rw [show delMN M k n = M n from if_neg (fun h => e h.symm)]
      omega
/-- Block m is a map of places below n that has these spans. -/
def NumAt (w : World) (m n : Nat) (M : Nat → Option Nat) : Prop :=
  (∃ D : DataW Unit, w.ownsMap Tryz.prog 3 numElem m n D ∧ Maps.size D = cntMN M n ∧ ∀ k : Nat, Maps.has D (.int .i64 (k : Int)) = (M k).isSome ∧ D.atKey (.int .i64 (k : Int)) (numD 0) = numD ((M k).getD 0))
section
variable {w w' : World} {m n : Nat} {M : Nat → Option Nat}
theorem NumAt.drew (h : NumAt w m n M) : NumAt w.drew m n M := h
theorem NumAt.lt (h : NumAt w m n M) : m < w.heap.size := by obtain ⟨D, h, _⟩ := h; exact h.lt
theorem NumAt.heap (h : NumAt w m n M) (he : w'.heap[m]? = w.heap[m]?) : NumAt w' m n M := by
  obtain ⟨D, ⟨es, clock, h1, h2, h3, h4⟩, h5⟩ := h
  exact ⟨D, ⟨es, clock, he.trans h1, h2, h3, h4⟩, h5⟩
theorem NumAt.kept {S : List Nat} (h : NumAt w m n M) (hk : Kept w w' S) (hs : m ∉ S) : NumAt w' m n M := h.heap (hk.block m h.lt hs)
theorem fit_noneN : WideElems.Fit Tryz.prog 3 numElem #[] 0 := by
  obtain ⟨es, clock, h1, h2, _⟩ := World.ownsMap_made (default : World) Tryz.prog 3 numElem
  rw [heap_alloc_new] at h1
  injection h1 with h1
  injection h1 with h1 h3
  subst h1 h3
  exact h2
theorem cntMN_none (n : Nat) : cntMN (fun _ => none) n = 0 := by
  induction n with
  | zero => rfl
  | succ n ih => unfold cntMN; rw [ih]; rfl
theorem NumAt.none_ (h : w.heap[m]? = some (.map #[] 0)) (n : Nat) : NumAt w m n (fun _ => none) :=
  ⟨.map [], ⟨#[], 0, h, fit_noneN, Nat.zero_le _, by simp⟩, by rw [cntMN_none]; rfl, fun k => ⟨rfl, rfl⟩⟩
theorem own_fitN {k : TypeId} {R : Value → Option (DataW Unit × List MemPlace)} {b c : Nat} {D : DataW Unit} (h : w.ownsMap Tryz.prog k R b c D) {c' : Nat} (hc : Maps.size D ≤ c') : w.ownsMap Tryz.prog k R b c' D := by
  obtain ⟨es, clock, h1, h2, h3, rfl⟩ := h
  refine ⟨es, clock, h1, h2, ?_, rfl⟩
  have := length_read (P := Tryz.prog) (k := k) (R0 := R) es
  unfold Maps.size at hc
  simp only [this] at hc
  exact hc
theorem int_mapN : Maps.Keyed Tryz.prog 3 := Maps.int_keyed Tryz.underlying3
theorem map_typeN : Tryz.prog.underlying 89 = some (.map 3 3) := Tryz.underlying89
theorem num_zero (w : World) : (zeroValue 3).run Tryz.prog w = .ok (valN 0) w := Tryz.zeroValue3 w
theorem NumAt.look (h : NumAt w m n M) {k : Nat} (hk : k ≤ 100000000) : (Instr.lookup 89 (.map (some m)) (.int .i64 (k : Int)) false).run Tryz.prog w = .ok (valN ((M k).getD 0)) w := by
  obtain ⟨D, h1, _, h2⟩ := h
  obtain ⟨v, ps, hrun, hv⟩ := h1.lookup int_mapN map_typeN (num_zero w) (numElem_mk 0) (Maps.keyOf_int_mk Tryz.underlying3 (key_wfN hk))
  obtain ⟨s, rfl, hz⟩ := numElem_inv hv
  rw [(h2 k).2] at hz
  rw [hrun, numD_inj (congrArg Prod.fst hz)]
theorem NumAt.look_ok (h : NumAt w m n M) {k : Nat} (hk : k ≤ 100000000) : (Instr.lookup 89 (.map (some m)) (.int .i64 (k : Int)) true).run Tryz.prog w = .ok (.tuple #[valN ((M k).getD 0), .bool (M k).isSome]) w := by
  obtain ⟨D, h1, _, h2⟩ := h
  obtain ⟨v, ps, hrun, hv⟩ := h1.look_ok int_mapN map_typeN (num_zero w) (numElem_mk 0) (Maps.keyOf_int_mk Tryz.underlying3 (key_wfN hk))
  obtain ⟨s, rfl, hz⟩ := numElem_inv hv
  rw [(h2 k).2] at hz
  rw [hrun, (h2 k).1, numD_inj (congrArg Prod.fst hz)]
set_option maxRecDepth 100000 in
theorem NumAt.store (h : NumAt w m n M) {k : Nat} (hk : k < n) (hc : n ≤ 100000000) (s : Nat) : ∃ w', (Instr.mapUpdate 89 (.map (some m)) (.int .i64 (k : Int)) (valN s)).run Tryz.prog w = .ok () w' ∧ NumAt w' m n (putMN M k s) ∧ w.mapTurned w' m := by
  obtain ⟨D, h1, hsz, h2⟩ := h
  have hl : WideAt.IsKeyLit (.int .i64 (k : Int)) := trivial
  have htd := h1.tidy int_mapN
  obtain ⟨w', hrun, h3, h4⟩ := h1.store int_mapN map_typeN (by unfold maxLen; omega) (Maps.keyOf_int_mk Tryz.underlying3 (key_wfN (k := k) (by omega))) (numElem_mk s)
  have hsz2 : Maps.size (D.put (.int .i64 (k : Int)) (numD s)) = cntMN (putMN M k s) n := by
    rw [Maps.size_put htd, (h2 k).1, hsz, cntMN_put hk]
  refine ⟨w', hrun, ⟨_, own_fitN h3 (by rw [hsz2]; exact cntMN_le _ _), hsz2, fun j => ?_⟩, h4⟩
  unfold putMN
  by_cases e : j = k
  · subst e
    rw [if_pos rfl]
    exact ⟨Maps.has_put_same h1.isMap hl _, Maps.atKey_put_same h1.isMap hl _ _⟩
  · rw [if_neg e]
    have hne : (Lit.int .i64 (j : Int)) ≠ .int .i64 (k : Int) := fun e9 => e (by have := (Lit.int.inj e9).2; omega)
    exact ⟨(Maps.has_put_other hne _).trans (h2 j).1, (Maps.atKey_put_other hne _ _).trans (h2 j).2⟩
set_option maxRecDepth 100000 in
theorem NumAt.drop (h : NumAt w m n M) {k : Nat} (hk : k < n) (hc : n ≤ 100000000) (ty : TypeId) : ∃ w', (Builtin.delete_ #[89, 3] ty #[.map (some m), .int .i64 (k : Int)]).run Tryz.prog w = .ok (.tuple #[]) w' ∧ NumAt w' m n (delMN M k) ∧ w.mapTurned w' m := by
  obtain ⟨D, h1, hsz, h2⟩ := h
  have htd := h1.tidy int_mapN
  obtain ⟨w', hrun, h3, h4⟩ := h1.drop int_mapN map_typeN (Maps.keyOf_int_mk Tryz.underlying3 (key_wfN (k := k) (by omega))) ty
  have hsz2 : Maps.size (D.del (.int .i64 (k : Int))) = cntMN (delMN M k) n := by
    have e1 := Maps.size_del (k := .int .i64 (k : Int)) htd
    have e2 := cntMN_del (M := M) hk
    rw [(h2 k).1] at e1
    omega
  refine ⟨w', hrun, ⟨_, h3, hsz2, fun j => ?_⟩, h4⟩
  unfold delMN
  by_cases e : j = k
  · subst e
    rw [if_pos rfl]
    exact ⟨Maps.has_del_same, Maps.atKey_del_same _⟩
  · rw [if_neg e]
    have hne : (Lit.int .i64 (j : Int)) ≠ .int .i64 (k : Int) := fun e9 => e (by have := (Lit.int.inj e9).2; omega)
    exact ⟨(Maps.has_del_other hne).trans (h2 j).1, (Maps.atKey_del_other hne _).trans (h2 j).2⟩
theorem kept_turnedN (h : w.mapTurned w' m) : Kept w w' [m] := Kept.of_grown h.grown (List.mem_singleton_self _)
end
end Go.Proofs.YtdgomaoikeffhaaGreat
/- A stack of levels in memory: the block's cells, what a store leaves. No function of the program. -/
namespace Go.Proofs.YtdgomaoikeffhaaGreat
open Go.RowKit

def entV (e : Ent) : Value := .agg #[.int .i64 e.lv, .int .i64 e.ov, .bool e.is]
namespace Stk
theorem all_at {s : Stk} {k : Nat} {e : Ent} (h : s.all[k]? = some e) : k < s.len := by
  have := (List.getElem?_eq_some_iff.1 h).1
  simp [Stk.all] at this
  unfold Stk.len
  omega
theorem all_top (s : Stk) : s.all[s.R.length]? = some s.top := by
  unfold Stk.all Stk.top
  cases h : s.R with
  | nil => simp
  | cons e R => simp
end Stk
/-- The cells of a stack. -/
structure CsOf (cs : Array Value) (s : Stk) : Prop where
  sz : cs.size = 382
  a : cs[0]? = some (.int .i64 (s.a : Int))
  b : cs[1]? = some (.int .i64 (s.b : Int))
  c : cs[2]? = some (.int .i64 (s.c : Int))
  n : cs[381]? = some (.int .i64 ((s.R.length : Int) + 1))
  e : ∀ k e, s.all[k]? = some e → cs[3 + k * 3]? = some (.int .i64 e.lv) ∧ cs[3 + k * 3 + 1]? = some (.int .i64 e.ov) ∧ cs[3 + k * 3 + 2]? = some (.bool e.is)
section
variable {cs : Array Value} {s : Stk}
theorem aset_ne {i j : Nat} {v : Value} (h : i ≠ j) : (cs.setIfInBounds i v)[j]? = cs[j]? := by rw [Array.getElem?_setIfInBounds, if_neg h]
theorem aset_eq {i : Nat} {v : Value} (h : i < cs.size) : (cs.setIfInBounds i v)[i]? = some v := by rw [Array.getElem?_setIfInBounds, if_pos rfl, if_pos h]
theorem CsOf.setA (h : CsOf cs s) (x : Nat) : CsOf (cs.setIfInBounds 0 (.int .i64 (x : Int))) { s with a := x } :=
  ⟨by simp [h.sz], aset_eq (by rw [h.sz]; omega), by rw [aset_ne (by omega)]; exact h.b, by rw [aset_ne (by omega)]; exact h.c, by rw [aset_ne (by omega)]; exact h.n, fun k e he => by
    rw [aset_ne (by omega), aset_ne (by omega), aset_ne (by omega)]; exact h.e k e he⟩
theorem CsOf.setB (h : CsOf cs s) (x : Nat) : CsOf (cs.setIfInBounds 1 (.int .i64 (x : Int))) { s with b := x } :=
  ⟨by simp [h.sz], by rw [aset_ne (by omega)]; exact h.a, aset_eq (by rw [h.sz]; omega), by rw [aset_ne (by omega)]; exact h.c, by rw [aset_ne (by omega)]; exact h.n, fun k e he => by
    rw [aset_ne (by omega), aset_ne (by omega), aset_ne (by omega)]; exact h.e k e he⟩
theorem CsOf.setC (h : CsOf cs s) (x : Nat) : CsOf (cs.setIfInBounds 2 (.int .i64 (x : Int))) { s with c := x } :=
  ⟨by simp [h.sz], by rw [aset_ne (by omega)]; exact h.a, by rw [aset_ne (by omega)]; exact h.b, aset_eq (by rw [h.sz]; omega), by rw [aset_ne (by omega)]; exact h.n, fun k e he => by
    rw [aset_ne (by omega), aset_ne (by omega), aset_ne (by omega)]; exact h.e k e he⟩
theorem CsOf.pop (h : CsOf cs s) (hr : s.len ≤ 126) {x : Ent} {R : List Ent} (hR : s.R = x :: R) : CsOf (cs.setIfInBounds 381 (.int .i64 ((R.length : Int) + 1))) { s with R := R } :=
  ⟨by simp [h.sz], by rw [aset_ne (by omega)]; exact h.a, by rw [aset_ne (by omega)]; exact h.b, by rw [aset_ne (by omega)]; exact h.c, aset_eq (by rw [h.sz]; omega), fun k e he => by
    have hk := Stk.all_at he
    simp only [Stk.len] at hk hr
    rw [hR, List.length_cons] at hr
    rw [aset_ne (by omega), aset_ne (by omega), aset_ne (by omega)]
    refine h.e k e ?_
    unfold Stk.all at he ⊢
    rw [hR, List.reverse_cons, ← List.cons_append, List.getElem?_append_left (by simp; omega)]
    exact he⟩
theorem CsOf.put (h : CsOf cs s) (hr : s.len ≤ 125) (x : Ent) : CsOf ((((cs.setIfInBounds (3 + (s.R.length + 1) * 3) (.int .i64 x.lv)).setIfInBounds (3 + (s.R.length + 1) * 3 + 1) (.int .i64 x.ov)).setIfInBounds (3 + (s.R.length + 1) * 3 + 2) (.bool x.is)).setIfInBounds 381 (.int .i64 ((s.R.length : Int) + 1 + 1))) { s with R := x :: s.R } := by
  unfold Stk.len at hr
  refine ⟨by simp [h.sz], ?_, ?_, ?_, ?_, fun k e he => ?_⟩
  · rw [aset_ne (by omega), aset_ne (by omega), aset_ne (by omega), aset_ne (by omega)]; exact h.a
  · rw [aset_ne (by omega), aset_ne (by omega), aset_ne (by omega), aset_ne (by omega)]; exact h.b
  · rw [aset_ne (by omega), aset_ne (by omega), aset_ne (by omega), aset_ne (by omega)]; exact h.c
  · rw [aset_eq (by simp [h.sz])]; simp
  · have hk := Stk.all_at he
    simp only [Stk.len, List.length_cons] at hk
    have hs := h.sz
    by_cases hlt : k < s.R.length + 1
    · have he' : s.all[k]? = some e := by
        unfold Stk.all at he ⊢
        rw [List.reverse_cons, ← List.cons_append, List.getElem?_append_left (by simp; omega)] at he
        exact he
      have := h.e k e he'
      rw [aset_ne (by omega), aset_ne (by omega), aset_ne (by omega), aset_ne (by omega), aset_ne (by omega), aset_ne (by omega), aset_ne (by omega), aset_ne (by omega), aset_ne (by omega), aset_ne (by omega), aset_ne (by omega), aset_ne (by omega)]
      exact this
    · obtain rfl : k = s.R.length + 1 := by omega
      have hx : e = x := by
        unfold Stk.all at he
        rw [List.reverse_cons, ← List.cons_append, List.getElem?_append_right (by simp)] at he
        simpa using he.symm
      subst hx
      refine ⟨?_, ?_, ?_⟩
      · rw [aset_ne (by omega), aset_ne (by omega), aset_ne (by omega)]; exact aset_eq (by omega)
      · rw [aset_ne (by omega), aset_ne (by omega)]; exact aset_eq (by simp; omega)
      · rw [aset_ne (by omega)]; exact aset_eq (by simp; omega)
end
/-- A stack in block b. -/
structure StkAt (w : World) (b : Nat) (s : Stk) : Prop where
  hp : ∃ cs : Array Value, w.heap[b]? = some (.cells cs 112 (0, 0)) ∧ CsOf cs s
  ris : Rises s
section
variable {w w' : World} {b : Nat} {s : Stk}
theorem StkAt.lt (h : StkAt w b s) : b < w.heap.size := by obtain ⟨cs, h1, _⟩ := h.hp; exact hp_lt h1
theorem StkAt.keep {S : List Nat} (h : StkAt w b s) (hk : Kept w w' S) (hb : b ∉ S) : StkAt w' b s := by
  obtain ⟨cs, h1, h2⟩ := h.hp
  exact ⟨⟨cs, hk.heap h1 hb, h2⟩, h.ris⟩
theorem StkAt.low (h : StkAt w b s) (hb : Below w.heap.size w w') : StkAt w' b s := h.keep (Kept.of_below hb []) (by simp)
theorem StkAt.froz (h : StkAt w b s) (j : Nat) : w.frozen? ⟨b, j, none⟩ = false := by obtain ⟨cs, h1, _⟩ := h.hp; exact hp_froz h1 j
theorem StkAt.ca (h : StkAt w b s) : w.cell? ⟨b, 0, none⟩ = some (.int .i64 (s.a : Int)) := by obtain ⟨cs, h1, h2⟩ := h.hp; exact hp_cell h1 h2.a
theorem StkAt.cb (h : StkAt w b s) : w.cell? ⟨b, 1, none⟩ = some (.int .i64 (s.b : Int)) := by obtain ⟨cs, h1, h2⟩ := h.hp; exact hp_cell h1 h2.b
theorem StkAt.cc (h : StkAt w b s) : w.cell? ⟨b, 2, none⟩ = some (.int .i64 (s.c : Int)) := by obtain ⟨cs, h1, h2⟩ := h.hp; exact hp_cell h1 h2.c
theorem StkAt.cn (h : StkAt w b s) : w.cell? ⟨b, 381, none⟩ = some (.int .i64 ((s.R.length : Int) + 1)) := by obtain ⟨cs, h1, h2⟩ := h.hp; exact hp_cell h1 h2.n
theorem StkAt.ct (h : StkAt w b s) : w.cell? ⟨b, 3 + s.R.length * 3, none⟩ = some (.int .i64 s.top.lv) ∧ w.cell? ⟨b, 3 + s.R.length * 3 + 1, none⟩ = some (.int .i64 s.top.ov) ∧ w.cell? ⟨b, 3 + s.R.length * 3 + 2, none⟩ = some (.bool s.top.is) := by
  obtain ⟨cs, h1, h2⟩ := h.hp
  have := h2.e _ _ s.all_top
  exact ⟨hp_cell h1 this.1, hp_cell h1 this.2.1, hp_cell h1 this.2.2⟩
/-- The cells of the next entry are there. -/
theorem StkAt.room (h : StkAt w b s) {j : Nat} (hj : j < 382) : ∃ u, w.cell? ⟨b, j, none⟩ = some u := by
  obtain ⟨cs, h1, h2⟩ := h.hp
  exact ⟨_, hp_cell h1 (Array.getElem?_eq_getElem (by rw [h2.sz]; exact hj))⟩
theorem StkAt.setA (h : StkAt w b s) (x : Nat) : StkAt (w.setCell ⟨b, 0, none⟩ (.int .i64 (x : Int))) b { s with a := x } := by
  obtain ⟨cs, h1, h2⟩ := h.hp
  exact ⟨⟨_, heap_setCell_same w b 0 _ _ _ h1, h2.setA x⟩, h.ris⟩
theorem StkAt.setB (h : StkAt w b s) (x : Nat) : StkAt (w.setCell ⟨b, 1, none⟩ (.int .i64 (x : Int))) b { s with b := x } := by
  obtain ⟨cs, h1, h2⟩ := h.hp
  exact ⟨⟨_, heap_setCell_same w b 1 _ _ _ h1, h2.setB x⟩, h.ris⟩
theorem StkAt.setC (h : StkAt w b s) (x : Nat) : StkAt (w.setCell ⟨b, 2, none⟩ (.int .i64 (x : Int))) b { s with c := x } := by
  obtain ⟨cs, h1, h2⟩ := h.hp
  exact ⟨⟨_, heap_setCell_same w b 2 _ _ _ h1, h2.setC x⟩, h.ris⟩
theorem StkAt.pop (h : StkAt w b s) {x : Ent} {R : List Ent} (hR : s.R = x :: R) : StkAt (w.setCell ⟨b, 381, none⟩ (.int .i64 ((R.length : Int) + 1))) b { s with R := R } := by
  obtain ⟨cs, h1, h2⟩ := h.hp
  refine ⟨⟨_, heap_setCell_same w b 381 _ _ _ h1, h2.pop h.ris.len hR⟩, ?_⟩
  have := (near_pop h.ris).2.1
  unfold popS at this
  rw [if_neg (by rw [hR]; simp), hR] at this
  exact this
theorem StkAt.put (h : StkAt w b s) {x : Ent} (hx : s.top.lv < x.lv) (hx2 : x.lv ≤ 125)   : StkAt ((((w.setCell ⟨b, 3 + (s.R.length + 1) * 3, none⟩ (.int .i64 x.lv)).setCell ⟨b, 3 + (s.R.length + 1) * 3 + 1, none⟩ (.int .i64 x.ov)).setCell ⟨b, 3 + (s.R.length + 1) * 3 + 2, none⟩ (.bool x.is)).setCell ⟨b, 381, none⟩ (.int .i64 ((s.R.length : Int) + 1 + 1))) b { s with R := x :: s.R } := by
  obtain ⟨cs, h1, h2⟩ := h.hp
  have hr := h.ris.put hx hx2 (a := s.a) (b := s.b) (c := s.c)
  have hl := hr.len
  simp only [Stk.len, List.length_cons] at hl
  have g1 := heap_setCell_same w b (3 + (s.R.length + 1) * 3) _ _ (.int .i64 x.lv) h1
  have g2 := heap_setCell_same _ b (3 + (s.R.length + 1) * 3 + 1) _ _ (.int .i64 x.ov) g1
  have g3 := heap_setCell_same _ b (3 + (s.R.length + 1) * 3 + 2) _ _ (.bool x.is) g2
  have g4 := heap_setCell_same _ b 381 _ _ (.int .i64 ((s.R.length : Int) + 1 + 1)) g3
  exact ⟨⟨_, g4, h2.put (by unfold Stk.len; omega) x⟩, hr⟩
theorem StkAt.drew (h : StkAt w b s) : StkAt w.drew b s := ⟨h.hp, h.ris⟩
theorem StkAt.fits (h : StkAt w b s) : 0 ≤ s.top.lv ∧ s.top.lv ≤ 125 ∧ s.R.length < 126 := by
  have h1 := h.ris.top
  have h2 := h.ris.len
  have h3 := h.ris.2.2
  unfold Stk.len at h2
  omega
end
end Go.Proofs.YtdgomaoikeffhaaGreat
/- stack's made, Top, Len, Next, fit, Over, walked. -/
namespace Go.Proofs.YtdgomaoikeffhaaGreat
open Go.RowKit

set_option maxRecDepth 100000 in
theorem stkMade_any (b : Nat) (s : Stk) (w : World) (h : StkAt w b s) : Calls Tryz.prog 81 #[.pointer (some ⟨b, 0, none⟩)] w fun e w' => e = .returned (.bool true) ∧ w = w' := by
  have cn := h.cn
  have hb := h.fits
  clear h
  go_enter Tryz.func81, Tryz.ntmps81
  go_wp2
  go_ret
  exact ⟨by simp, rfl⟩
set_option maxRecDepth 100000 in
theorem stkFit_any (b : Nat) (s : Stk) (w : World) (h : StkAt w b s) : Calls Tryz.prog 102 #[.pointer (some ⟨b, 0, none⟩)] w fun e w' => e = .returned (.bool (decide (s.a = 0) && decide (s.b = 0))) ∧ w = w' := by
  have ca := h.ca
  have cb := h.cb
  clear h
  by_cases ha : s.a = 0
  · have ha' : (s.a : Int) = 0 := by omega
    rw [ha'] at ca
    go_enter Tryz.func102, Tryz.ntmps102
    go_wp2
    go_ret
    exact ⟨by simp [ha]; rw [Bool.eq_iff_iff]; simp, rfl⟩
  · have ha' : ((s.a : Int) == 0) = false := by simp; omega
    have ha2 : ¬ (s.a : Int) = 0 := by omega
    go_enter Tryz.func102, Tryz.ntmps102
    go_wp2
    go_ret
    exact ⟨by simp [ha], rfl⟩
set_option maxRecDepth 100000 in
theorem stkLen_any (b : Nat) (s : Stk) (w : World) (h : StkAt w b s) : Calls Tryz.prog 105 #[.pointer (some ⟨b, 0, none⟩)] w fun e w' => e = .returned (.int .i64 ((s.R.length : Int) + 1)) ∧ w = w' := by
  have cn := h.cn
  have HM := Lib.hid (stkMade_any b s w h)
  clear h
  go_enter Tryz.func105, Tryz.ntmps105
  go_wp2_with fail
  refine HM.out.mono ?_
  rintro e w1 ⟨rfl, rfl⟩
  go_wp2
  go_ret
  exact ⟨rfl, rfl⟩
set_option maxRecDepth 100000 in
theorem stkTop_any (b : Nat) (s : Stk) (w : World) (h : StkAt w b s) : Calls Tryz.prog 52 #[.pointer (some ⟨b, 0, none⟩)] w fun e w' => e = .returned (entV s.top) ∧ Below w.heap.size w w' := by
  have hbl := below_new w (.cells #[.int .i64 0, .int .i64 0, .bool false] 109)
  have h1 := h.low hbl
  have HB := Lib.hid hbl
  have HM := Lib.hid (stkMade_any b s _ h1)
  have cn := h1.cn
  have ct := h1.ct
  obtain ⟨ct0, ct1, ct2⟩ := ct
  have hf := h.fits
  have hr : (s.R.length : Int) < 126 := by omega
  have hb := h.lt
  obtain ⟨r, hr⟩ : ∃ r, s.R.length = r := ⟨_, rfl⟩
  rw [hr] at *
  clear h h1 hbl
  go_enter Tryz.func52, Tryz.ntmps52
  go_wp2_with fail
  refine HM.out.mono ?_
  rintro e w1 ⟨rfl, rfl⟩
  go_wp2
  go_region
  all_goals go_wp2
  all_goals refine bodyPost_ret (v := .agg #[.int .i64 s.top.lv, .int .i64 s.top.ov, .bool s.top.is]) (results_cell_row rfl _ _ w.heap.size 109 #[.int .i64 s.top.lv, .int .i64 s.top.ov, .bool s.top.is] (0, 0) _ rfl (heap_alloc_new w _) Tryz.underlying109 rfl (by kernel_rfl)) rfl ?_
  all_goals exact ⟨rfl, below_drew (below_new w _) 1⟩
theorem ent_lv (x y : Int) (z : Bool) (w : World) : (Instr.field 109 (.agg #[.int .i64 x, .int .i64 y, .bool z]) 0).run Tryz.prog w = .ok (.int .i64 x) w := by kernel_rfl
theorem ent_ov (x y : Int) (z : Bool) (w : World) : (Instr.field 109 (.agg #[.int .i64 x, .int .i64 y, .bool z]) 1).run Tryz.prog w = .ok (.int .i64 y) w := by kernel_rfl
theorem ent_is (x y : Int) (z : Bool) (w : World) : (Instr.field 109 (.agg #[.int .i64 x, .int .i64 y, .bool z]) 2).run Tryz.prog w = .ok (.bool z) w := by kernel_rfl
/-- The next level, as the program reckons it. -/
theorem bits_next : ∀ n : Fin 131, bits .or .i64 ((n.val : Int) + 1) 1 = nextN (n.val : Int) true ∧ bits .andNot .i64 ((n.val : Int) + 2) 1 = nextN (n.val : Int) false := by decide +kernel
theorem bits_nextN {x : Int} (h0 : 0 ≤ x) (h1 : x ≤ 125) : bits .or .i64 (x + 1) 1 = nextN x true ∧ bits .andNot .i64 (x + 2) 1 = nextN x false := by
  have := bits_next ⟨x.toNat, by omega⟩
  simp only [Int.toNat_of_nonneg h0] at this
  exact this
set_option maxRecDepth 100000 in
theorem stkNext_any (b : Nat) (s : Stk) (r : Bool) (w : World) (h : StkAt w b s) : Calls Tryz.prog 84 #[.pointer (some ⟨b, 0, none⟩), .bool r] w fun e w' => e = .returned (.int .i64 (nextS s r)) ∧ Below w.heap.size w w' := by
  have HT := Lib.hid (stkTop_any b s w h)
  obtain ⟨h0, h1, _⟩ := h.fits
  have HN := Lib.hid (bits_nextN h0 h1)
  have fd := ent_lv s.top.lv s.top.ov s.top.is
  clear h
  unfold nextS
  cases r
  · go_enter Tryz.func84, Tryz.ntmps84
    go_wp2_with fail
    refine HT.out.mono ?_
    rintro e w1 ⟨rfl, hb⟩
    unfold entV
    go_wp2
    rw [HN.out.2]
    go_ret
    exact ⟨rfl, hb⟩
  · go_enter Tryz.func84, Tryz.ntmps84
    go_wp2_with fail
    refine HT.out.mono ?_
    rintro e w1 ⟨rfl, hb⟩
    unfold entV
    go_wp2
    rw [HN.out.1]
    go_ret
    exact ⟨rfl, hb⟩
set_option maxRecDepth 100000 in
theorem stkOver_any (b : Nat) (s : Stk) (w : World) (h : StkAt w b s) : Calls Tryz.prog 104 #[.pointer (some ⟨b, 0, none⟩)] w fun e w' => e = .returned (.tuple #[.int .i64 (s.a : Int), .int .i64 (s.b : Int), .int .i64 (s.c : Int)]) ∧ Below w.heap.size w w' := by
  have HM := Lib.hid (stkMade_any b s w h)
  have ca := h.ca
  have cb := h.cb
  have cc := h.cc
  clear h
  go_enter Tryz.func104, Tryz.ntmps104
  go_wp2_with fail
  refine HM.out.mono ?_
  rintro e w1 ⟨rfl, rfl⟩
  go_wp2
  go_region
  all_goals go_wp2
  all_goals refine bodyPost_ret (v := .tuple #[.int .i64 (s.a : Int), .int .i64 (s.b : Int), .int .i64 (s.c : Int)]) (by simp [results, go_sem]) rfl ?_
  all_goals exact ⟨rfl, below_drew (Below.refl _ _) 1⟩
end Go.Proofs.YtdgomaoikeffhaaGreat
/- append onto a row of the call's own: the old row keeps what it had, wherever the new one lies. -/
namespace Go.Proofs.YtdgomaoikeffhaaGreat
open Go.RowKit

theorem run_appK {P : Program} (w : World) (t ty : TypeId) {base : Nat} {e : TypeId} {size bytes : Nat} (S : SliceOf P t e size bytes) (hsz : 0 < size)
    (v : Value) (n : Nat) (hn0 : 0 < n) (xs : List Value) (hown : w.ownsRow base e size v n xs)
    (ad : Addr) (m c : Nat) (news : List Value) (hr : Rd w size (some ad) m news) (h1 : ∀ u ∈ news, u.oneCell' = true)
    (hbytes : (n + m) * bytes ≤ 140737488355328) (h63 : n + m ≤ maxLen) (hbase : base ≤ w.heap.size) :
    ∃ v' w', (Builtin.append_ #[t, t] ty #[v, .slice (some ad) m c]).run P w = .ok v' w' ∧ w'.ownsRow base e size v' (n + m) (xs ++ news) ∧ w.grownBy w' v.ownBlock ∧ (v'.ownBlock = v.ownBlock ∨ (v'.ownBlock = some w.heap.size ∧ Below w.heap.size w w')) := by
  obtain ⟨ht, i, z, hi, hz, hs1, hb1, hzs⟩ := S
  obtain ⟨v', w', hrun, h2, h3, _, h5⟩ := run_append_own_at (P := P) w base t ty e i z size bytes ht hi hz hs1 hb1 hzs hsz v n xs hown ad m c news hr.1 hr.news h1 h63 hbytes hbase
  refine ⟨v', w', hrun, h2, h3, ?_⟩
  rcases h5 with h5 | h5
  · exact .inl h5
  · rcases hown.2 with ⟨rfl, hn⟩ | ⟨g, cap, cur, rfl, hbg, hg, hnc, hcm, hcs, htake⟩
    · omega
    · by_cases hroom : n + m ≤ cap
      · have hl : news.length = m * i.size := by rw [hs1]; exact hr.1
        have hfit : n * i.size + news.length ≤ cur.size := by rw [hl, hcs, hs1, ← Nat.add_mul]; exact Nat.mul_le_mul_right _ hroom
        have hr2 := run_append_room (P := P) w t ty e i ht hi g n cap cur hg ad m c news hl hr.news h1 hroom hfit
        rw [hr2] at hrun
        injection hrun with e1 e2
        subst e1
        exact .inl rfl
      · have hlo : xs.length = n * i.size := by rw [hs1]; exact hown.1
        have hl : news.length = m * i.size := by rw [hs1]; exact hr.1
        have hsmall : n + m ≤ 9223372036854775807 := by simp only [maxLen] at h63; omega
        have hr2 := run_append_grow (P := P) w t ty e i z ht hi hz ⟨g, 0, none⟩ n cap xs hlo (hown.cells (g := g) rfl) ad m c news hl hr.news (by omega) (by omega) (growslice_fits (by omega) (by rw [hb1]; exact hbytes))
        rw [hr2] at hrun
        injection hrun with e1 e2
        refine .inr ⟨h5, ?_⟩
        rw [← e2]
        exact (Below.refl w.heap.size w).drew.alloc (Nat.le_refl _) _
/-- append onto a row with elements, the source any slice with an address. -/
theorem wpList_appK {P : Program} {w : World} {ops : Array Oper} {rest : List Oper} {o : Oper} {a : Act} {Q : Exit → Act → World → Prop} (hgd : o.guard = none) (s x : Operand) (t : TypeId)
    (ho : o.op = .call { callee := .builtin .append, args := #[s, x], argTypes := #[t, t] })
    {base : Nat} {e : TypeId} {size bytes : Nat} (S : SliceOf P t e size bytes) (hsz : 0 < size)
    (v : Value) (n : Nat) (hn0 : 0 < n) (xs : List Value) (hs : a.eval s = v) (hown : w.ownsRow base e size v n xs)
    (ad : Addr) (m c : Nat) (news : List Value) (hx : a.eval x = .slice (some ad) m c) (hr : Rd w size (some ad) m news) (h1 : ∀ u ∈ news, u.oneCell' = true)
    (hbytes : (n + m) * bytes ≤ 140737488355328) (h63 : n + m ≤ maxLen) (hbase : base ≤ w.heap.size)
    (h : ∀ v' w', w'.ownsRow base e size v' (n + m) (xs ++ news) → w.grownBy w' v.ownBlock → (v'.ownBlock = v.ownBlock ∨ (v'.ownBlock = some w.heap.size ∧ Below w.heap.size w w')) → wpList P ops Q rest (a.put o.dst v') w') :
    wpList P ops Q (o :: rest) a w := by
  obtain ⟨v', w', hrun, h2, h3, h5⟩ := run_appK (P := P) w t o.type S hsz v n hn0 xs hown ad m c news hr h1 hbytes h63 hbase
  refine wpList_plain hgd fun K hK => ?_
  unfold Oper.wp execOp
  simp only [ho, resolve, invoke, builtin, Sem.run_bind, Sem.run_pure, Result.andThen_ok, List.map_toArray, List.map_cons, List.map_nil, hs, hx, hrun]
  exact hK _ _ (h v' w' h2 h3 h5)
end Go.Proofs.YtdgomaoikeffhaaGreat
/- Writes to new blocks, and to one, are writes to that one. -/
namespace Go.Proofs.YtdgomaoikeffhaaGreat
open Go.RowKit

/-- Writes to new blocks, and to one, are writes to that one. -/
theorem Kept.grownN {a b c : World} {S : List Nat} {row : Option Nat} (h : Kept a b S) (hg : b.grownBy c row) (hr : ∀ x, row = some x → a.heap.size ≤ x) : Kept a c S :=
  ⟨hg.os.trans h.os, hg.tape.trans h.tape, hg.output.trans h.output, Nat.le_trans h.size hg.size, fun i hi hn => (hg.block i (Nat.lt_of_lt_of_le hi h.size) (fun e => by have := hr i e.symm; omega)).trans (h.block i hi hn)⟩
end Go.Proofs.YtdgomaoikeffhaaGreat
/- How great the counts of a stack are. No function of the program. -/
namespace Go.Proofs.YtdgomaoikeffhaaGreat
open Go.RowKit

/-- No count is above m. -/
def Few (s : Stk) (m : Nat) : Prop := s.a ≤ m ∧ s.b ≤ m ∧ s.c ≤ m
theorem few_emb {s : Stk} {m : Nat} (h : Few s m) (r : Bool) (o : Int) : Few (embS s r o).2 (m + 1) := by
  obtain ⟨h1, h2, h3⟩ := h
  unfold Few
  cases hr : roomS s r with
  | true => rw [emb_room hr]; exact ⟨by simp only; omega, by simp only; omega, by simp only; omega⟩
  | false =>
    rw [emb_no hr]
    simp only
    split
    · exact ⟨by simp only; omega, by simp only; omega, by simp only; omega⟩
    · omega
theorem few_iso {s : Stk} {m : Nat} (h : Few s m) (r : Bool) : Few (isoS s r).2 (m + 1) := by
  obtain ⟨h1, h2, h3⟩ := h
  unfold Few
  cases hr : roomS s r with
  | true => rw [iso_room hr]; exact ⟨by simp only; omega, by simp only; omega, by simp only; omega⟩
  | false => rw [iso_no hr]; exact ⟨by simp only; omega, by simp only; omega, by simp only; omega⟩
theorem few_endE {s : Stk} {m : Nat} (h : Few s m) : Few (endES s) m := by
  obtain ⟨h1, h2, h3⟩ := h
  unfold Few endES popS
  repeat' split
  all_goals exact ⟨by (first | (simp only; omega) | omega), by (first | (simp only; omega) | omega), by (first | (simp only; omega) | omega)⟩
theorem few_endI {s : Stk} {m : Nat} (h : Few s m) : Few (endIS s) m := by
  obtain ⟨h1, h2, h3⟩ := h
  unfold Few endIS
  repeat' split
  all_goals exact ⟨by (first | (simp only; omega) | omega), by (first | (simp only; omega) | omega), by (first | (simp only; omega) | omega)⟩
theorem Few.up {s : Stk} {m n : Nat} (h : Few s m) (hn : m ≤ n) : Few s n := ⟨Nat.le_trans h.1 hn, Nat.le_trans h.2.1 hn, Nat.le_trans h.2.2 hn⟩
end Go.Proofs.YtdgomaoikeffhaaGreat
/- explicit: the counts along a paragraph, the matches within bounds, the answers as they grow. No function of the program. -/
namespace Go.Proofs.YtdgomaoikeffhaaGreat
open Go.RowKit

theorem few_a {s : Stk} {m : Nat} (h : Few s m) (x : Int) : Few (stepA s x) m := by
  unfold stepA
  split
  · exact few_endI h
  · exact h
theorem few_b {s : Stk} {m : Nat} (h : Few s m) (xs : List Int) (k : Nat) (x : Int) : Few (stepB xs k x s) (m + 1) := by
  unfold stepB
  repeat' split
  all_goals first
    | exact few_emb h _ _
    | exact (few_endE h).up (by omega)
    | exact few_iso h _
    | exact h.up (by omega)
theorem few_st (xs : List Int) (base : Int) : ∀ k, Few (stE xs base k) k
  | 0 => ⟨by simp [stE, newS], by simp [stE, newS], by simp [stE, newS]⟩
  | k + 1 => by rw [stE]; exact few_b (few_a (few_st xs base k) _) _ _ _
/-- What goes together lies within the text, or is -1. -/
theorem mat_in {xs : List Int} {y : Int} (h : y ∈ matF xs) : -1 ≤ y ∧ y ≤ (xs.length : Int) := by
  obtain ⟨j, hj⟩ := List.getElem?_of_mem h
  have hl := (List.getElem?_eq_some_iff.1 hj).1
  have g := matF_good xs
  rw [g.len] at hl
  by_cases ho : OpAt xs j
  · rw [g.op j ho] at hj
    have := ansF_le xs (j + 1) 0
    have := Option.some.inj hj
    omega
  · rcases g.else_ j hl ho with e | ⟨i, hi, e⟩
    · rw [e] at hj
      have := Option.some.inj hj
      omega
    · have hs := g.shut i hi (by omega)
      rw [e, hj] at hs
      have := Option.some.inj hs
      have := opAt_lt hi
      omega
/-- The answers as they stand at place k. -/
def lvZ (xs : List Int) (base : Int) (k n : Nat) : List Int := lvL xs base k ++ List.replicate (n - k) 0
def clZ (xs : List Int) (base : Int) (k n : Nat) : List Int := clL xs base k ++ List.replicate (n - k) 0
theorem lvZ_len {xs : List Int} {base : Int} {k n : Nat} (h : k ≤ n) : (lvZ xs base k n).length = n := by unfold lvZ; rw [List.length_append, lvL_len, List.length_replicate]; omega
theorem clZ_len {xs : List Int} {base : Int} {k n : Nat} (h : k ≤ n) : (clZ xs base k n).length = n := by unfold clZ; rw [List.length_append, clL_len, List.length_replicate]; omega
theorem lvZ_zero (xs : List Int) (base : Int) (n : Nat) : lvZ xs base 0 n = List.replicate n 0 := by simp [lvZ, lvL]
theorem clZ_zero (xs : List Int) (base : Int) (n : Nat) : clZ xs base 0 n = List.replicate n 0 := by simp [clZ, clL]
theorem lvZ_end (xs : List Int) (base : Int) (n : Nat) : lvZ xs base n n = lvL xs base n := by simp [lvZ]
theorem clZ_end (xs : List Int) (base : Int) (n : Nat) : clZ xs base n n = clL xs base n := by simp [clZ]
theorem set_next {l : List Int} {k n : Nat} (hl : l.length = k) (hk : k < n) (x : Int) : (l ++ List.replicate (n - k) 0).set k x = l ++ [x] ++ List.replicate (n - (k + 1)) 0 := by
  rw [show n - k = (n - (k + 1)) + 1 by omega, List.replicate_succ, List.set_append_right _ _ (by omega), hl, Nat.sub_self, List.set_cons_zero, List.append_assoc]
  rfl
theorem lvZ_step {xs : List Int} {base : Int} {k n : Nat} (hk : k < n) : (lvZ xs base k n).set k (exA xs base k).1 = lvZ xs base (k + 1) n := by
  unfold lvZ
  rw [set_next (lvL_len xs base k) hk, lvL_step]
theorem clZ_step {xs : List Int} {base : Int} {k n : Nat} (hk : k < n) : (clZ xs base k n).set k (exA xs base k).2 = clZ xs base (k + 1) n := by
  unfold clZ
  rw [set_next (clL_len xs base k) hk, clL_step]
end Go.Proofs.YtdgomaoikeffhaaGreat
/- make of ints, as a run. -/
namespace Go.Proofs.YtdgomaoikeffhaaGreat
open Go.RowKit
theorem mk_intsZ (n : Nat) (hn : n ≤ 100000000) (w : World) : (Instr.makeSlice 22 (.int .i64 (n : Int)) (.int .i64 (n : Int))).run Tryz.prog w = .ok (.slice (some ⟨w.heap.size, 0, none⟩) n n) (w.alloc (.cells (intsZ (List.replicate n 0)).toArray 3)) := by
  have hin : (Tryz.prog.info? 3).map (fun i => (i.zero, i.size, i.bytes)) = some (some (.int .i64 0), 1, 8) := by kernel_rfl
  obtain ⟨i, h1, h2, h3, h4⟩ := info_parts hin
  have h := run_make (P := Tryz.prog) w 22 3 i (.int .i64 0) Tryz.underlying22 h1 h2 .i64 .i64 n n (by omega) (Int.le_refl _) (by rw [h4]; omega) (by omega)
  rw [h3] at h
  simp only [Int.toNat_natCast, Nat.mul_one] at h
  rw [h]
  refine congrArg (fun c => Result.ok _ (w.alloc (.cells c _))) ?_
  apply Array.toList_inj.1
  rw [show (Value.int .i64 0).cells = #[.int .i64 0] from rfl, toList_madeCells_one]
  simp [intsZ]
end Go.Proofs.YtdgomaoikeffhaaGreat
/- What lies within a span; paragraphs lie within the text. -/
namespace Go.Proofs.YtdgomaoikeffhaaGreat
open Go.RowKit

/-- What lies within a span. -/
def subL (xs : List Int) (s : Sp) : List Int := (xs.take s.2.toNat).drop s.1.toNat
theorem parts_in : ∀ {l : List Sp} {e n : Int}, partsFrom e l n = true → 0 ≤ e → ∀ s ∈ l, e ≤ s.1 ∧ s.1 < s.2 ∧ s.2 ≤ n
  | [], _, _, _, _, s, hs => by cases hs
  | t :: l, e, n, h, he, s, hs => by
    simp only [partsFrom, Bool.and_eq_true, beq_iff_eq] at h
    obtain ⟨⟨h1, h2⟩, h3⟩ := h
    have hr := of_decide_eq_true h1
    rcases List.mem_cons.1 hs with rfl | hs
    · refine ⟨by omega, hr.2, ?_⟩
      have : ∀ {l : List Sp} {e n : Int}, partsFrom e l n = true → 0 ≤ e → e ≤ n := by
        intro l
        induction l with
        | nil => intro e n h _; simp only [partsFrom, beq_iff_eq] at h; omega
        | cons t l ih =>
          intro e n h he
          simp only [partsFrom, Bool.and_eq_true, beq_iff_eq] at h
          have hr := of_decide_eq_true h.1.1
          have := ih h.2 (by omega)
          omega
      exact this h3 (by omega)
    · have := parts_in h3 (by omega) s hs
      omega
theorem parL_in (xs : List Int) : ∀ s ∈ parL xs, 0 ≤ s.1 ∧ s.1 < s.2 ∧ s.2 ≤ xs.length := by
  intro s hs
  exact parts_in (parL_parts xs) (by omega) s hs
theorem sub_len {xs : List Int} {s : Sp} (h : 0 ≤ s.1 ∧ s.1 < s.2 ∧ s.2 ≤ xs.length) : ((subL xs s).length : Int) = s.2 - s.1 := by
  unfold subL
  rw [List.length_drop, List.length_take]
  omega
end Go.Proofs.YtdgomaoikeffhaaGreat
