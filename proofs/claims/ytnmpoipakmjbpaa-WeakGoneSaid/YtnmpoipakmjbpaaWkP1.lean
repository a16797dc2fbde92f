/- weak's steps, walked: marks, numbers, exchange. -/
import Derived.Test.YtnmpoipakmjbpaaWkE
import Derived.Test.YtnmpoipakmjbpaaCtI
import Derived.Test.YtnmpoipakmjbpaaMem2
import Derived.Test.YtnmpoipakmjbpaaHp
namespace Go.Proofs.Ytnmpoipakmjbpaa
open Go.RowKit

/-- What a step leaves: the row changed where it stands, nothing else but new blocks. -/
def StepAns (w0 w' : World) (V : Option Addr) (n cv : Nat) (ys : List Int) (e : Ending) : Prop :=
  e = .returned (.tuple #[]) ∧ w'.ownsRow w0.heap.size 3 1 (.slice V n cv) n (ys.map (Value.int .i64)) ∧ Below w0.heap.size w0 w'
/-- A row of the call's own, at a place: its cell, and that it can be written. -/
theorem row_at {w : World} {base : Nat} {e : TypeId} {V : Option Addr} {n cv : Nat} {xs : List Int} (h : w.ownsRow base e 1 (.slice V n cv) n (xs.map (Value.int .i64))) (hn : 0 < n) : ∃ g, V = some ⟨g, 0, none⟩ ∧ base ≤ g ∧ (∀ k x, xs[k]? = some x → w.cell? ⟨g, k, none⟩ = some (.int .i64 x)) ∧ (∀ k, k < n → w.frozen? ⟨g, k, none⟩ = false) ∧ ∀ k x, (w.setCell ⟨g, k, none⟩ (.int .i64 x)).ownsRow base e 1 (.slice V n cv) n ((xs.set k x).map (Value.int .i64)) := by
  obtain ⟨g, c, hv, _, hlt, hb, hc⟩ := own_at h hn
  injection hv with e1 _ e2
  subst e1 e2
  refine ⟨g, rfl, hb, fun k x hx => hc k _ (by rw [List.getElem?_map, hx]; rfl), fun k hk => ?_, fun k x => ?_⟩
  · exact (own_slot h (j := k) (by omega)).2
  · have := (h.stored k (.int .i64 x)).1
    rwa [← List.map_set] at this
theorem cell_heap {w w' : World} {a : Addr} (h : w'.heap[a.block]? = w.heap[a.block]?) : w'.cell? a = w.cell? a := by unfold World.cell?; rw [h]
set_option maxRecDepth 100000 in
theorem wkCarried_any (c v : Int) (hv : carF c = v) (w : World) : Calls Try.prog 71 #[.int .i64 c] w fun e w' => e = .returned (.int .i64 v) ∧ w = w' := by
  unfold carF at hv
  by_cases h1 : c = 19
  · subst h1; rw [if_pos (by omega)] at hv; subst hv
    go_enter Try.func71, Try.ntmps71
    go_wp2; go_ret; exact ⟨rfl, rfl⟩
  by_cases h2 : c = 20
  · subst h2; rw [if_pos (by omega)] at hv; subst hv
    go_enter Try.func71, Try.ntmps71
    go_wp2; go_ret; exact ⟨rfl, rfl⟩
  by_cases h3 : c = 21
  · subst h3; rw [if_pos (by omega)] at hv; subst hv
    go_enter Try.func71, Try.ntmps71
    go_wp2; go_ret; exact ⟨rfl, rfl⟩
  by_cases h4 : c = 22
  · subst h4; rw [if_pos (by omega)] at hv; subst hv
    go_enter Try.func71, Try.ntmps71
    go_wp2; go_ret; exact ⟨rfl, rfl⟩
  rw [if_neg (by omega)] at hv
  subst hv
  have g1 : (c == 19) = false := by simp [h1]
  have g2 : (c == 20) = false := by simp [h2]
  have g3 : (c == 21) = false := by simp [h3]
  have g4 : (c == 22) = false := by simp [h4]
  clear h1 h2 h3 h4
  go_enter Try.func71, Try.ntmps71
  go_wp2; go_ret; exact ⟨rfl, rfl⟩
set_option maxRecDepth 100000 in
set_option maxHeartbeats 2000000 in
theorem wkMarks_any (sb : Nat) (sos : Int) (V : Option Addr) (n cv : Nat) (xs : List Int) (w0 w : World) (hs : carF sos = sos) (hbx : w0.heap[sb]? = some (.cells #[.int .i64 sos] 3 (0, 0))) (hb : Below w0.heap.size w0 w) (hown : w.ownsRow w0.heap.size 3 1 (.slice V n cv) n (xs.map (Value.int .i64))) (hn : n ≤ 1000) :
    Calls Try.prog 70 #[.slice V n cv, .pointer (some ⟨sb, 0, none⟩)] w fun e w' => StepAns w0 w' V n cv (wk1 sos xs) e := by
  have hlen : xs.length = n := by have := hown.1; simpa using this
  have hyl : (wk1 sos xs).length = n := by rw [wk1_len, hlen]
  have HAT := Lib.hid (fun k x (h : xs[k]? = some x) => (wk1_at (p := sos) h).trans (by rw [ah1_of hs]))
  obtain ⟨ys, hys⟩ : ∃ ys, wk1 sos xs = ys := ⟨_, rfl⟩
  rw [hys] at hyl HAT ⊢
  have HL := Lib.hid hlen
  have HYL := Lib.hid hyl
  have HO := Lib.hid hown
  have HB := Lib.hid hb
  have cb := hp_cell (j := 0) ((hb.block _ (hp_lt hbx)).trans hbx) rfl
  clear hlen hyl hys hown hb hbx hs
  go_enter Try.func70, Try.ntmps70
  go_wp2_with fail
  clear cb
  go_loopw [9, 3] (fun i a wr => ∃ k : Nat, k ≤ n ∧ i = .int .i64 (k : Int) ∧ a = .int .i64 (ah1 sos ys k) ∧ wr.ownsRow w0.heap.size 3 1 (.slice V n cv) n ((ys.take k ++ xs.drop k).map (Value.int .i64)) ∧ Below w0.heap.size w0 wr) (fun i _ _ => n - (intOf i).toNat)
  case atStart => exact ⟨0, Nat.zero_le _, rfl, rfl, by simpa using HO.out, HB.out⟩
  case round =>
    obtain ⟨k, hk, rfl, rfl, hown, hb⟩ := hrel
    by_cases hlt : k < n
    · obtain ⟨x, hxk⟩ : ∃ x, xs[k]? = some x := ⟨_, List.getElem?_eq_getElem (by rw [HL.out]; exact hlt)⟩
      have hyk := HAT.out k x hxk
      obtain ⟨a, ha⟩ : ∃ a, ah1 sos ys k = a := ⟨_, rfl⟩
      rw [ha] at hyk ⊢
      obtain ⟨g, rfl, hgb, hc, hf, hst⟩ := row_at hown (by omega)
      have cx := hc k x (by rw [wmix_at HYL.out hk (Nat.le_refl _), hxk])
      have fx := hf k hlt
      have HN := Lib.hid (show ∀ y, ys[k]? = some y → ah1 sos ys (k + 1) = carF y from fun y h => by
        show carF (ys.getD k 0) = _
        rw [List.getD_eq_getElem?_getD, h]; rfl)
      have HYK := Lib.hid hyk
      by_cases h8 : x = 8
      · subst h8
        have hy8 : ys[k]? = some a := by rw [HYK.out, if_pos rfl]
        obtain ⟨v, hv⟩ : ∃ v, carF a = v := ⟨_, rfl⟩
        have HV := Lib.hid hv
        have HC := Lib.hid (fun W => wkCarried_any a v hv W)
        have HO2 := Lib.hid (by have := hst k a; rwa [wmix_set HL.out HYL.out hlt hy8] at this)
        have HB2 := Lib.hid (hb.setCell (p := ⟨g, k, none⟩) hgb (.int .i64 a))
        have HY8 := Lib.hid hy8
        obtain ⟨g9, e9, _, hc9, _, _⟩ := row_at HO2.out (by omega)
        simp only [Option.some.injEq, Addr.mk.injEq, and_true] at e9
        subst e9
        have c2 := hc9 k a (by rw [wmix_lt HYL.out (by omega) (by omega), hy8])
        clear hown hb hxk hyk hc hf hst hv hy8 ha hc9
        go_wp2_with fail
        refine (HC.out _).mono ?_
        rintro e w2 ⟨rfl, rfl⟩
        go_wp2_with fail
        go_roundw
        case rel => exact ⟨k + 1, by omega, by go_num, by rw [HN.out _ HY8.out, HV.out], HO2.out, HB2.out⟩
        case measure => simp [intOf]; omega
      · have hy8 : ys[k]? = some x := by rw [HYK.out, if_neg h8]
        obtain ⟨v, hv⟩ : ∃ v, carF x = v := ⟨_, rfl⟩
        have HV := Lib.hid hv
        have HC := Lib.hid (fun W => wkCarried_any x v hv W)
        have HO2 := Lib.hid (by have := hown; rwa [wmix_keep HL.out HYL.out hlt hxk hy8] at this)
        have HB2 := Lib.hid hb
        have HY8 := Lib.hid hy8
        have g8 : (x == 8) = false := by simp [h8]
        clear hown hb hxk hyk hc hf hst hv hy8 ha h8
        go_wp2_with fail
        refine (HC.out _).mono ?_
        rintro e w2 ⟨rfl, rfl⟩
        go_wp2_with fail
        go_roundw
        case rel => exact ⟨k + 1, by omega, by go_num, by rw [HN.out _ HY8.out, HV.out], HO2.out, HB2.out⟩
        case measure => simp [intOf]; omega
    · have HE := Lib.hid (by have := hown; rwa [show k = n by omega, wmix_all HL.out HYL.out] at this)
      have HB2 := Lib.hid hb
      clear hown hb
      go_wp2_with fail
      exact bodyPost_end (v := .tuple #[]) (by simp [results, go_sem]) rfl ⟨rfl, HE.out, HB2.out⟩
/-- The boxes of a step on numbers. -/
structure NBox (w0 : World) (sb tb ab ob : Nat) (o a sos : Int) (S : List Int) : Prop where
  hs : w0.heap[sb]? = some (.cells #[.int .i64 sos] 3 (0, 0))
  ht : ∃ C m c, w0.heap[tb]? = some (.cells #[.slice C m c] 22 (0, 0)) ∧ Rd w0 1 C m (S.map (Value.int .i64)) ∧ m ≤ 1000
  ha : w0.heap[ab]? = some (.cells #[.int .i64 a] 3 (0, 0))
  ho : w0.heap[ob]? = some (.cells #[.int .i64 o] 3 (0, 0))
theorem NBox.below {w0 w : World} {sb tb ab ob : Nat} {o a sos : Int} {S : List Int} (h : NBox w0 sb tb ab ob o a sos S) (hb : Below w0.heap.size w0 w) : NBox w sb tb ab ob o a sos S :=
  ⟨(hb.block _ (hp_lt h.hs)).trans h.hs, by obtain ⟨C, m, c, h1, h2, h3⟩ := h.ht; exact ⟨C, m, c, (hb.block _ (hp_lt h1)).trans h1, h2.below hb, h3⟩, (hb.block _ (hp_lt h.ha)).trans h.ha, (hb.block _ (hp_lt h.ho)).trans h.ho⟩
set_option maxRecDepth 100000 in
set_option maxHeartbeats 2000000 in
theorem wkNumbers_any (sb tb ab ob : Nat) (o a sos : Int) (S : List Int) (V : Option Addr) (n cv : Nat) (xs : List Int) (w0 w : World) (hx : NBox w0 sb tb ab ob o a sos S) (hb : Below w0.heap.size w0 w) (hown : w.ownsRow w0.heap.size 3 1 (.slice V n cv) n (xs.map (Value.int .i64))) (hn : n ≤ 1000) :
    Calls Try.prog 83 #[.slice V n cv, .pointer (some ⟨sb, 0, none⟩), .pointer (some ⟨tb, 0, none⟩), .pointer (some ⟨ab, 0, none⟩), .pointer (some ⟨ob, 0, none⟩)] w fun e w' => StepAns w0 w' V n cv (wkN o a S sos xs) e := by
  have hlen : xs.length = n := by have := hown.1; simpa using this
  have hyl : (wkN o a S sos xs).length = n := by rw [wkN_len, hlen]
  have HAT := Lib.hid (fun k x (h : xs[k]? = some x) => wkN_at (o := o) (a := a) (S := S) (p := sos) h)
  obtain ⟨ys, hys⟩ : ∃ ys, wkN o a S sos xs = ys := ⟨_, rfl⟩
  rw [hys] at hyl HAT ⊢
  have HL := Lib.hid hlen
  have HYL := Lib.hid hyl
  have HO := Lib.hid hown
  have HB := Lib.hid hb
  have HX := Lib.hid hx
  have cb := hp_cell (j := 0) (hx.below hb).hs rfl
  clear hlen hyl hys hown hb hx
  go_enter Try.func83, Try.ntmps83
  go_wp2_with fail
  clear cb
  go_loopw [12, 6] (fun i p wr => ∃ k : Nat, k ≤ n ∧ i = .int .i64 (k : Int) ∧ p = .int .i64 (stN S sos xs k) ∧ wr.ownsRow w0.heap.size 3 1 (.slice V n cv) n ((ys.take k ++ xs.drop k).map (Value.int .i64)) ∧ Below w0.heap.size w0 wr) (fun i _ _ => n - (intOf i).toNat)
  case atStart => exact ⟨0, Nat.zero_le _, rfl, rfl, by simpa using HO.out, HB.out⟩
  case round =>
    obtain ⟨k, hk, rfl, rfl, hown, hb⟩ := hrel
    by_cases hlt : k < n
    · obtain ⟨x, hxk⟩ : ∃ x, xs[k]? = some x := ⟨_, List.getElem?_eq_getElem (by rw [HL.out]; exact hlt)⟩
      have hyk := HAT.out k x hxk
      obtain ⟨p, hp⟩ : ∃ p, stN S sos xs k = p := ⟨_, rfl⟩
      have hnx : stN S sos xs (k + 1) = skN S p x := by rw [stN, hp, List.getD_eq_getElem?_getD, hxk]; rfl
      rw [hp] at hyk ⊢
      obtain ⟨g, rfl, hgb, hc, hf, hst⟩ := row_at hown (by omega)
      have cx := hc k x (by rw [wmix_at HYL.out hk (Nat.le_refl _), hxk])
      have fx := hf k hlt
      have hxb := HX.out.below hb
      obtain ⟨C, m, c, ht, hrC, hm⟩ := hxb.ht
      have ct := hp_cell (j := 0) ht rfl
      have ca := hp_cell (j := 0) hxb.ha rfl
      have co := hp_cell (j := 0) hxb.ho rfl
      have HC := Lib.hid (containsI_any C m c S x wr hrC hm)
      have HNX := Lib.hid hnx
      obtain ⟨p2, hp2⟩ : ∃ p2, skN S p x = p2 := ⟨_, rfl⟩
      rw [hp2] at hyk HNX
      unfold skN at hp2
      unfold nkN at hyk
      have HP2 := Lib.hid hp2
      obtain ⟨b, hbb⟩ : ∃ b, decide (x ∈ S) = b := ⟨_, rfl⟩
      rw [hbb] at HC
      have hp3 : (if b = true then x else p) = p2 := by rw [← hp2, ← hbb]; simp
      clear hp2 hbb ht hrC hnx hp hc hf hm hxb
      by_cases h3 : x = 3 ∧ p2 = a
      · obtain ⟨rfl, rfl⟩ := h3
        rw [if_pos ⟨rfl, rfl⟩] at hyk
        have HO2 := Lib.hid (by have := hst k o; rwa [wmix_set HL.out HYL.out hlt hyk] at this)
        have HB2 := Lib.hid (hb.setCell (p := ⟨g, k, none⟩) hgb (.int .i64 o))
        clear hown hb hxk hyk hst
        cases b
        all_goals
          simp only [Bool.false_eq_true, if_false, if_true] at hp3
          subst hp3
          go_wp2_with fail
          refine HC.out.mono ?_
          rintro e w2 ⟨rfl, rfl⟩
          go_wp2_with fail
          go_roundw
          case rel => exact ⟨k + 1, by omega, by go_num, by rw [HNX.out], HO2.out, HB2.out⟩
          case measure => simp [intOf]; omega
      · rw [if_neg h3] at hyk
        have HO2 := Lib.hid (by have := hown; rwa [wmix_keep HL.out HYL.out hlt hxk hyk] at this)
        have HB2 := Lib.hid hb
        clear hown hb hxk hyk hst
        by_cases hx3 : x = 3
        · have hpa : ¬ p2 = a := fun h => h3 ⟨hx3, h⟩
          have gpa : (p2 == a) = false := by simp [hpa]
          subst hx3
          clear h3 hpa
          cases b
          all_goals
            simp only [Bool.false_eq_true, if_false, if_true] at hp3
            subst hp3
            go_wp2_with fail
            refine HC.out.mono ?_
            rintro e w2 ⟨rfl, rfl⟩
            go_wp2_with fail
            go_roundw
            case rel => exact ⟨k + 1, by omega, by go_num, by rw [HNX.out], HO2.out, HB2.out⟩
            case measure => simp [intOf]; omega
        · have g3 : (x == 3) = false := by simp [hx3]
          clear h3 hx3
          cases b
          all_goals
            simp only [Bool.false_eq_true, if_false, if_true] at hp3
            subst hp3
            go_wp2_with fail
            refine HC.out.mono ?_
            rintro e w2 ⟨rfl, rfl⟩
            go_wp2_with fail
            go_roundw
            case rel => exact ⟨k + 1, by omega, by go_num, by rw [HNX.out], HO2.out, HB2.out⟩
            case measure => simp [intOf]; omega
    · have HE := Lib.hid (by have := hown; rwa [show k = n by omega, wmix_all HL.out HYL.out] at this)
      have HB2 := Lib.hid hb
      clear hown hb
      go_wp2_with fail
      exact bodyPost_end (v := .tuple #[]) (by simp [results, go_sem]) rfl ⟨rfl, HE.out, HB2.out⟩
set_option maxRecDepth 100000 in
set_option maxHeartbeats 2000000 in
theorem wkExchange_any (o : Int) (S : List Int) (C : Option Addr) (m c : Nat) (V : Option Addr) (n cv : Nat) (xs : List Int) (w0 w : World) (hrC : Rd w 1 C m (S.map (Value.int .i64))) (hCV : 0 < m → ∀ ad g, C = some ad → V = some ⟨g, 0, none⟩ → 0 < n → ad.block ≠ g) (hm : m ≤ 1000) (hb : Below w0.heap.size w0 w) (hown : w.ownsRow w0.heap.size 3 1 (.slice V n cv) n (xs.map (Value.int .i64))) (hn : n ≤ 1000) :
    Calls Try.prog 73 #[.slice V n cv, .int .i64 o, .slice C m c] w fun e w' => StepAns w0 w' V n cv (xs.map (exF o S)) e := by
  have hlen : xs.length = n := by have := hown.1; simpa using this
  have hyl : (xs.map (exF o S)).length = n := by rw [List.length_map, hlen]
  have HAT := Lib.hid (fun k x (h : xs[k]? = some x) => (show (xs.map (exF o S))[k]? = some (exF o S x) by rw [List.getElem?_map, h]; rfl))
  obtain ⟨ys, hys⟩ : ∃ ys, xs.map (exF o S) = ys := ⟨_, rfl⟩
  rw [hys] at hyl HAT ⊢
  have HL := Lib.hid hlen
  have HYL := Lib.hid hyl
  have HO := Lib.hid hown
  have HB := Lib.hid hb
  have HR := Lib.hid hrC
  have HCV := Lib.hid hCV
  clear hlen hyl hys hown hb hrC hCV
  go_enter Try.func73, Try.ntmps73
  go_wp2_with fail
  go_loopw [10] (fun i wr => ∃ k : Nat, k ≤ n ∧ i = .int .i64 (k : Int) ∧ Rd wr 1 C m (S.map (Value.int .i64)) ∧ wr.ownsRow w0.heap.size 3 1 (.slice V n cv) n ((ys.take k ++ xs.drop k).map (Value.int .i64)) ∧ Below w0.heap.size w0 wr) (fun i _ => n - (intOf i).toNat)
  case atStart => exact ⟨0, Nat.zero_le _, rfl, HR.out, by simpa using HO.out, HB.out⟩
  case round =>
    obtain ⟨k, hk, rfl, hrC, hown, hb⟩ := hrel
    by_cases hlt : k < n
    · obtain ⟨x, hxk⟩ : ∃ x, xs[k]? = some x := ⟨_, List.getElem?_eq_getElem (by rw [HL.out]; exact hlt)⟩
      have hyk := HAT.out k x hxk
      unfold exF at hyk
      obtain ⟨g, rfl, hgb, hc, hf, hst⟩ := row_at hown (by omega)
      have cx := hc k x (by rw [wmix_at HYL.out hk (Nat.le_refl _), hxk])
      have fx := hf k hlt
      have HC := Lib.hid (containsI_any C m c S x wr hrC hm)
      by_cases hS : x ∈ S
      · rw [if_pos hS] at hyk
        rw [decide_eq_true hS] at HC
        have HO2 := Lib.hid (by have := hst k o; rwa [wmix_set HL.out HYL.out hlt hyk] at this)
        have HB2 := Lib.hid (hb.setCell (p := ⟨g, k, none⟩) hgb (.int .i64 o))
        have HR2 : Hid (Rd (wr.setCell ⟨g, k, none⟩ (.int .i64 o)) 1 C m (S.map (Value.int .i64))) := Lib.hid ⟨hrC.1, fun h0 => by
          obtain ⟨ad, rfl, hl, hcl⟩ := hrC.2 h0
          have hne := HCV.out h0 ad g rfl rfl (by omega)
          refine ⟨ad, rfl, by simpa [World.setCell] using hl, fun j u hu => ?_⟩
          have h1 := hcl j u hu
          have h2 : (wr.setCell ⟨g, k, none⟩ (.int .i64 o)).heap[(ad.add j).block]? = wr.heap[(ad.add j).block]? := hp_far (by rw [blockAdd]; exact hne) _ _
          exact (cell_heap h2).trans h1⟩
        clear hown hb hxk hyk hst hrC hc hf hS
        go_wp2_with fail
        refine HC.out.mono ?_
        rintro e w2 ⟨rfl, rfl⟩
        go_wp2_with fail
        go_roundw
        case rel => exact ⟨k + 1, by omega, by go_num, HR2.out, HO2.out, HB2.out⟩
        case measure => simp [intOf]; omega
      · rw [if_neg hS] at hyk
        rw [decide_eq_false hS] at HC
        have HO2 := Lib.hid (by have := hown; rwa [wmix_keep HL.out HYL.out hlt hxk hyk] at this)
        have HB2 := Lib.hid hb
        have HR2 := Lib.hid hrC
        clear hown hb hxk hyk hst hrC hc hf hS
        go_wp2_with fail
        refine HC.out.mono ?_
        rintro e w2 ⟨rfl, rfl⟩
        go_wp2_with fail
        go_roundw
        case rel => exact ⟨k + 1, by omega, by go_num, HR2.out, HO2.out, HB2.out⟩
        case measure => simp [intOf]; omega
    · have HE := Lib.hid (by have := hown; rwa [show k = n by omega, wmix_all HL.out HYL.out] at this)
      have HB2 := Lib.hid hb
      clear hown hb hrC
      go_wp2_with fail
      exact bodyPost_end (v := .tuple #[]) (by simp [results, go_sem]) rfl ⟨rfl, HE.out, HB2.out⟩
end Go.Proofs.Ytnmpoipakmjbpaa
