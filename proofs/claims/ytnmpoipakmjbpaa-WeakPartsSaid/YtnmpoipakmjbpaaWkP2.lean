/- weak's steps, walked: separators, terminators. -/
import Derived.Test.YtnmpoipakmjbpaaWkP1
import Derived.Test.YtnmpoipakmjbpaaMem3
import Derived.Shelf.Abstract
namespace Go.Proofs.Ytnmpoipakmjbpaa
open Go.RowKit

def sepF (c number : Int) : Bool := decide ((number = 3 ∧ (c = 4 ∨ c = 7)) ∨ (number = 6 ∧ c = 7))
set_option maxRecDepth 100000 in
theorem wkSep_any (c z : Int) (b : Bool) (hb : sepF c z = b) (w : World) : Calls Try.prog 74 #[.int .i64 c, .int .i64 z] w fun e w' => e = .returned (.bool b) ∧ w = w' := by
  unfold sepF at hb
  subst hb
  by_cases h3 : z = 3
  · subst h3
    by_cases h4 : c = 4
    · subst h4
      go_enter Try.func74, Try.ntmps74
      go_wp2; go_ret; exact ⟨rfl, rfl⟩
    · have g4 : (c == 4) = false := by simp [h4]
      by_cases h7 : c = 7
      · subst h7
        clear h4
        go_enter Try.func74, Try.ntmps74
        go_wp2; go_ret; exact ⟨rfl, rfl⟩
      · have g7 : (c == 7) = false := by simp [h7]
        have e : decide (((3 : Int) = 3 ∧ (c = 4 ∨ c = 7)) ∨ ((3 : Int) = 6 ∧ c = 7)) = false := decide_eq_false (by omega)
        rw [e]
        clear h4 h7 e
        go_enter Try.func74, Try.ntmps74
        go_wp2; go_ret; exact ⟨rfl, rfl⟩
  · have g3 : (z == 3) = false := by simp [h3]
    by_cases h6 : z = 6
    · subst h6
      obtain ⟨q, hq⟩ : ∃ q, (c == 7) = q := ⟨_, rfl⟩
      have e : decide (((6 : Int) = 3 ∧ (c = 4 ∨ c = 7)) ∨ ((6 : Int) = 6 ∧ c = 7)) = q := by
        rw [← hq]
        by_cases h : c = 7 <;> simp [h]
      rw [e]
      clear e
      go_enter Try.func74, Try.ntmps74
      go_wp2; go_ret; exact ⟨rfl, rfl⟩
    · have g6 : (z == 6) = false := by simp [h6]
      have e : decide ((z = 3 ∧ (c = 4 ∨ c = 7)) ∨ (z = 6 ∧ c = 7)) = false := decide_eq_false (by omega)
      rw [e]
      clear h3 h6 e
      go_enter Try.func74, Try.ntmps74
      go_wp2; go_ret; exact ⟨rfl, rfl⟩
theorem nk4_sep {x z : Int} (h : sepF x z = true) : nk4 z x z = z := by
  have := of_decide_eq_true h
  unfold nk4
  split
  · omega
  · split
    · rfl
    · omega
theorem nk4_not {x z : Int} (h : sepF x z = false) : nk4 z x z = x := by
  have := of_decide_eq_false h
  unfold nk4
  rw [if_neg (by omega), if_neg (by omega)]
theorem nk4_far {a x z : Int} (h : a ≠ z) : nk4 a x z = x := by
  unfold nk4
  rw [if_neg (by omega), if_neg (by omega)]
set_option maxRecDepth 100000 in
set_option maxHeartbeats 4000000 in
theorem wkSeparators_any (V : Option Addr) (n cv : Nat) (xs : List Int) (w0 w : World) (hb : Below w0.heap.size w0 w) (hown : w.ownsRow w0.heap.size 3 1 (.slice V n cv) n (xs.map (Value.int .i64))) (hn : n ≤ 1000) :
    Calls Try.prog 47 #[.slice V n cv] w fun e w' => StepAns w0 w' V n cv (wk4 xs) e := by
  have hlen : xs.length = n := by have := hown.1; simpa using this
  have hyl : (wk4 xs).length = n := by rw [wk4_len, hlen]
  have HAT := Lib.hid (fun k x z (h : xs[k + 1]? = some x) (h2 : xs[k + 2]? = some z) => wk4_mid h h2)
  have HA0 := Lib.hid (wk4_zero xs)
  have HAL := Lib.hid (fun k (h : xs.length = k + 1) => wk4_last h)
  obtain ⟨ys, hys⟩ : ∃ ys, wk4 xs = ys := ⟨_, rfl⟩
  rw [hys] at hyl HAT HA0 HAL ⊢
  have HL := Lib.hid hlen
  have HYL := Lib.hid hyl
  have HB := Lib.hid hb
  have HO : Hid (w.ownsRow w0.heap.size 3 1 (.slice V n cv) n ((ys.take 1 ++ xs.drop 1).map (Value.int .i64))) := Lib.hid (by
    rcases Nat.eq_zero_or_pos n with h0 | h0
    · have e1 : xs = [] := List.eq_nil_of_length_eq_zero (by omega)
      have e2 : ys = [] := List.eq_nil_of_length_eq_zero (by omega)
      subst e1 e2
      exact hown
    · obtain ⟨x, hx⟩ : ∃ x, xs[0]? = some x := ⟨_, List.getElem?_eq_getElem (by omega)⟩
      have := wmix_keep hlen hyl h0 hx (HA0.out.trans hx)
      rw [← this]
      simpa using hown)
  clear hlen hyl hys hown hb
  go_enter Try.func47, Try.ntmps47
  go_wp2_with fail
  go_loopw [2] (fun i wr => ∃ k : Nat, (k + 1 ≤ n ∨ k = 0) ∧ i = .int .i64 ((k : Int) + 1) ∧ wr.ownsRow w0.heap.size 3 1 (.slice V n cv) n ((ys.take (k + 1) ++ xs.drop (k + 1)).map (Value.int .i64)) ∧ Below w0.heap.size w0 wr) (fun i _ => n - (intOf i).toNat)
  case atStart => exact ⟨0, .inr rfl, rfl, HO.out, HB.out⟩
  case round =>
    obtain ⟨k, hk, rfl, hown, hb⟩ := hrel
    by_cases hlt : k + 2 < n
    · obtain ⟨x, hxk⟩ : ∃ x, xs[k + 1]? = some x := ⟨_, List.getElem?_eq_getElem (by rw [HL.out]; omega)⟩
      obtain ⟨z, hzk⟩ : ∃ z, xs[k + 2]? = some z := ⟨_, List.getElem?_eq_getElem (by rw [HL.out]; exact hlt)⟩
      obtain ⟨a, hak⟩ : ∃ a, ys[k]? = some a := ⟨_, List.getElem?_eq_getElem (by rw [HYL.out]; omega)⟩
      have hyk := HAT.out k x z hxk hzk
      rw [show ys.getD k 0 = a by rw [List.getD_eq_getElem?_getD, hak]; rfl] at hyk
      obtain ⟨g, rfl, hgb, hc, hf, hst⟩ := row_at hown (by omega)
      have HC := Lib.hid hc
      have c0 := hc k a (by rw [wmix_lt HYL.out (by omega) (by omega), hak])
      have c1 := hc (k + 1) x (by rw [wmix_at HYL.out (by omega) (Nat.le_refl _), hxk])
      have c2 := hc (k + 1 + 1) z (by rw [wmix_at HYL.out (by omega) (by omega), hzk])
      have HF := Lib.hid (hf (k + 1) (by omega))
      have HXK := Lib.hid hxk
      have HST := Lib.hid hst
      have HOW := Lib.hid hown
      have HB1 := Lib.hid hb
      have HYK := Lib.hid hyk
      have h1 : (k : Int) + 1 < (n : Int) := by omega
      have h2 : (k : Int) + 1 + 1 < (n : Int) := by omega
      have h3 : (k : Int) < (n : Int) := by omega
      have h0 : (0 : Int) ≤ (k : Int) := by omega
      clear hc hf hst hown hb hyk hak hxk hzk
      have hk' : k + 1 < n := by omega
      by_cases haz : a = z
      · subst haz
        have gz : (a == a) = true := by simp
        obtain ⟨b, hbs⟩ : ∃ b, sepF x a = b := ⟨_, rfl⟩
        have HC4 := Lib.hid (fun W => wkSep_any x a b hbs W)
        cases b with
        | true =>
          rw [nk4_sep hbs] at HYK
          clear hbs hk
          go_wp2_with fail
          go_quiet (fail)
          obtain ⟨W, hW⟩ : ∃ W, wr.drewN nq = W := ⟨_, rfl⟩
          have d1 : W.cell? ⟨g, k + 1, none⟩ = some (.int .i64 x) := by rw [← hW]; exact c1
          have f1 : W.frozen? ⟨g, k + 1, none⟩ = false := by rw [← hW]; exact HF.out
          have HO2 : Hid ((W.setCell ⟨g, k + 1, none⟩ (.int .i64 a)).ownsRow w0.heap.size 3 1 (.slice (some ⟨g, 0, none⟩) n cv) n ((ys.take (k + 1 + 1) ++ xs.drop (k + 1 + 1)).map (Value.int .i64))) := Lib.hid (by
            have h9 := own_below HOW.out (below_drewN (Below.refl _ _) nq)
            rw [hW] at h9
            have h8 := (h9.stored (k + 1) (.int .i64 a)).1
            rw [← List.map_set, wmix_set HL.out HYL.out hk' HYK.out] at h8
            exact h8)
          have HB2 := Lib.hid ((show Below w0.heap.size w0 W by rw [← hW]; exact below_drewN HB1.out nq).setCell (p := ⟨g, k + 1, none⟩) hgb (.int .i64 a))
          rw [hW]
          clear hW c0 c1 c2
          go_wp2_with fail
          refine (HC4.out _).mono ?_
          rintro e w2 ⟨rfl, rfl⟩
          go_wp2_with fail
          go_roundw
          case rel => exact ⟨k + 1, by omega, by go_num, HO2.out, HB2.out⟩
          case measure => simp [intOf]; omega
        | false =>
          rw [nk4_not hbs] at HYK
          clear hbs hk
          go_wp2_with fail
          go_quiet (fail)
          obtain ⟨W, hW⟩ : ∃ W, wr.drewN nq = W := ⟨_, rfl⟩
          have d1 : W.cell? ⟨g, k + 1, none⟩ = some (.int .i64 x) := by rw [← hW]; exact c1
          have HO2 : Hid (W.ownsRow w0.heap.size 3 1 (.slice (some ⟨g, 0, none⟩) n cv) n ((ys.take (k + 1 + 1) ++ xs.drop (k + 1 + 1)).map (Value.int .i64))) := Lib.hid (by
            have h9 := own_below HOW.out (below_drewN (Below.refl _ _) nq)
            rw [hW, wmix_keep HL.out HYL.out hk' HXK.out HYK.out] at h9
            exact h9)
          have HB2 := Lib.hid (show Below w0.heap.size w0 W by rw [← hW]; exact below_drewN HB1.out nq)
          rw [hW]
          clear hW c0 c1 c2
          go_wp2_with fail
          refine (HC4.out _).mono ?_
          rintro e w2 ⟨rfl, rfl⟩
          go_wp2_with fail
          go_roundw
          case rel => exact ⟨k + 1, by omega, by go_num, HO2.out, HB2.out⟩
          case measure => simp [intOf]; omega
      · have gz : (a == z) = false := by simp [haz]
        rw [nk4_far haz] at HYK
        clear haz hk
        go_wp2_with fail
        go_quiet (fail)
        obtain ⟨W, hW⟩ : ∃ W, wr.drewN nq = W := ⟨_, rfl⟩
        have HO2 : Hid (W.ownsRow w0.heap.size 3 1 (.slice (some ⟨g, 0, none⟩) n cv) n ((ys.take (k + 1 + 1) ++ xs.drop (k + 1 + 1)).map (Value.int .i64))) := Lib.hid (by
          have h9 := own_below HOW.out (below_drewN (Below.refl _ _) nq)
          rw [hW, wmix_keep HL.out HYL.out hk' HXK.out HYK.out] at h9
          exact h9)
        have HB2 := Lib.hid (show Below w0.heap.size w0 W by rw [← hW]; exact below_drewN HB1.out nq)
        rw [hW]
        clear hW c0 c1 c2
        go_wp2_with fail
        go_roundw
        case rel => exact ⟨k + 1, by omega, by go_num, HO2.out, HB2.out⟩
        case measure => simp [intOf]; omega
    · have HE : Hid (wr.ownsRow w0.heap.size 3 1 (.slice V n cv) n (ys.map (Value.int .i64))) := Lib.hid (by
        have h9 := hown
        rcases Nat.eq_zero_or_pos n with h0 | h0
        · have e1 : xs = [] := List.eq_nil_of_length_eq_zero (by rw [HL.out]; exact h0)
          have e2 : ys = [] := List.eq_nil_of_length_eq_zero (by rw [HYL.out]; exact h0)
          rw [e1, e2] at h9
          rw [e2]
          simpa using h9
        · by_cases hk2 : k + 1 = n
          · rwa [hk2, wmix_all HL.out HYL.out] at h9
          · have hk3 : k + 1 < n := by omega
            obtain ⟨x, hx⟩ : ∃ x, xs[k + 1]? = some x := ⟨_, List.getElem?_eq_getElem (by rw [HL.out]; exact hk3)⟩
            rwa [wmix_keep HL.out HYL.out hk3 hx ((HAL.out (k + 1) (by rw [HL.out]; omega)).trans hx), show k + 1 + 1 = n by omega, wmix_all HL.out HYL.out] at h9)
      have HB2 := Lib.hid hb
      have h1 : ¬ (k : Int) + 1 + 1 < (n : Int) := by omega
      clear hown hb hlt
      have hk5 : k ≤ 1000 := by omega
      go_wp2_with fail
      exact bodyPost_end (v := .tuple #[]) (by simp [results, go_sem]) rfl ⟨rfl, HE.out, HB2.out⟩
/-- The row that a closure has, and its box. -/
structure TBox (w0 w : World) (tb : Nat) (V : Option Addr) (n cv : Nat) (l : List Int) : Prop where
  box : w.heap[tb]? = some (.cells #[.slice V n cv] 22 (0, 0))
  row : w.ownsRow w0.heap.size 3 1 (.slice V n cv) n (l.map (Value.int .i64))
  low : Below w0.heap.size w0 w
  far : ∀ g, V = some ⟨g, 0, none⟩ → tb ≠ g
set_option maxRecDepth 100000 in
set_option maxHeartbeats 4000000 in
theorem wkReach_any (tb i j : Nat) (x z : Int) (V : Option Addr) (n cv : Nat) (l : List Int) (w0 w : World) (h : TBox w0 w tb V n cv l) (hi : i < n) (hj : j < n) (hx : l[i]? = some x) (hz : l[j]? = some z) (hn : n ≤ 1000) :
    Calls Try.prog 75 #[.int .i64 (i : Int), .int .i64 (j : Int), .pointer (some ⟨tb, 0, none⟩)] w fun e w' => e = .returned (.tuple #[]) ∧ TBox w0 w' tb V n cv (if x = 5 ∧ z = 3 then l.set i 3 else l) := by
  have HT := Lib.hid h
  obtain ⟨g, rfl, hgb, hc, hf, hst⟩ := row_at h.row (by omega)
  have cb := hp_cell (j := 0) h.box rfl
  have ci := hc i x hx
  have cj := hc j z hz
  have fi := hf i hi
  have HST := Lib.hid (hst i 3)
  have HFAR := Lib.hid (h.far g rfl)
  have h1 : (i : Int) < (n : Int) := by omega
  have h2 : (j : Int) < (n : Int) := by omega
  have h3 : (0 : Int) ≤ (i : Int) := by omega
  have h4 : (0 : Int) ≤ (j : Int) := by omega
  clear h hc hf hst hx hz
  by_cases hx : x = 5
  · subst hx
    by_cases hz : z = 3
    · subst hz
      rw [if_pos ⟨rfl, rfl⟩]
      go_enter Try.func75, Try.ntmps75
      go_wp2_with fail
      refine bodyPost_end (v := .tuple #[]) (by simp [results, go_sem]) rfl ⟨rfl, ⟨(hp_far HFAR.out _ _).trans HT.out.box, HST.out, HT.out.low.setCell (p := ⟨g, i, none⟩) hgb _, HT.out.far⟩⟩
    · have gz : (z == 3) = false := by simp [hz]
      rw [if_neg (fun h => hz h.2)]
      clear hz
      go_enter Try.func75, Try.ntmps75
      go_wp2_with fail
      exact bodyPost_end (v := .tuple #[]) (by simp [results, go_sem]) rfl ⟨rfl, HT.out⟩
  · have gx : (x == 5) = false := by simp [hx]
    rw [if_neg (fun h => hx h.1)]
    clear hx
    go_enter Try.func75, Try.ntmps75
    go_wp2_with fail
    exact bodyPost_end (v := .tuple #[]) (by simp [results, go_sem]) rfl ⟨rfl, HT.out⟩
set_option maxRecDepth 100000 in
set_option maxHeartbeats 4000000 in
theorem wkTerminators_any (V : Option Addr) (n cv : Nat) (xs : List Int) (w0 w : World) (hb : Below w0.heap.size w0 w) (hown : w.ownsRow w0.heap.size 3 1 (.slice V n cv) n (xs.map (Value.int .i64))) (hn : n ≤ 1000) :
    Calls Try.prog 48 #[.slice V n cv] w fun e w' => StepAns w0 w' V n cv (bE (fE 0 xs)) e := by
  have hlen : xs.length = n := by have := hown.1; simpa using this
  have hzl : (fE 0 xs).length = n := by rw [fE_len, hlen]
  have hyl : (bE (fE 0 xs)).length = n := by rw [bE_len, hzl]
  have HAT := Lib.hid (fun k x (h : xs[k]? = some x) => fE_at (a := 0) h)
  have HBT := Lib.hid (fun k x (h : (fE 0 xs)[k]? = some x) => bE_at h)
  obtain ⟨ys, hys⟩ : ∃ ys, bE (fE 0 xs) = ys := ⟨_, rfl⟩
  rw [hys] at hyl HBT ⊢
  obtain ⟨zs, hzs⟩ : ∃ zs, fE 0 xs = zs := ⟨_, rfl⟩
  rw [hzs] at hzl HAT HBT
  have HL := Lib.hid hlen
  have HYL := Lib.hid hyl
  have HZL := Lib.hid hzl
  have hwl : w0.heap.size ≤ w.heap.size := hb.size
  have HT0 : Hid (TBox w0 (w.alloc (.cells #[.slice V n cv] 22)) w.heap.size V n cv xs) := Lib.hid ⟨heap_alloc_new _ _, hown.alloc _, hb.alloc hwl _, fun g e => by
    subst e
    have := (hown.lt g rfl).2
    omega⟩
  have eg := enters_of Try.func75 (by kernel_rfl) rfl
  have HS1 : Hid (TBox w0 (w.alloc (.cells #[.slice V n cv] 22)) w.heap.size V n cv (zs.take 1 ++ xs.drop 1)) := Lib.hid (by
    have h := HT0.out
    rcases Nat.eq_zero_or_pos n with h0 | h0
    · have e1 : xs = [] := List.eq_nil_of_length_eq_zero (by omega)
      have e2 : zs = [] := List.eq_nil_of_length_eq_zero (by omega)
      rw [e1] at h
      rw [e1, e2]
      exact h
    · obtain ⟨x, hx⟩ : ∃ x, xs[0]? = some x := ⟨_, List.getElem?_eq_getElem (by omega)⟩
      have e : zs[0]? = some x := by rw [HAT.out 0 x hx, if_neg (fun h => by have := h.2; simp [pv1] at this)]
      rw [← wmix_keep hlen hzl h0 hx e]
      simpa using h)
  have HEQ : Hid (∀ k, n = k + 1 → zs[k]? = ys[k]?) := Lib.hid (fun k hk => by
    obtain ⟨x, hx⟩ : ∃ x, zs[k]? = some x := ⟨_, List.getElem?_eq_getElem (by omega)⟩
    rw [HBT.out k x hx, hx, if_neg (fun h => by have := h.2; rw [List.getElem?_eq_none (by omega)] at this; cases this)])
  clear hlen hyl hzl hys hzs hown hb hwl HT0
  go_enter Try.func48, Try.ntmps48
  go_wp2_with fail
  go_loopw [3] (fun i wr => ∃ k : Nat, (k + 1 ≤ n ∨ k = 0) ∧ i = .int .i64 ((k : Int) + 1) ∧ TBox w0 wr w.heap.size V n cv (zs.take (k + 1) ++ xs.drop (k + 1))) (fun i _ => n - (intOf i).toNat)
  case atStart => exact ⟨0, .inr rfl, rfl, HS1.out⟩
  case round =>
    obtain ⟨k, hk, rfl, hT⟩ := hrel
    have cb := hp_cell (j := 0) hT.box rfl
    have HT := Lib.hid hT
    by_cases hlt : k + 1 < n
    · obtain ⟨x, hx⟩ : ∃ x, xs[k + 1]? = some x := ⟨_, List.getElem?_eq_getElem (by rw [HL.out]; exact hlt)⟩
      obtain ⟨z, hz⟩ : ∃ z, zs[k]? = some z := ⟨_, List.getElem?_eq_getElem (by rw [HZL.out]; omega)⟩
      have hzk := HAT.out (k + 1) x hx
      rw [show pv1 0 zs (k + 1) = z by show zs.getD k 0 = z; rw [List.getD_eq_getElem?_getD, hz]; rfl] at hzk
      have HC := Lib.hid (wkReach_any w.heap.size (k + 1) k x z V n cv _ w0 wr hT hlt (by omega) (by rw [wmix_at HZL.out (by omega) (Nat.le_refl _), hx]) (by rw [wmix_lt HZL.out (by omega) (by omega), hz]) hn)
      have HN : Hid ((if x = 5 ∧ z = 3 then (zs.take (k + 1) ++ xs.drop (k + 1)).set (k + 1) 3 else (zs.take (k + 1) ++ xs.drop (k + 1))) = zs.take (k + 1 + 1) ++ xs.drop (k + 1 + 1)) := Lib.hid (by
        by_cases hc : x = 5 ∧ z = 3
        · rw [if_pos hc] at hzk ⊢
          exact wmix_set HL.out HZL.out hlt hzk
        · rw [if_neg hc] at hzk ⊢
          exact wmix_keep HL.out HZL.out hlt hx hzk)
      rw [HN.out] at HC
      have h1 : (k : Int) + 1 < (n : Int) := by omega
      have h0 : (0 : Int) ≤ (k : Int) := by omega
      have hki : ((k + 1 : Nat) : Int) = (k : Int) + 1 := by omega
      rw [hki] at HC
      clear hT hx hz hzk hk hki HN
      go_wp2_with fail
      refine HC.out.mono ?_
      rintro e w2 ⟨rfl, hT2⟩
      have HT2 := Lib.hid hT2
      clear hT2 cb
      go_wp2_with fail
      go_roundw
      case rel => exact ⟨k + 1, by omega, by go_num, HT2.out⟩
      case measure => simp [intOf]; omega
    · have HT1 : Hid (TBox w0 wr w.heap.size V n cv zs) := Lib.hid (by
        have h9 := HT.out
        rcases Nat.eq_zero_or_pos n with h0 | h0
        · have e1 : xs = [] := List.eq_nil_of_length_eq_zero (by rw [HL.out]; exact h0)
          have e2 : zs = [] := List.eq_nil_of_length_eq_zero (by rw [HZL.out]; exact h0)
          rw [e1, e2] at h9
          rw [e2]
          simpa using h9
        · rwa [show k + 1 = n by omega, wmix_all HL.out HZL.out] at h9)
      have h1 : ¬ (k : Int) + 1 < (n : Int) := by omega
      have hk5 : k ≤ 1000 := by omega
      clear hT hlt HT hk
      go_wp2_with fail
      clear cb h1
      have HZ : Hid (((n : Int) - 2 < 0 ∧ TBox w0 wr w.heap.size V n cv ys) ∨ ∃ j : Nat, (n : Int) - 2 = (j : Int) ∧ j + 1 < n ∧ TBox w0 wr w.heap.size V n cv (zs.take (j + 1) ++ ys.drop (j + 1))) := Lib.hid (by
        have h9 := HT1.out
        by_cases h2 : 2 ≤ n
        · refine .inr ⟨n - 2, by omega, by omega, ?_⟩
          obtain ⟨y, hy⟩ : ∃ y, zs[n - 1]? = some y := ⟨_, List.getElem?_eq_getElem (by rw [HZL.out]; omega)⟩
          have hy2 := (HEQ.out (n - 1) (by omega)).symm.trans hy
          have := wmix_backKeep HZL.out HYL.out (show n - 1 < n by omega) hy hy2
          rw [show n - 1 + 1 = n by omega, wmix_all HYL.out HZL.out] at this
          rw [show n - 2 + 1 = n - 1 by omega, ← this]
          exact h9
        · refine .inl ⟨by omega, ?_⟩
          have : zs = ys := by
            refine List.ext_getElem? fun j => ?_
            by_cases hj : j < n
            · exact HEQ.out j (by omega)
            · rw [List.getElem?_eq_none (by rw [HZL.out]; omega), List.getElem?_eq_none (by rw [HYL.out]; omega)]
          rwa [this] at h9)
      go_loopw [4] (fun i ws => ∃ z : Int, i = .int .i64 z ∧ z < 1000 ∧ -5 < z ∧ ((z < 0 ∧ TBox w0 ws w.heap.size V n cv ys) ∨ ∃ j : Nat, z = (j : Int) ∧ j + 1 < n ∧ TBox w0 ws w.heap.size V n cv (zs.take (j + 1) ++ ys.drop (j + 1)))) (fun i _ => (intOf i + 5).toNat)
      case atStart => exact ⟨(n : Int) - 2, by go_num, by omega, by omega, HZ.out⟩
      case round =>
        obtain ⟨z, rfl, hz1, hz5, hT⟩ := hrel
        rcases hT with ⟨hz0, hT⟩ | ⟨j, rfl, hj, hT⟩
        · have HT2 := Lib.hid hT
          clear hT
          go_wp2_with fail
          exact bodyPost_end (v := .tuple #[]) (by simp [results, go_sem]) rfl ⟨rfl, HT2.out.row, HT2.out.low⟩
        · obtain ⟨x, hx⟩ : ∃ x, zs[j]? = some x := ⟨_, List.getElem?_eq_getElem (by rw [HZL.out]; omega)⟩
          obtain ⟨y, hy⟩ : ∃ y, ys[j + 1]? = some y := ⟨_, List.getElem?_eq_getElem (by rw [HYL.out]; omega)⟩
          have hyj := HBT.out j x hx
          rw [hy] at hyj
          have HC := Lib.hid (wkReach_any w.heap.size j (j + 1) x y V n cv _ w0 wr hT (by omega) hj (by rw [wmix_lt HZL.out (by omega) (by omega), hx]) (by rw [wmix_at HZL.out (by omega) (Nat.le_refl _), hy]) hn)
          have HN : Hid ((if x = 5 ∧ y = 3 then (zs.take (j + 1) ++ ys.drop (j + 1)).set j 3 else (zs.take (j + 1) ++ ys.drop (j + 1))) = zs.take j ++ ys.drop j) := Lib.hid (by
            by_cases hc : x = 5 ∧ y = 3
            · rw [if_pos hc]
              rw [if_pos ⟨hc.1, congrArg some hc.2⟩] at hyj
              exact wmix_back HZL.out HYL.out (by omega) hyj
            · rw [if_neg hc]
              rw [if_neg (fun h => hc ⟨h.1, Option.some.inj h.2⟩)] at hyj
              exact wmix_backKeep HZL.out HYL.out (by omega) hx hyj)
          rw [HN.out] at HC
          have hki : ((j + 1 : Nat) : Int) = (j : Int) + 1 := by omega
          rw [hki] at HC
          have h0 : (0 : Int) ≤ (j : Int) := by omega
          clear hT hx hy hyj hki HN
          go_wp2_with fail
          refine HC.out.mono ?_
          rintro e w2 ⟨rfl, hT2⟩
          have HT2 := Lib.hid hT2
          clear hT2
          go_wp2_with fail
          go_roundw
          case rel =>
            refine ⟨(j : Int) - 1, by go_num, by omega, by omega, ?_⟩
            cases j with
            | zero => exact .inl ⟨by omega, by simpa using HT2.out⟩
            | succ j => exact .inr ⟨j, by omega, by omega, HT2.out⟩
          case measure => simp [intOf]; omega
end Go.Proofs.Ytnmpoipakmjbpaa
