/- Texts of one claim, one behind the other. -/
import Derived.BigQuiet
import Derived.BigRegion
import Derived.Test.YtcbiaeeifclieaaMgCL1
/- cells' all and count, walked. -/
namespace Go.Proofs.Ytcbiaeeifclieaa
open Go.RowKit

set_option maxRecDepth 100000 in
set_option maxHeartbeats 1000000 in
theorem all_any (b : Nat) (A : Option Addr) (n c : Nat) (w : World) (hc : w.cell? ⟨b, 0, none⟩ = some (.slice A n c)) :
    Calls Try.prog 43 #[.pointer (some ⟨b, 0, none⟩)] w fun e w' => e = .returned (.agg #[.int .i64 0, .int .i64 (n : Int)]) ∧ Below w.heap.size w w' := by
  have s1 := SpanBlk.new_ w 0 0 33
  have hc2 := cell_below (below_new w (.cells #[.int .i64 0, .int .i64 0] 33)) hc
  have hbn := below_new w (.cells #[.int .i64 0, .int .i64 0] 33)
  obtain ⟨c0, c1, f0, f1⟩ := s1
  go_enter Try.func43, Try.ntmps43
  go_wp2_with fail
  refine bodyPost_ret (v := .agg #[.int .i64 0, .int .i64 (n : Int)]) (results_cell_row rfl _ _ w.heap.size 33 #[.int .i64 0, .int .i64 (n : Int)] (0, 0) _ rfl (heap_alloc_new w _) Try.underlying33 rfl (by kernel_rfl)) rfl ?_
  exact ⟨rfl, below_new w _⟩
/-- What a cell's place is, as the walk spells it. -/
theorem CellsAt.cell {w : World} {base b gc n : Nat} {R : List RC} {va : Value} {ah : List Int} (h : CellsAt w base b gc n R va ah) {i : Nat} {r : RC} (hi : R[i]? = some r) : w.cell? ⟨gc, i * 2, none⟩ = some r.1 ∧ w.cell? ⟨gc, i * 2 + 1, none⟩ = some (.int .i64 r.2.1) := by
  obtain ⟨h1, h2⟩ := cellsRC_at hi
  exact ⟨hp_cell h.hc (by rw [List.getElem?_toArray]; exact h1), hp_cell h.hc (by rw [List.getElem?_toArray]; exact h2)⟩
theorem partR_at {R : List RC} {lo hi k : Nat} (h : k < hi - lo) : (partR R lo hi)[k]? = R[lo + k]? := by
  unfold partR; rw [List.getElem?_take, if_pos h, List.getElem?_drop]
set_option maxRecDepth 100000 in
set_option maxHeartbeats 1000000 in
theorem count_any (base b gc n lo hi : Nat) (R : List RC) (va : Value) (ah : List Int) (w : World) (hC : CellsAt w base b gc n R va ah) (h1 : lo < hi) (h2 : hi ≤ n) (hn : n ≤ 100000000) (ht : ah.length + lenR R ≤ 100000000) :
    Calls Try.prog 48 #[.pointer (some ⟨b, 0, none⟩), .agg #[.int .i64 (lo : Int), .int .i64 (hi : Int)]] w fun e w' => e = .returned (.int .i64 (cntR R ah lo hi : Nat)) ∧ Below w.heap.size w w' := by
  obtain ⟨Aa, ca, rfl, _⟩ := own_form hC.arow
  have hbn := below_new w (.cells #[.int .i64 (lo : Int), .int .i64 (hi : Int)] 33)
  have hC2 := hC.low hbn
  have s1 := SpanBlk.new_ w (lo : Int) (hi : Int) 33
  obtain ⟨W1, hW1⟩ : ∃ W1, w.alloc (.cells #[.int .i64 (lo : Int), .int .i64 (hi : Int)] 33) = W1 := ⟨_, rfl⟩
  rw [hW1] at hbn hC2 s1
  have c0 := hp_cell (j := 0) hC2.hb rfl
  have c1 := hp_cell (j := 1) hC2.hb rfl
  obtain ⟨d0, d1, f0, f1⟩ := s1
  obtain ⟨bs, hbs⟩ : ∃ bs, w.heap.size = bs := ⟨_, rfl⟩
  rw [hbs] at d0 d1
  have HC := Lib.hid hC2
  have HP := Lib.hid (hC2.part (lo := lo) (m := hi - lo) (by omega))
  have HB := Lib.hid hbn
  have hlo : (lo : Int) < (n : Int) := by omega
  have hhi : (hi : Int) ≤ (n : Int) := by omega
  have hlh : (lo : Int) ≤ (hi : Int) := by omega
  have hne : ¬ (n = lo) := by omega
  clear hC hC2 hbn f0 f1
  go_enter Try.func48, Try.ntmps48
  by_cases hz : lo = 0
  · have g0 : ((lo : Int) == 0) = true := by simp; omega
    have HLO := Lib.hid hz
    clear hz
    go_wp2_with fail
    go_quiet (fail)
    go_wp2_with fail
    obtain ⟨z, hz⟩ : ∃ z : Nat, z = ah.length := ⟨_, rfl⟩
    have HZ := Lib.hid (show cntR R ah lo hi = z + lenR (partR R lo hi) by unfold cntR; rw [hz]; simp [HLO.out])
    have hzb : z ≤ 100000000 := by rw [hz]; omega
    have hzt : z + lenR (partR R lo hi) ≤ 100000000 := by rw [← HZ.out]; exact Nat.le_trans (cntR_le R ah lo hi) ht
    rw [← hz]
    clear hz
    go_loopw [5, 26] (fun s i ws => ∃ k : Nat, k ≤ hi - lo ∧ i = .int .i64 (k : Int) ∧ s = .int .i64 ((z + lenR ((partR R lo hi).take k) : Nat) : Int) ∧ Below W1.heap.size W1 ws) (fun _ i _ => (hi - lo) - (intOf i).toNat)
    case atStart => exact ⟨0, Nat.zero_le _, rfl, by simp [lenR], below_drew (Below.refl _ _) _⟩
    case round =>
      obtain ⟨k, hk, rfl, rfl, hb⟩ := hrel
      have hlk := lenR_le (partR R lo hi) k
      by_cases hlt : k < hi - lo
      · obtain ⟨r, hr⟩ : ∃ r, R[lo + k]? = some r := ⟨_, List.getElem?_eq_getElem (by rw [HC.out.len]; omega)⟩
        have HCW := HC.out.low hb
        obtain ⟨c0, c1⟩ := HCW.cell hr
        have hrow := HCW.rows _ _ hr
        have hpr : (partR R lo hi)[k]? = some r := by rw [partR_at hlt]; exact hr
        have HT := Lib.hid (lenR_take hpr)
        have hlk1 := lenR_le (partR R lo hi) (k + 1)
        rw [HT.out] at hlk1
        obtain ⟨v, e, l⟩ := r
        obtain ⟨Ai, ci, hv, _⟩ := own_form hrow
        simp only at hv
        subst hv
        rw [show (lo + k) * 2 = lo * 2 + k * 2 by omega] at c0 c1
        simp only at c0 c1 hlk1 HT
        have hbn := below_self hb (below_new wr (.cells #[.slice Ai l.length ci, .int .i64 e] 97))
        have hnw := cells_new wr [.slice Ai l.length ci, .int .i64 e] 97
        have d0 := hnw 0 _ rfl
        rw [addNew] at d0
        clear hnw HCW hrow hpr hr hb
        obtain ⟨y, hy⟩ : ∃ y, lenR ((partR R lo hi).take k) = y := ⟨_, rfl⟩
        rw [hy] at HT hlk hlk1 ⊢
        clear hy
        go_wp2_with fail
        go_roundw
        case rel => exact ⟨k + 1, by omega, by go_num, by rw [HT.out]; go_num, hbn⟩
        case measure => simp [intOf]; omega
      · have hkm : k = hi - lo := by omega
        have HE := Lib.hid (show z + lenR ((partR R lo hi).take k) = cntR R ah lo hi by rw [HZ.out, hkm, List.take_of_length_le (Nat.le_of_eq (partR_len HC.out.len h2))])
        rw [HE.out]
        have HBB := Lib.hid (below_self HB.out hb)
        clear hlk hkm
        go_wp2_with fail
        go_ret
        exact ⟨rfl, HBB.out⟩
  · have g0 : ((lo : Int) == 0) = false := by simp; omega
    have HLO := Lib.hid hz
    clear hz
    go_wp2_with fail
    go_quiet (fail)
    go_wp2_with fail
    obtain ⟨z, hz⟩ : ∃ z : Nat, z = 0 := ⟨_, rfl⟩
    have HZ := Lib.hid (show cntR R ah lo hi = z + lenR (partR R lo hi) by unfold cntR; rw [hz]; simp [HLO.out])
    have hzb : z ≤ 100000000 := by rw [hz]; omega
    have hzt : z + lenR (partR R lo hi) ≤ 100000000 := by rw [← HZ.out]; exact Nat.le_trans (cntR_le R ah lo hi) ht
    have HZ0 := Lib.hid hz
    clear hz
    go_loopw [5, 26] (fun s i ws => ∃ k : Nat, k ≤ hi - lo ∧ i = .int .i64 (k : Int) ∧ s = .int .i64 ((z + lenR ((partR R lo hi).take k) : Nat) : Int) ∧ Below W1.heap.size W1 ws) (fun _ i _ => (hi - lo) - (intOf i).toNat)
    case atStart => exact ⟨0, Nat.zero_le _, rfl, by rw [HZ0.out]; simp [lenR], below_drew (Below.refl _ _) _⟩
    case round =>
      obtain ⟨k, hk, rfl, rfl, hb⟩ := hrel
      have hlk := lenR_le (partR R lo hi) k
      by_cases hlt : k < hi - lo
      · obtain ⟨r, hr⟩ : ∃ r, R[lo + k]? = some r := ⟨_, List.getElem?_eq_getElem (by rw [HC.out.len]; omega)⟩
        have HCW := HC.out.low hb
        obtain ⟨c0, c1⟩ := HCW.cell hr
        have hrow := HCW.rows _ _ hr
        have hpr : (partR R lo hi)[k]? = some r := by rw [partR_at hlt]; exact hr
        have HT := Lib.hid (lenR_take hpr)
        have hlk1 := lenR_le (partR R lo hi) (k + 1)
        rw [HT.out] at hlk1
        obtain ⟨v, e, l⟩ := r
        obtain ⟨Ai, ci, hv, _⟩ := own_form hrow
        simp only at hv
        subst hv
        rw [show (lo + k) * 2 = lo * 2 + k * 2 by omega] at c0 c1
        simp only at c0 c1 hlk1 HT
        have hbn := below_self hb (below_new wr (.cells #[.slice Ai l.length ci, .int .i64 e] 97))
        have hnw := cells_new wr [.slice Ai l.length ci, .int .i64 e] 97
        have d0 := hnw 0 _ rfl
        rw [addNew] at d0
        clear hnw HCW hrow hpr hr hb
        obtain ⟨y, hy⟩ : ∃ y, lenR ((partR R lo hi).take k) = y := ⟨_, rfl⟩
        rw [hy] at HT hlk hlk1 ⊢
        clear hy
        go_wp2_with fail
        go_roundw
        case rel => exact ⟨k + 1, by omega, by go_num, by rw [HT.out]; go_num, hbn⟩
        case measure => simp [intOf]; omega
      · have hkm : k = hi - lo := by omega
        have HE := Lib.hid (show z + lenR ((partR R lo hi).take k) = cntR R ah lo hi by rw [HZ.out, hkm, List.take_of_length_le (Nat.le_of_eq (partR_len HC.out.len h2))])
        rw [HE.out]
        have HBB := Lib.hid (below_self HB.out hb)
        clear hlk hkm
        go_wp2_with fail
        go_ret
        exact ⟨rfl, HBB.out⟩
end Go.Proofs.Ytcbiaeeifclieaa
/- slices.Reverse at []int: the row, the other way round. -/
namespace Go.Proofs.Ytcbiaeeifclieaa
open Go.RowKit

/-- After k exchanges from both ends. -/
def RvAt (xs ys : List Int) (n k : Nat) : Prop := ys.length = n ∧ ∀ p, p < n → ys[p]? = if p < k ∨ n ≤ p + k then xs[n - 1 - p]? else xs[p]?
theorem RvAt.step {xs ys : List Int} {n k : Nat} (h : RvAt xs ys n k) (hk : k + (k + 1) < n) {a b : Int} (ha : ys[k]? = some a) (hb : ys[n - 1 - k]? = some b) : RvAt xs ((ys.set k b).set (n - 1 - k) a) n (k + 1) := by
  refine ⟨by simp [h.1], fun p hp => ?_⟩
  have h1 := h.2 k (by omega)
  rw [if_neg (by omega), ha] at h1
  have h2 := h.2 (n - 1 - k) (by omega)
  rw [if_neg (by omega), hb] at h2
  by_cases e1 : p = n - 1 - k
  · subst e1
    rw [List.getElem?_set_self (by simp [h.1]; omega), if_pos (by omega), show n - 1 - (n - 1 - k) = k by omega]
    exact h1
  · rw [List.getElem?_set_ne (fun e => e1 e.symm)]
    by_cases e2 : p = k
    · subst e2
      rw [List.getElem?_set_self (by rw [h.1]; omega), if_pos (by omega)]
      exact h2
    · rw [List.getElem?_set_ne (fun e => e2 e.symm), h.2 p hp]
      by_cases e3 : p < k ∨ n ≤ p + k
      · rw [if_pos e3, if_pos (by omega)]
      · rw [if_neg e3, if_neg (by omega)]
theorem RvAt.done {xs ys : List Int} {n k : Nat} (h : RvAt xs ys n k) (hx : xs.length = n) (hk : n ≤ k + (k + 1)) : ys = xs.reverse := by
  apply List.ext_getElem?
  intro p
  by_cases hp : p < n
  · rw [h.2 p hp, List.getElem?_reverse (by omega), hx]
    by_cases e : p < k ∨ n ≤ p + k
    · rw [if_pos e]
    · rw [if_neg e, show n - 1 - p = p by omega]
  · rw [List.getElem?_eq_none (by rw [h.1]; omega), List.getElem?_eq_none (by simp; omega)]
theorem grownRv {a b c : World} {row : Option Nat} (h : a.grownBy b row) (k : b.grownBy c row) : a.grownBy c row :=
  ⟨k.os.trans h.os, k.tape.trans h.tape, k.output.trans h.output, Nat.le_trans h.size k.size, fun i hi hr => (k.block i (Nat.lt_of_lt_of_le hi h.size) hr).trans (h.block i hi hr)⟩
set_option maxRecDepth 100000 in
set_option maxHeartbeats 1000000 in
theorem reverseI_any (base g c n : Nat) (xs : List Int) (w : World) (hown : w.ownsRow base 3 1 (.slice (some ⟨g, 0, none⟩) n c) n (xs.map (Value.int .i64))) (hn : n ≤ 200000000) :
    Calls Try.prog 62 #[.slice (some ⟨g, 0, none⟩) n c] w fun e w' => e = .returned (.tuple #[]) ∧ w'.ownsRow base 3 1 (.slice (some ⟨g, 0, none⟩) n c) n (xs.reverse.map (Value.int .i64)) ∧ w.grownBy w' (some g) := by
  have hlen : xs.length = n := by have := hown.1; rw [List.length_map] at this; omega
  have HL := Lib.hid hlen
  have HO := Lib.hid hown
  have HR0 := Lib.hid (show RvAt xs xs n 0 from ⟨hlen, fun p hp => by rw [if_neg (by omega)]⟩)
  clear hlen hown
  go_enter Try.func62, Try.ntmps62
  go_wp2_with fail
  go_loopw [2, 3] (fun i j ws => ∃ (k : Nat) (jj : Int) (ys : List Int), i = .int .i64 (k : Int) ∧ j = .int .i64 jj ∧ jj = (n : Int) - 1 - (k : Int) ∧ k ≤ n ∧ RvAt xs ys n k ∧ ws.ownsRow base 3 1 (.slice (some ⟨g, 0, none⟩) n c) n (ys.map (Value.int .i64)) ∧ w.grownBy ws (some g)) (fun i _ _ => n - (intOf i).toNat)
  case atStart => exact ⟨0, (n : Int) - 1, xs, rfl, rfl, by omega, Nat.zero_le _, HR0.out, HO.out, World.grownBy.refl w _⟩
  case round =>
    obtain ⟨k, jj, ys, rfl, rfl, hjj, hkn, hrv, hownr, hgr⟩ := hrel
    by_cases hlt : (k : Int) < jj
    · obtain ⟨jn, hjn⟩ : ∃ jn : Nat, jj = (jn : Int) := ⟨jj.toNat, by omega⟩
      subst hjn
      have hjn2 : jn = n - 1 - k := by omega
      have hkj : k < jn := by omega
      have hjl : jn < n := by omega
      have HJ := Lib.hid hjj
      have HJ2 := Lib.hid hjn2
      obtain ⟨a, ha⟩ : ∃ a, ys[k]? = some a := ⟨_, List.getElem?_eq_getElem (by rw [hrv.1]; omega)⟩
      obtain ⟨b, hb⟩ : ∃ b, ys[jn]? = some b := ⟨_, List.getElem?_eq_getElem (by rw [hrv.1]; omega)⟩
      have ck : wr.cell? ⟨g, k, none⟩ = some (.int .i64 a) := by rw [hownr.cellAt k (by omega), List.getElem?_map, ha]; rfl
      have cj : wr.cell? ⟨g, jn, none⟩ = some (.int .i64 b) := by rw [hownr.cellAt jn (by omega), List.getElem?_map, hb]; rfl
      have fk := hownr.frozenAt k
      have fj := hownr.frozenAt jn
      have HRV := Lib.hid (show RvAt xs ((ys.set k b).set jn a) n (k + 1) by rw [hjn2] at hb ⊢; exact hrv.step (by omega) ha hb)
      have HOW := Lib.hid (show ∀ W, W = ((wr.setCell ⟨g, k, none⟩ (.int .i64 b)).setCell ⟨g, jn, none⟩ (.int .i64 a)).drew → W.ownsRow base 3 1 (.slice (some ⟨g, 0, none⟩) n c) n (((ys.set k b).set jn a).map (Value.int .i64)) ∧ w.grownBy W (some g) from fun W e => by
        have h1 := hownr.stored k (.int .i64 b)
        rw [← List.map_set] at h1
        have h2 := h1.1.stored jn (.int .i64 a)
        rw [← List.map_set] at h2
        have h3 := grownRv (grownRv hgr h1.2) h2.2
        rw [e]
        exact ⟨h2.1, ⟨h3.os, h3.tape, h3.output, h3.size, h3.block⟩⟩)
      clear hjj hjn2 ha hb hrv hownr hgr
      go_wp2_with fail
      go_region
      clear ck cj fk fj
      go_wp2_with fail
      go_roundw
      case rel => exact ⟨k + 1, (jn : Int) - 1, _, by go_num, rfl, by have := HJ.out; omega, by omega, HRV.out, (HOW.out _ rfl).1, (HOW.out _ rfl).2⟩
      case measure => simp [intOf]; omega
    · have HD := Lib.hid (hrv.done HL.out (by omega))
      have HO2 := Lib.hid hownr
      rw [HD.out] at HO2
      have HG := Lib.hid hgr
      clear hrv hownr hgr hjj
      go_wp2_with fail
      exact bodyPost_end (v := .tuple #[]) (by simp [results, go_sem]) rfl ⟨rfl, by rw [← List.map_reverse]; exact HO2.out, HG.out⟩
set_option maxRecDepth 100000 in
set_option maxHeartbeats 1000000 in
theorem reverseI_v (base n : Nat) (v : Value) (xs : List Int) (w : World) (hown : w.ownsRow base 3 1 v n (xs.map (Value.int .i64))) (hn : n ≤ 200000000) :
    Calls Try.prog 62 #[v] w fun e w' => e = .returned (.tuple #[]) ∧ w'.ownsRow base 3 1 v n (xs.reverse.map (Value.int .i64)) ∧ w.grownBy w' v.ownBlock := by
  rcases hown.2 with ⟨rfl, rfl⟩ | ⟨g, c, _, rfl, _⟩
  · have hx : xs = [] := by
      have := hown.1
      rw [List.length_map] at this
      exact List.eq_nil_of_length_eq_zero (by omega)
    subst hx
    have HO := Lib.hid hown
    clear hown
    go_enter Try.func62, Try.ntmps62
    go_wp2_with fail
    refine wp_loop_rounds 1 ?_
    rw [rounds_succ]
    go_wp2_with fail
    exact bodyPost_end (v := .tuple #[]) (by simp [results, go_sem]) rfl ⟨rfl, HO.out, World.grownBy.refl w _⟩
  · exact reverseI_any base g c n xs w hown hn
end Go.Proofs.Ytcbiaeeifclieaa
/- cells' told, walked: the codes of a part of the cells, in a row of the call's own. -/
namespace Go.Proofs.Ytcbiaeeifclieaa
open Go.RowKit

theorem intSliceT : SliceOf Try.prog 31 3 1 8 := .mk_ (z := .int .i64 0) Try.underlying31 (by kernel_rfl) rfl
set_option maxRecDepth 100000 in
set_option maxHeartbeats 2000000 in
theorem told_any (base b gc n lo hi : Nat) (R : List RC) (va : Value) (ah : List Int) (w : World) (hC : CellsAt w base b gc n R va ah) (h1 : lo < hi) (h2 : hi ≤ n) (hn : n ≤ 100000000) (ht : ah.length + lenR R ≤ 100000000) :
    Calls Try.prog 45 #[.pointer (some ⟨b, 0, none⟩), .agg #[.int .i64 (lo : Int), .int .i64 (hi : Int)]] w fun e w' => ∃ v, e = .returned v ∧ w'.ownsRow w.heap.size 3 1 v (toldR R ah lo hi).length ((toldR R ah lo hi).map (Value.int .i64)) ∧ Below w.heap.size w w' := by
  obtain ⟨Aa, ca, rfl, _⟩ := own_form hC.arow
  have hbn := below_new w (.cells #[.int .i64 (lo : Int), .int .i64 (hi : Int)] 33)
  have hC2 := hC.low hbn
  have s1 := SpanBlk.new_ w (lo : Int) (hi : Int) 33
  obtain ⟨W1, hW1⟩ : ∃ W1, w.alloc (.cells #[.int .i64 (lo : Int), .int .i64 (hi : Int)] 33) = W1 := ⟨_, rfl⟩
  rw [hW1] at hbn hC2 s1
  obtain ⟨d0, d1, f0, f1⟩ := s1
  obtain ⟨bs, hbs⟩ : ∃ bs, w.heap.size = bs := ⟨_, rfl⟩
  rw [hbs] at d0 d1
  have HC1 := Lib.hid hC2
  have HB1 := Lib.hid hbn
  have hlo : (lo : Int) < (n : Int) := by omega
  have hhi : (hi : Int) ≤ (n : Int) := by omega
  have hlh : (lo : Int) ≤ (hi : Int) := by omega
  have hne : ¬ (n = lo) := by omega
  have hcl := cntR_le R ah lo hi
  clear hC hC2 hbn f0 f1
  go_enter Try.func45, Try.ntmps45
  go_wp2_with fail
  refine (count_any base b gc n lo hi R _ ah W1 HC1.out h1 h2 hn ht).mono ?_
  rintro e w2 ⟨rfl, hb2⟩
  have e0 := cell_below hb2 d0
  have e1 := cell_below hb2 d1
  have hC2 := HC1.out.low hb2
  have HB2 := Lib.hid (below_self HB1.out hb2)
  have HC2 := Lib.hid hC2
  obtain ⟨cq, hcq⟩ : ∃ cq, cntR R ah lo hi = cq := ⟨_, rfl⟩
  rw [hcq] at hcl ⊢
  clear hcq d0 d1 hb2 hC2 HC1
  by_cases hz : lo = 0
  · have g0 : ((lo : Int) == 0) = true := by simp; omega
    have HLO := Lib.hid hz
    clear hz
    go_wp2_with (first
      | (at_make; refine wpList_mk rfl _ _ _ rfl (base := w2.heap.size) intSliceT (cq : Int) cq rfl rfl rfl (by omega) (by unfold maxLen; omega) (Nat.le_refl _) ?_; intro v3 w3 hown3 hg3; have hb3 := below_make hg3; have x0 := cell_below hb3 e0; have x1 := cell_below hb3 e1; have y0 := hp_cell (j := 0) (HC2.out.low hb3).hb rfl; have y1 := hp_cell (j := 1) (HC2.out.low hb3).hb rfl)
      | (at_builtin; refine wpList_appR rfl _ _ _ rfl intSliceT (by decide) v3 0 [] rfl hown3 Aa ah.length ca (ah.map (Value.int .i64)) rfl (Rd.of_own (HC2.out.low hb3).arow) (oneInts _ _) (by omega) (by unfold maxLen; omega) hb3.size ?_; intro v4 w4 hown4 hg4 hat4; simp only [Nat.zero_add, List.nil_append] at hown4))
    have hb4 := hb3.grown hg4 hb3.size (fun k hk => (hown3.lt k hk).1)
    have hB4 : v4.ownBlock = none ∨ ∃ g, v4.ownBlock = some g ∧ w2.heap.size ≤ g := by
      rcases h : v4.ownBlock with _ | g
      · exact .inl rfl
      · exact .inr ⟨g, rfl, (hown4.lt g h).1⟩
    refine (reverseI_v w2.heap.size ah.length v4 ah w4 hown4 (by omega)).mono ?_
    rintro e w5 ⟨rfl, hown5, hg5⟩
    have hb5 := hb4.grown hg5 hb4.size (fun k hk => (hown4.lt k hk).1)
    have z0 := hp_cell (j := 0) (HC2.out.low hb5).hb rfl
    have z1 := cell_below hb5 e0
    have z2 := cell_below hb5 e1
    clear e0 e1 x0 x1 y0 y1 hown3 hg3 hb3 hown4 hg4 hat4 hB4 hb4 hg5
    go_wp2_with fail
    go_quiet (fail)
    go_wp2_with fail
    obtain ⟨z, hz⟩ : ∃ z : List Int, z = ah.reverse := ⟨_, rfl⟩
    have HZ := Lib.hid (show toldR R ah lo hi = z ++ codesR (partR R lo hi) by unfold toldR; rw [hz]; simp [HLO.out])
    have hzt : z.length + lenR (partR R lo hi) ≤ 100000000 := by
      have h8 := toldR_len R ah lo hi
      rw [HZ.out, List.length_append, lenR_codes] at h8
      rw [h8]
      exact Nat.le_trans (cntR_le R ah lo hi) ht
    have HOZ0 := Lib.hid (show (w5.drewN nq).ownsRow w2.heap.size 3 1 v4 z.length (z.map (Value.int .i64)) by rw [hz, List.length_reverse]; exact hown5)
    have HBZ0 := Lib.hid (show Below w2.heap.size w2 (w5.drewN nq) from below_drew hb5 nq)
    clear hz hown5 hb5 z0 z1 z2
    go_loopw [5, 33] (fun s i ws => ∃ (k : Nat) (acc : List Int), k ≤ hi - lo ∧ i = .int .i64 (k : Int) ∧ acc = z ++ codesR ((partR R lo hi).take k) ∧ ws.ownsRow w2.heap.size 3 1 s acc.length (acc.map (Value.int .i64)) ∧ Below w2.heap.size w2 ws) (fun _ i _ => (hi - lo) - (intOf i).toNat)
    case atStart => exact ⟨0, z, Nat.zero_le _, rfl, by simp [codesR], HOZ0.out, HBZ0.out⟩
    case round =>
      clear HOZ0 HBZ0
      obtain ⟨k, acc, hk, rfl, hacc, hown, hb⟩ := hrel
      have HACC := Lib.hid hacc
      have hlk := lenR_le (partR R lo hi) k
      by_cases hlt : k < hi - lo
      · obtain ⟨r, hr⟩ : ∃ r, R[lo + k]? = some r := ⟨_, List.getElem?_eq_getElem (by rw [HC2.out.len]; omega)⟩
        have HCW := HC2.out.low hb
        obtain ⟨c0, c1⟩ := HCW.cell hr
        have hrow := HCW.rows _ _ hr
        have hpr : (partR R lo hi)[k]? = some r := by rw [partR_at hlt]; exact hr
        have HT := Lib.hid (codesR_take hpr)
        have hlt1 := lenR_take hpr
        have hlk1 := lenR_le (partR R lo hi) (k + 1)
        have hal : acc.length = z.length + lenR ((partR R lo hi).take k) := by rw [hacc, List.length_append, lenR_codes]
        obtain ⟨v, e, l⟩ := r
        obtain ⟨Ai, ci, hv, _⟩ := own_form hrow
        simp only at hv
        subst hv
        rw [show (lo + k) * 2 = lo * 2 + k * 2 by omega] at c0 c1
        simp only at c0 c1 hlt1 HT hrow
        have hbn := below_new wr (.cells #[.slice Ai l.length ci, .int .i64 e] 97)
        have hnw := cells_new wr [.slice Ai l.length ci, .int .i64 e] 97
        have d0 := hnw 0 _ rfl
        rw [addNew] at d0
        have HRR := Lib.hid (Rd.of_own (own_below hrow hbn))
        have HOW := Lib.hid (own_below hown hbn)
        have HBW := Lib.hid (below_self hb hbn)
        have hbz : acc.length + l.length ≤ 100000000 := by omega
        clear hnw HCW hrow hpr hr hb hbn hacc hown hal hlt1 hlk1 hlk
        go_wp2_with (at_builtin; refine wpList_appR rfl _ _ _ rfl intSliceT (by decide) u5 acc.length _ rfl HOW.out Ai l.length ci _ rfl HRR.out (oneInts _ _) (by omega) (by unfold maxLen; omega) HBW.out.size ?_; intro v9 w9 hown9 hg9 hat9)
        have HB9 := Lib.hid (HBW.out.grown hg9 HBW.out.size (fun b hb => (HOW.out.lt b hb).1))
        have HO9 := Lib.hid (show w9.ownsRow w2.heap.size 3 1 v9 (acc ++ l).length ((acc ++ l).map (Value.int .i64)) by rw [List.length_append, List.map_append]; exact hown9)
        clear hown9 hg9 hat9
        go_roundw
        case rel => exact ⟨k + 1, acc ++ l, by omega, by go_num, by rw [HT.out, HACC.out, List.append_assoc], HO9.out, HB9.out⟩
        case measure => simp [intOf]; omega
      · have hkm : k = hi - lo := by omega
        have HE := Lib.hid (show acc = toldR R ah lo hi by rw [HZ.out, HACC.out, hkm, List.take_of_length_le (Nat.le_of_eq (partR_len HC2.out.len h2))])
        have HO9 := Lib.hid (own_base hown HB2.out.size)
        have HB9 := Lib.hid (below_self HB2.out hb)
        rw [HE.out] at HO9
        clear hkm hown hb hacc hlk
        go_wp2_with fail
        go_ret
        exact ⟨u5, rfl, HO9.out, HB9.out⟩
  · have g0 : ((lo : Int) == 0) = false := by simp; omega
    have HLO := Lib.hid hz
    clear hz
    go_wp2_with (at_make; refine wpList_mk rfl _ _ _ rfl (base := w2.heap.size) intSliceT (cq : Int) cq rfl rfl rfl (by omega) (by unfold maxLen; omega) (Nat.le_refl _) ?_; intro v3 w3 hown3 hg3; have hb3 := below_make hg3; have x0 := cell_below hb3 e0; have x1 := cell_below hb3 e1; have y0 := hp_cell (j := 0) (HC2.out.low hb3).hb rfl; have y1 := hp_cell (j := 1) (HC2.out.low hb3).hb rfl)
    go_quiet (fail)
    go_wp2_with fail
    obtain ⟨z, hz⟩ : ∃ z : List Int, z = [] := ⟨_, rfl⟩
    have HZ := Lib.hid (show toldR R ah lo hi = z ++ codesR (partR R lo hi) by unfold toldR; rw [hz]; simp [HLO.out])
    have hzt : z.length + lenR (partR R lo hi) ≤ 100000000 := by
      have h8 := toldR_len R ah lo hi
      rw [HZ.out, List.length_append, lenR_codes] at h8
      rw [h8]
      exact Nat.le_trans (cntR_le R ah lo hi) ht
    have HOZ0 := Lib.hid (show (w3.drewN nq).ownsRow w2.heap.size 3 1 v3 z.length (z.map (Value.int .i64)) by rw [hz]; exact hown3)
    have HBZ0 := Lib.hid (show Below w2.heap.size w2 (w3.drewN nq) from below_drew hb3 nq)
    clear hz hown3 hg3 hb3 x0 x1 y0 y1 e0 e1
    go_loopw [5, 33] (fun s i ws => ∃ (k : Nat) (acc : List Int), k ≤ hi - lo ∧ i = .int .i64 (k : Int) ∧ acc = z ++ codesR ((partR R lo hi).take k) ∧ ws.ownsRow w2.heap.size 3 1 s acc.length (acc.map (Value.int .i64)) ∧ Below w2.heap.size w2 ws) (fun _ i _ => (hi - lo) - (intOf i).toNat)
    case atStart => exact ⟨0, z, Nat.zero_le _, rfl, by simp [codesR], HOZ0.out, HBZ0.out⟩
    case round =>
      clear HOZ0 HBZ0
      obtain ⟨k, acc, hk, rfl, hacc, hown, hb⟩ := hrel
      have HACC := Lib.hid hacc
      have hlk := lenR_le (partR R lo hi) k
      by_cases hlt : k < hi - lo
      · obtain ⟨r, hr⟩ : ∃ r, R[lo + k]? = some r := ⟨_, List.getElem?_eq_getElem (by rw [HC2.out.len]; omega)⟩
        have HCW := HC2.out.low hb
        obtain ⟨c0, c1⟩ := HCW.cell hr
        have hrow := HCW.rows _ _ hr
        have hpr : (partR R lo hi)[k]? = some r := by rw [partR_at hlt]; exact hr
        have HT := Lib.hid (codesR_take hpr)
        have hlt1 := lenR_take hpr
        have hlk1 := lenR_le (partR R lo hi) (k + 1)
        have hal : acc.length = z.length + lenR ((partR R lo hi).take k) := by rw [hacc, List.length_append, lenR_codes]
        obtain ⟨v, e, l⟩ := r
        obtain ⟨Ai, ci, hv, _⟩ := own_form hrow
        simp only at hv
        subst hv
        rw [show (lo + k) * 2 = lo * 2 + k * 2 by omega] at c0 c1
        simp only at c0 c1 hlt1 HT hrow
        have hbn := below_new wr (.cells #[.slice Ai l.length ci, .int .i64 e] 97)
        have hnw := cells_new wr [.slice Ai l.length ci, .int .i64 e] 97
        have d0 := hnw 0 _ rfl
        rw [addNew] at d0
        have HRR := Lib.hid (Rd.of_own (own_below hrow hbn))
        have HOW := Lib.hid (own_below hown hbn)
        have HBW := Lib.hid (below_self hb hbn)
        have hbz : acc.length + l.length ≤ 100000000 := by omega
        clear hnw HCW hrow hpr hr hb hbn hacc hown hal hlt1 hlk1 hlk
        go_wp2_with (at_builtin; refine wpList_appR rfl _ _ _ rfl intSliceT (by decide) u5 acc.length _ rfl HOW.out Ai l.length ci _ rfl HRR.out (oneInts _ _) (by omega) (by unfold maxLen; omega) HBW.out.size ?_; intro v9 w9 hown9 hg9 hat9)
        have HB9 := Lib.hid (HBW.out.grown hg9 HBW.out.size (fun b hb => (HOW.out.lt b hb).1))
        have HO9 := Lib.hid (show w9.ownsRow w2.heap.size 3 1 v9 (acc ++ l).length ((acc ++ l).map (Value.int .i64)) by rw [List.length_append, List.map_append]; exact hown9)
        clear hown9 hg9 hat9
        go_roundw
        case rel => exact ⟨k + 1, acc ++ l, by omega, by go_num, by rw [HT.out, HACC.out, List.append_assoc], HO9.out, HB9.out⟩
        case measure => simp [intOf]; omega
      · have hkm : k = hi - lo := by omega
        have HE := Lib.hid (show acc = toldR R ah lo hi by rw [HZ.out, HACC.out, hkm, List.take_of_length_le (Nat.le_of_eq (partR_len HC2.out.len h2))])
        have HO9 := Lib.hid (own_base hown HB2.out.size)
        have HB9 := Lib.hid (below_self HB2.out hb)
        rw [HE.out] at HO9
        clear hkm hown hb hacc hlk
        go_wp2_with fail
        go_ret
        exact ⟨u5, rfl, HO9.out, HB9.out⟩
end Go.Proofs.Ytcbiaeeifclieaa
/- refRight_any. -/
namespace Go.Proofs.Ytcbiaeeifclieaa
open Go.RowKit

theorem refRight_any (lo hi : Int) (w : World) :
    Calls Try.prog 61 #[.agg #[.int .i64 lo, .int .i64 hi]] w fun e w' => e = .returned (.bool (rightB (lo, hi))) ∧ Below w.heap.size w w' := by
  have hc : lo < 0 ∨ (0 ≤ lo ∧ lo < hi) ∨ (0 ≤ lo ∧ hi ≤ lo) := by omega
  rcases hc with h | ⟨h, h'⟩ | ⟨h, h'⟩ <;>
    (go_enter Try.func61, Try.ntmps61
     go_wp2
     go_ret
     refine ⟨retB ?_, below_new _ _⟩
     simp [rightB]
     try omega)

end Go.Proofs.Ytcbiaeeifclieaa
/- The slice type of spans. -/
namespace Go.Proofs.Ytcbiaeeifclieaa
open Go.RowKit
theorem spanSlice : SliceOf Try.prog 47 33 2 16 := .mk_ (z := .agg #[.int .i64 0, .int .i64 0]) Try.underlying47 (by kernel_rfl) rfl
end Go.Proofs.Ytcbiaeeifclieaa
/- What a store at cells leaves: a row, what is ahead, an end. -/
namespace Go.Proofs.Ytcbiaeeifclieaa
open Go.RowKit

section
variable {w : World} {base b gc n : Nat} {R : List RC} {va : Value} {ah : List Int}
theorem ne_swap {a c : Option Nat} (h : a = none ∨ a ≠ c) : c = none ∨ c ≠ a := by
  rcases h with rfl | h
  · rcases c with _ | g
    · exact .inl rfl
    · exact .inr (by simp)
  · exact .inr fun e => h e.symm
theorem own_not {v : Value} {k : Nat} {xs : List Value} (h : w.ownsRow base 3 1 v k xs) {g : Nat} (hg : g < base) : v.ownBlock ≠ some g := fun e => by have := (h.lt g e).1; omega
theorem CellsAt.put (h : CellsAt w base b gc n R va ah) {i : Nat} {r : RC} (hi : R[i]? = some r) {v : Value} {l : List Int} (hown : w.ownsRow base 3 1 v l.length (l.map (Value.int .i64)))
    (hne : ∀ (j : Nat) (s : RC), j ≠ i → R[j]? = some s → v.ownBlock = none ∨ v.ownBlock ≠ s.1.ownBlock) (hna : v.ownBlock = none ∨ v.ownBlock ≠ va.ownBlock) :
    CellsAt (w.setCell ⟨gc, i * 2, none⟩ v) base b gc n (R.set i (v, r.2.1, l)) va ah := by
  have hil := (List.getElem?_eq_some_iff.1 hi).1
  have get : ∀ (j : Nat) (s : RC), (R.set i (v, r.2.1, l))[j]? = some s → (j = i ∧ s = (v, r.2.1, l)) ∨ (j ≠ i ∧ R[j]? = some s) := fun j s hs => by
    by_cases e : j = i
    · subst e
      rw [List.getElem?_set_self hil] at hs
      exact .inl ⟨rfl, (Option.some.inj hs).symm⟩
    · rw [List.getElem?_set_ne (fun e9 => e e9.symm)] at hs
      exact .inr ⟨e, hs⟩
  refine ⟨(hp_far h.far.2.2.1 _ _).trans h.hb, ?_, by rw [List.length_set]; exact h.len, fun j s hs => ?_, own_set_far h.arow (own_not h.arow h.far.2.1), fun j k s t hjk hs ht => ?_, fun j s hs => ?_, ⟨h.far.1, h.far.2.1, h.far.2.2.1, by simpa [World.setCell] using h.far.2.2.2⟩⟩
  · rw [heap_setCell_same w gc (i * 2) _ _ v h.hc, List.setIfInBounds_toArray, cellsRC_set hi]
  · rcases get j s hs with ⟨_, rfl⟩ | ⟨_, hs'⟩
    · exact own_set_far hown (own_not hown h.far.2.1)
    · exact own_set_far (h.rows j s hs') (own_not (h.rows j s hs') h.far.2.1)
  · rcases get j s hs with ⟨rfl, rfl⟩ | ⟨hj, hs'⟩ <;> rcases get k t ht with ⟨rfl, rfl⟩ | ⟨hk, ht'⟩
    · exact absurd rfl hjk
    · exact hne k t hk ht'
    · exact ne_swap (hne j s hj hs')
    · exact h.ne j k s t hjk hs' ht'
  · rcases get j s hs with ⟨_, rfl⟩ | ⟨_, hs'⟩
    · exact hna
    · exact h.nea j s hs'
theorem CellsAt.putA (h : CellsAt w base b gc n R va ah) {v : Value} {l : List Int} (hown : w.ownsRow base 3 1 v l.length (l.map (Value.int .i64)))
    (hne : ∀ (j : Nat) (s : RC), R[j]? = some s → s.1.ownBlock = none ∨ s.1.ownBlock ≠ v.ownBlock) :
    CellsAt (w.setCell ⟨b, 1, none⟩ v) base b gc n R v l := by
  refine ⟨?_, (hp_far (Ne.symm h.far.2.2.1) _ _).trans h.hc, h.len, fun j s hs => own_set_far (h.rows j s hs) (own_not (h.rows j s hs) h.far.1), own_set_far hown (own_not hown h.far.1), h.ne, hne, ⟨h.far.1, h.far.2.1, h.far.2.2.1, by simpa [World.setCell] using h.far.2.2.2⟩⟩
  rw [heap_setCell_same w b 1 _ _ v h.hb]
  rfl
theorem CellsAt.putE (h : CellsAt w base b gc n R va ah) {i : Nat} {r : RC} (hi : R[i]? = some r) (e : Int) :
    CellsAt (w.setCell ⟨gc, i * 2 + 1, none⟩ (.int .i64 e)) base b gc n (R.set i (r.1, e, r.2.2)) va ah := by
  have hil := (List.getElem?_eq_some_iff.1 hi).1
  have get : ∀ (j : Nat) (s : RC), (R.set i (r.1, e, r.2.2))[j]? = some s → ∃ s', R[j]? = some s' ∧ s.1 = s'.1 ∧ s.2.2 = s'.2.2 := fun j s hs => by
    by_cases e : j = i
    · subst e
      rw [List.getElem?_set_self hil] at hs
      obtain rfl := Option.some.inj hs
      exact ⟨r, hi, rfl, rfl⟩
    · rw [List.getElem?_set_ne (fun e9 => e e9.symm)] at hs
      exact ⟨s, hs, rfl, rfl⟩
  refine ⟨(hp_far h.far.2.2.1 _ _).trans h.hb, ?_, by rw [List.length_set]; exact h.len, fun j s hs => ?_, own_set_far h.arow (own_not h.arow h.far.2.1), fun j k s t hjk hs ht => ?_, fun j s hs => ?_, ⟨h.far.1, h.far.2.1, h.far.2.2.1, by simpa [World.setCell] using h.far.2.2.2⟩⟩
  · rw [heap_setCell_same w gc (i * 2 + 1) _ _ _ h.hc, List.setIfInBounds_toArray, cellsRC_setE hi]
  · obtain ⟨s', h1, h2, h3⟩ := get j s hs
    rw [h2, h3]
    exact own_set_far (h.rows j s' h1) (own_not (h.rows j s' h1) h.far.2.1)
  · obtain ⟨s', h1, h2, _⟩ := get j s hs
    obtain ⟨t', k1, k2, _⟩ := get k t ht
    rw [h2, k2]
    exact h.ne j k s' t' hjk h1 k1
  · obtain ⟨s', h1, h2, _⟩ := get j s hs
    rw [h2]
    exact h.nea j s' h1
end
end Go.Proofs.Ytcbiaeeifclieaa
/- Whether spans are parts, as plain mathematics. -/
namespace Go.Proofs.Ytcbiaeeifclieaa
open Go.RowKit
/-- Whether spans are parts from 'end_' on to n. -/
def partsFrom : Int → List Sp → Int → Bool
  | e, [], n => e == n
  | e, s :: l, n => rightB s && (s.1 == e) && partsFrom s.2 l n
def partsS (l : List Sp) (n : Int) : Bool := partsFrom 0 l n
theorem partsFrom_no {e n : Int} {l : List Sp} {s : Sp} (h : rightB s = false ∨ (s.1 == e) = false) : partsFrom e (s :: l) n = false := by
  unfold partsFrom
  rcases h with h | h <;> simp [h]
theorem partsFrom_yes {e n : Int} {l : List Sp} {s : Sp} (h : rightB s = true) (h' : (s.1 == e) = true) : partsFrom e (s :: l) n = partsFrom s.2 l n := by
  show (rightB s && (s.1 == e) && partsFrom s.2 l n) = _
  rw [h, h']; rfl
theorem dropCons {α : Type} {l : List α} {k : Nat} {x : α} (h : l[k]? = some x) : l.drop k = x :: l.drop (k + 1) := by
  obtain ⟨hk, rfl⟩ := List.getElem?_eq_some_iff.1 h
  exact List.drop_eq_getElem_cons hk
end Go.Proofs.Ytcbiaeeifclieaa
/- Spans put in order by their Lo, as plain mathematics: put in one by one; which order does not matter where they are parts. -/
namespace Go.Proofs.Ytcbiaeeifclieaa

def LoSorted (l : List Sp) : Prop := l.Pairwise fun a b => a.1 ≤ b.1
def insLo (acc : List Sp) (s : Sp) : List Sp := acc.takeWhile (fun t => decide (t.1 ≤ s.1)) ++ s :: acc.dropWhile (fun t => decide (t.1 ≤ s.1))
def sortR (l : List Sp) : List Sp := l.foldl insLo []
theorem insLo_at {acc : List Sp} {s : Sp} {j : Nat} (h1 : ∀ t ∈ acc.take j, t.1 ≤ s.1) (h2 : j = acc.length ∨ ∃ t, acc[j]? = some t ∧ ¬ t.1 ≤ s.1) : insLo acc s = acc.take j ++ s :: acc.drop j := by
  induction acc generalizing j with
  | nil => simp [insLo]
  | cons a acc ih =>
    cases j with
    | zero =>
      rcases h2 with h2 | ⟨t, ht, hn⟩
      · simp at h2
      · simp at ht
        subst ht
        have hd : decide (a.1 ≤ s.1) = false := decide_eq_false hn
        simp [insLo, List.takeWhile, List.dropWhile, hd]
    | succ j =>
      have ha := h1 a (by simp)
      have hd : decide (a.1 ≤ s.1) = true := decide_eq_true ha
      have := ih (j := j) (fun t ht => h1 t (by simp [ht])) (by
        rcases h2 with h2 | ⟨t, ht, hn⟩
        · exact .inl (by simpa using h2)
        · exact .inr ⟨t, by simpa using ht, hn⟩)
      unfold insLo at this ⊢
      simp only [List.takeWhile, List.dropWhile, hd, List.take_succ_cons, List.drop_succ_cons, List.cons_append]
      rw [this]
theorem insLo_len (acc : List Sp) (s : Sp) : (insLo acc s).length = acc.length + 1 := by
  have := congrArg List.length (List.takeWhile_append_dropWhile (p := fun t : Sp => decide (t.1 ≤ s.1)) (l := acc))
  rw [List.length_append] at this
  unfold insLo
  rw [List.length_append, List.length_cons]
  omega
theorem insLo_perm (acc : List Sp) (s : Sp) : (insLo acc s).Perm (s :: acc) := by
  unfold insLo
  refine List.perm_middle.trans ?_
  rw [List.takeWhile_append_dropWhile]
theorem insLo_sorted {acc : List Sp} (s : Sp) (h : LoSorted acc) : LoSorted (insLo acc s) := by
  unfold LoSorted at *
  induction acc with
  | nil => simp [insLo]
  | cons a acc ih =>
    rw [List.pairwise_cons] at h
    by_cases ha : a.1 ≤ s.1
    · have hd : decide (a.1 ≤ s.1) = true := decide_eq_true ha
      have e : insLo (a :: acc) s = a :: insLo acc s := by simp [insLo, List.takeWhile, List.dropWhile, hd]
      rw [e, List.pairwise_cons]
      refine ⟨fun b hb => ?_, ih h.2⟩
      have := (insLo_perm acc s).mem_iff.1 hb
      simp at this
      rcases this with rfl | hb'
      · exact ha
      · exact h.1 b hb'
    · have hd : decide (a.1 ≤ s.1) = false := decide_eq_false ha
      have e : insLo (a :: acc) s = s :: a :: acc := by simp [insLo, List.takeWhile, List.dropWhile, hd]
      rw [e, List.pairwise_cons, List.pairwise_cons]
      refine ⟨fun b hb => ?_, h.1, h.2⟩
      simp at hb
      rcases hb with rfl | hb'
      · omega
      · have := h.1 b hb'
        omega
theorem sortR_snoc (l : List Sp) (s : Sp) : sortR (l ++ [s]) = insLo (sortR l) s := by simp [sortR]
theorem sortR_len (l : List Sp) : (sortR l).length = l.length := by
  rw [← List.reverse_reverse l]
  induction l.reverse with
  | nil => rfl
  | cons a t ih => rw [List.reverse_cons, sortR_snoc, insLo_len, ih]; simp
theorem foldIns_perm (l : List Sp) : ∀ acc, (l.foldl insLo acc).Perm (l ++ acc) := by
  induction l with
  | nil => intro acc; exact List.Perm.refl _
  | cons s l ih =>
    intro acc
    refine (ih (insLo acc s)).trans ?_
    refine (List.Perm.append_left l (insLo_perm acc s)).trans ?_
    exact List.perm_middle
theorem sortR_perm (l : List Sp) : (sortR l).Perm l := by
  have := foldIns_perm l []
  rwa [List.append_nil] at this
theorem foldIns_sorted (l : List Sp) : ∀ acc, LoSorted acc → LoSorted (l.foldl insLo acc) := by
  induction l with
  | nil => intro acc h; exact h
  | cons s l ih => intro acc h; exact ih _ (insLo_sorted s h)
theorem sortR_sorted (l : List Sp) : LoSorted (sortR l) := foldIns_sorted l [] List.Pairwise.nil

theorem parts_rise {e n : Int} {l : List Sp} (h : partsFrom e l n = true) : (∀ s ∈ l, e ≤ s.1) ∧ l.Pairwise fun a b => a.1 < b.1 := by
  induction l generalizing e with
  | nil => simp
  | cons s l ih =>
    cases hr : rightB s with
    | false => rw [partsFrom_no (.inl hr)] at h; cases h
    | true =>
      cases he : (s.1 == e) with
      | false => rw [partsFrom_no (.inr he)] at h; cases h
      | true =>
        rw [partsFrom_yes hr he] at h
        have hs := of_decide_eq_true hr
        have he' : s.1 = e := by simpa using he
        obtain ⟨h1, h2⟩ := ih h
        refine ⟨fun t ht => ?_, List.pairwise_cons.2 ⟨fun t ht => ?_, h2⟩⟩
        · simp at ht
          rcases ht with rfl | ht
          · omega
          · have := h1 t ht
            omega
        · have := h1 t ht
          omega
theorem perm_sorted_eq {l l' : List Sp} (hp : l'.Perm l) (h : l.Pairwise fun a b => a.1 < b.1) (h' : LoSorted l') : l' = l := by
  induction l generalizing l' with
  | nil => exact List.Perm.eq_nil hp
  | cons a l ih =>
    cases l' with
    | nil => exact absurd hp.length_eq (by simp)
    | cons b l' =>
      rw [List.pairwise_cons] at h
      unfold LoSorted at h'
      rw [List.pairwise_cons] at h'
      have hb : b ∈ a :: l := hp.mem_iff.1 (by simp)
      have ha : a ∈ b :: l' := hp.mem_iff.2 (by simp)
      have hab : b = a := by
        simp at hb ha
        rcases hb with rfl | hb
        · rfl
        · rcases ha with rfl | ha
          · rfl
          · have := h.1 b hb
            have := h'.1 a ha
            omega
      subst hab
      rw [ih (List.Perm.cons_inv hp) h.2 h'.2]
theorem parts_perm {l l' : List Sp} (hp : l'.Perm l) (h : LoSorted l) (h' : LoSorted l') (m : Int) : partsS l' m = partsS l m := by
  cases h1 : partsS l m with
  | true => rw [perm_sorted_eq hp (parts_rise h1).2 h', h1]
  | false =>
    cases h2 : partsS l' m with
    | false => rfl
    | true =>
      rw [perm_sorted_eq hp.symm (parts_rise h2).2 h, h2] at h1
      cases h1
/-- Whether clusters are a map. -/
def checkC (l : List (Sp × Sp)) (n m : Int) : Bool := partsS (l.map Prod.fst) n && partsS (sortR (l.map Prod.snd)) m
end Go.Proofs.Ytcbiaeeifclieaa
/- Spans in memory: the first ones, the last ones. -/
namespace Go.Proofs.Ytcbiaeeifclieaa
open Go.RowKit
theorem cellsS_one (l : List Sp) : ∀ u ∈ cellsS l, u.oneCell' = true := by
  intro u hu
  obtain ⟨s, _, hs⟩ := List.mem_flatMap.1 hu
  simp [encS] at hs
  rcases hs with rfl | rfl <;> rfl
theorem cellsS_take (l : List Sp) (k : Nat) : (cellsS l).take (k * 2) = cellsS (l.take k) := by
  induction l generalizing k with
  | nil => simp [cellsS]
  | cons s l ih =>
    cases k with
    | zero => simp [cellsS]
    | succ k =>
      have : cellsS (s :: l) = .int .i64 s.1 :: .int .i64 s.2 :: cellsS l := rfl
      rw [this, show (k + 1) * 2 = k * 2 + 1 + 1 by omega, List.take_succ_cons, List.take_succ_cons, ih]
      rfl
theorem cellsS_drop (l : List Sp) (k : Nat) : (cellsS l).drop (k * 2) = cellsS (l.drop k) := by
  induction l generalizing k with
  | nil => simp [cellsS]
  | cons s l ih =>
    cases k with
    | zero => simp
    | succ k =>
      have : cellsS (s :: l) = .int .i64 s.1 :: .int .i64 s.2 :: cellsS l := rfl
      rw [this, show (k + 1) * 2 = k * 2 + 1 + 1 by omega, List.drop_succ_cons, List.drop_succ_cons, ih]
      rfl
/-- The first elements of a slice that reads as spans; and the rest. -/
theorem Rd.takeS {w : World} {A : Option Addr} {n k : Nat} {l : List Sp} (hr : Rd w 2 A n (cellsS l)) (hk : k ≤ n) : Rd w 2 A k (cellsS (l.take k)) := by
  have hl : l.length = n := by have := hr.1; rw [cellsS_len] at this; omega
  refine ⟨by rw [cellsS_len, List.length_take]; omega, fun h0 => ?_⟩
  obtain ⟨ad, e, hb, hc⟩ := hr.2 (by omega)
  refine ⟨ad, e, hb, fun j u hj => hc j u ?_⟩
  rw [← cellsS_take, List.getElem?_take] at hj
  split at hj
  · exact hj
  · cases hj
theorem Rd.dropS {w : World} {A : Option Addr} {n k cap : Nat} {l : List Sp} (hr : Rd w 2 A n (cellsS l)) (hk : k ≤ n) (hc : n ≤ cap) : Rd w 2 (if cap = k then A else A.map (·.add (k * 2))) (n - k) (cellsS (l.drop k)) := by
  have := hr.cut hk hc
  rwa [cellsS_drop] at this
end Go.Proofs.Ytcbiaeeifclieaa
/- Cut of a span, as plain mathematics; small words. -/
namespace Go.Proofs.Ytcbiaeeifclieaa
open Go.RowKit
theorem own_weak {w : World} {base base' : Nat} {e : TypeId} {size n : Nat} {v : Value} {xs : List Value} (h : w.ownsRow base e size v n xs) (hb : base' ≤ base) : w.ownsRow base' e size v n xs := by
  obtain ⟨h1, h2⟩ := h
  refine ⟨h1, ?_⟩
  rcases h2 with h2 | ⟨g, cap, cur, a, b, c⟩
  · exact .inl h2
  · exact .inr ⟨g, cap, cur, a, by omega, c⟩
theorem cellsS_snoc (l : List Sp) (s : Sp) : cellsS (l ++ [s]) = cellsS l ++ [.int .i64 s.1, .int .i64 s.2] := by simp [cellsS, encS]

/-- A span from lo to hi in parts, cut at what 'at' says; none where that does not rise within. -/
def cutFrom (lo hi : Int) : List Int → Option (List Sp)
  | [] => some [(lo, hi)]
  | a :: r => if a ≤ lo ∨ hi ≤ a then none else (cutFrom a hi r).map ((lo, a) :: ·)
/-- What Cut hands back. -/
def CutGives (w : World) (s : Sp) (at_ : List Int) (e : Ending) (w' : World) : Prop :=
  (rightB s = false ∧ e = .returned (.tuple #[.slice none 0 0, .int .i64 1]) ∧ Below w.heap.size w w') ∨
  (rightB s = true ∧ cutFrom s.1 s.2 at_ = none ∧ e = .returned (.tuple #[.slice none 0 0, .int .i64 10]) ∧ Below w.heap.size w w') ∨
  (rightB s = true ∧ ∃ l v, cutFrom s.1 s.2 at_ = some l ∧ e = .returned (.tuple #[v, .int .i64 0]) ∧ w'.ownsRow w.heap.size 33 2 v l.length (cellsS l) ∧ Below w.heap.size w w')
theorem cutFrom_len {lo hi : Int} {r : List Int} {l : List Sp} (h : cutFrom lo hi r = some l) : l.length = r.length + 1 := by
  induction r generalizing lo l with
  | nil => simp [cutFrom] at h; subst h; rfl
  | cons a r ih =>
    unfold cutFrom at h
    split at h
    · cases h
    · obtain ⟨l', h', rfl⟩ := Option.map_eq_some_iff.1 h
      simp [ih h']
end Go.Proofs.Ytcbiaeeifclieaa
/- prRight_any. -/
namespace Go.Proofs.Ytcbiaeeifclieaa
open Go.RowKit

theorem prRight_any (lo hi : Int) (w : World) :
    Calls Try.prog 44 #[.agg #[.int .i64 lo, .int .i64 hi]] w fun e w' => e = .returned (.bool (rightB (lo, hi))) ∧ Below w.heap.size w w' := by
  have hc : lo < 0 ∨ (0 ≤ lo ∧ lo < hi) ∨ (0 ≤ lo ∧ hi ≤ lo) := by omega
  rcases hc with h | ⟨h, h'⟩ | ⟨h, h'⟩ <;>
    (go_enter Try.func44, Try.ntmps44
     go_wp2
     go_ret
     refine ⟨retB ?_, below_new _ _⟩
     simp [rightB]
     try omega)

end Go.Proofs.Ytcbiaeeifclieaa
/- cells' joined, walked: the spans that were joined. -/
namespace Go.Proofs.Ytcbiaeeifclieaa
open Go.RowKit

def joinB (R : List RC) (i : Nat) : Option Sp := match R[i]? with
  | some r => if rightB ((i : Int), r.2.1) = true then some ((i : Int), r.2.1) else none
  | none => none
def joinedTo (R : List RC) (k : Nat) : List Sp := (List.range k).filterMap (joinB R)
theorem joinedTo_len (R : List RC) (k : Nat) : (joinedTo R k).length ≤ k := Nat.le_trans (List.length_filterMap_le _ _) (by simp)
theorem joinedTo_yes {R : List RC} {k : Nat} {r : RC} (h : R[k]? = some r) (hr : rightB ((k : Int), r.2.1) = true) : joinedTo R (k + 1) = joinedTo R k ++ [((k : Int), r.2.1)] := by
  unfold joinedTo
  rw [List.range_succ, List.filterMap_append]
  simp [joinB, h, hr]
theorem joinedTo_no {R : List RC} {k : Nat} {r : RC} (h : R[k]? = some r) (hr : rightB ((k : Int), r.2.1) = false) : joinedTo R (k + 1) = joinedTo R k := by
  unfold joinedTo
  rw [List.range_succ, List.filterMap_append]
  simp [joinB, h, hr]
set_option maxRecDepth 100000 in
set_option maxHeartbeats 2000000 in
theorem joined_any (base b gc n : Nat) (R : List RC) (va : Value) (ah : List Int) (w : World) (hC : CellsAt w base b gc n R va ah) (hn : n ≤ 100000000) :
    Calls Try.prog 69 #[.pointer (some ⟨b, 0, none⟩)] w fun e w' => ∃ v, e = .returned v ∧ w'.ownsRow w.heap.size 33 2 v (joinedTo R n).length (cellsS (joinedTo R n)) ∧ Below w.heap.size w w' := by
  obtain ⟨Aa, ca, rfl, _⟩ := own_form hC.arow
  have c0 := hp_cell (j := 0) hC.hb rfl
  have HC := Lib.hid hC
  clear hC
  go_enter Try.func69, Try.ntmps69
  go_wp2_with fail
  go_loopw [3, 12] (fun v i ws => ∃ k : Nat, k ≤ n ∧ i = .int .i64 (k : Int) ∧ ws.ownsRow w.heap.size 33 2 v (joinedTo R k).length (cellsS (joinedTo R k)) ∧ Below w.heap.size w ws) (fun _ i _ => n - (intOf i).toNat)
  case atStart => exact ⟨0, Nat.zero_le _, rfl, ⟨rfl, .inl ⟨rfl, rfl⟩⟩, Below.refl _ _⟩
  case round =>
    clear c0
    obtain ⟨k, hk, rfl, hown, hb⟩ := hrel
    have hjl := joinedTo_len R k
    by_cases hlt : k < n
    · obtain ⟨r, hr⟩ : ∃ r, R[k]? = some r := ⟨_, List.getElem?_eq_getElem (by rw [HC.out.len]; omega)⟩
      have HCW := HC.out.low hb
      obtain ⟨c0, c1⟩ := HCW.cell hr
      have hrow := HCW.rows _ _ hr
      have HY := Lib.hid (fun h => joinedTo_yes hr h)
      have HN := Lib.hid (fun h => joinedTo_no hr h)
      obtain ⟨v, e, l⟩ := r
      obtain ⟨Ai, ci, hv, _⟩ := own_form hrow
      simp only at hv
      subst hv
      simp only at c0 c1 HY HN
      have hb1 := below_new wr (.cells #[.slice Ai l.length ci, .int .i64 e] 97)
      have hnw := cells_new wr [.slice Ai l.length ci, .int .i64 e] 97
      have d1 := hnw 1 _ rfl
      rw [addNew] at d1
      obtain ⟨W1, hW1⟩ : ∃ W1, wr.alloc (.cells #[.slice Ai l.length ci, .int .i64 e] 97) = W1 := ⟨_, rfl⟩
      rw [hW1] at d1 hb1
      have hb2 := below_new W1 (.cells #[.int .i64 (k : Int), .int .i64 e] 33)
      have s2 := SpanBlk.new_ W1 (k : Int) e 33
      have HO2 := Lib.hid (own_below (own_below hown hb1) hb2)
      have HB2 := Lib.hid (below_self (below_self hb hb1) hb2)
      obtain ⟨x0, x1, f0, f1⟩ := s2
      obtain ⟨W2, hW2⟩ : ∃ W2, W1.alloc (.cells #[.int .i64 (k : Int), .int .i64 e] 33) = W2 := ⟨_, rfl⟩
      rw [hW2] at HO2 HB2 x0 x1
      obtain ⟨bk, hbk⟩ : ∃ bk, W1.heap.size = bk := ⟨_, rfl⟩
      rw [hbk] at x0 x1
      clear hnw HCW hrow hr hown hb hb1 hb2 f0 f1
      go_wp2_with fail
      refine (prRight_any (k : Int) e W2).mono ?_
      rintro e' w3 ⟨rfl, hb3⟩
      have y0 := cell_below hb3 x0
      have y1 := cell_below hb3 x1
      have HO3 := Lib.hid (own_below HO2.out hb3)
      have HB3 := Lib.hid (below_self HB2.out hb3)
      clear x0 x1 c0 c1 d1 hW1 hW2 hbk
      cases hrb : rightB ((k : Int), e) with
      | false =>
        have HE := Lib.hid (HN.out hrb)
        clear hrb
        go_wp2_with fail
        go_roundw
        case rel => exact ⟨k + 1, by omega, by go_num, by rw [HE.out]; exact HO3.out, HB3.out⟩
        case measure => simp [intOf]; omega
      | true =>
        have HE := Lib.hid (HY.out hrb)
        clear hrb
        go_wp2_with (at_builtin; refine wpList_app rfl _ _ _ rfl spanSlice (by decide) u3 (joinedTo R k).length _ rfl (HO3.out.alloc _) ⟨w3.heap.size, 0, none⟩ 1 1 [.int .i64 (k : Int), .int .i64 e] rfl rfl (cells_new w3 [_, _] _) (oneInt2 _ _ _) (by omega) (by unfold maxLen; omega) (Nat.le_trans HB3.out.size (by simp)) ?_; intro v5 w5 hown5 hg5 hat5)
        have HB5 := Lib.hid ((HB3.out.alloc HB3.out.size (.cells #[.int .i64 (k : Int), .int .i64 e] 33)).grown hg5 (Nat.le_trans HB3.out.size (by simp)) (fun b hb => (HO3.out.lt b hb).1))
        have HO5 := Lib.hid (show w5.ownsRow w.heap.size 33 2 v5 (joinedTo R (k + 1)).length (cellsS (joinedTo R (k + 1))) by rw [HE.out, List.length_append, cellsS_snoc]; exact hown5)
        clear hown5 hg5 hat5 y0 y1
        go_roundw
        case rel => exact ⟨k + 1, by omega, by go_num, HO5.out, HB5.out⟩
        case measure => simp [intOf]; omega
    · have hkn : k = n := by omega
      have HO := Lib.hid hown
      have HB := Lib.hid hb
      rw [hkn] at HO
      clear hown hb hkn hjl
      go_wp2_with fail
      go_ret
      exact ⟨u3, rfl, HO.out, HB.out⟩
end Go.Proofs.Ytcbiaeeifclieaa
/- Groups of spans as plain mathematics: the reference. -/
namespace Go.Proofs.Ytcbiaeeifclieaa
open Go.RowKit
/-- Whether a span lies across a place. -/
def acrossB (p n : Int) (s : Sp) : Bool := rightB s && decide (s.2 ≤ n ∧ s.1 < p ∧ p < s.2)
def partedS (p n : Int) (l : List Sp) : Bool := !(l.any (acrossB p n))

/-- The parts from place 'lo' on, the next place to ask being 'p', with so many places to ask. -/
def groupsGo (n : Int) (l : List Sp) : Nat → Int → Int → List Sp
  | 0, _, _ => []
  | f + 1, lo, p => if p = n ∨ partedS p n l = true then (lo, p) :: groupsGo n l f p (p + 1) else groupsGo n l f lo (p + 1)
def groupsS (n : Int) (l : List Sp) : List Sp := groupsGo n l n.toNat 0 1
theorem groupsGo_yes {n : Int} {l : List Sp} {f : Nat} {lo p : Int} (h : p = n ∨ partedS p n l = true) : groupsGo n l (f + 1) lo p = (lo, p) :: groupsGo n l f p (p + 1) := if_pos h
theorem groupsGo_no {n : Int} {l : List Sp} {f : Nat} {lo p : Int} (h : ¬ (p = n ∨ partedS p n l = true)) : groupsGo n l (f + 1) lo p = groupsGo n l f lo (p + 1) := if_neg h
end Go.Proofs.Ytcbiaeeifclieaa
/- Groups of spans, as plain mathematics: spans that share places put together, singles between them; the same as the reference's. -/
namespace Go.Proofs.Ytcbiaeeifclieaa

def validB (n : Int) (s : Sp) : Bool := rightB s && decide (s.2 ≤ n)
/-- Spans by their Lo, those that share places put together; 'a' is the last one so far. -/
def mergeGo (a : Sp) : List Sp → List Sp
  | [] => [a]
  | s :: l => if s.1 < a.2 then mergeGo (a.1, if a.2 < s.2 then s.2 else a.2) l else a :: mergeGo s l
def mergeS : List Sp → List Sp
  | [] => []
  | s :: l => mergeGo s l
/-- Spans that rise and share no place, within e and n. -/
def RiseIn (e n : Int) : List Sp → Prop
  | [] => e ≤ n
  | s :: l => e ≤ s.1 ∧ s.1 < s.2 ∧ RiseIn s.2 n l
theorem RiseIn.le {e n : Int} {l : List Sp} (h : RiseIn e n l) : e ≤ n := by
  induction l generalizing e with
  | nil => exact h
  | cons s l ih =>
    have := ih h.2.2
    have := h.1
    have := h.2.1
    omega
theorem RiseIn.low {e e' n : Int} {l : List Sp} (h : RiseIn e n l) (he : e' ≤ e) : RiseIn e' n l := by
  cases l with
  | nil => exact Int.le_trans he h
  | cons s l => exact ⟨Int.le_trans he h.1, h.2⟩
theorem RiseIn.mem {e n : Int} {l : List Sp} (h : RiseIn e n l) : ∀ s ∈ l, e ≤ s.1 ∧ s.1 < s.2 ∧ s.2 ≤ n := by
  induction l generalizing e with
  | nil => simp
  | cons s l ih =>
    intro t ht
    simp at ht
    have h1 := h.1
    have h2 := h.2.1
    have h3 := h.2.2.le
    rcases ht with rfl | ht
    · omega
    · have := ih h.2.2 t ht
      omega
theorem merge_rise {n : Int} {l : List Sp} {a : Sp} (ha : a.1 < a.2 ∧ a.2 ≤ n) (hv : ∀ s ∈ l, s.1 < s.2 ∧ s.2 ≤ n) : RiseIn a.1 n (mergeGo a l) := by
  induction l generalizing a with
  | nil => exact ⟨Int.le_refl _, ha.1, ha.2⟩
  | cons s l ih =>
    have hs := hv s (by simp)
    have hl := fun t ht => hv t (List.mem_cons_of_mem s ht)
    unfold mergeGo
    by_cases hlt : s.1 < a.2
    · rw [if_pos hlt]
      exact ih (a := (a.1, if a.2 < s.2 then s.2 else a.2)) (by simp only; split <;> omega) hl
    · rw [if_neg hlt]
      exact ⟨Int.le_refl _, ha.1, (ih hs hl).low (by omega)⟩
theorem merge_across {l : List Sp} {a : Sp} (hs : ∀ s ∈ l, a.1 ≤ s.1) (hl : LoSorted l) (p : Int) : (∃ h ∈ mergeGo a l, h.1 < p ∧ p < h.2) ↔ ((a.1 < p ∧ p < a.2) ∨ ∃ s ∈ l, s.1 < p ∧ p < s.2) := by
  induction l generalizing a with
  | nil => simp [mergeGo]
  | cons s l ih =>
    unfold LoSorted at hl
    rw [List.pairwise_cons] at hl
    have has := hs s (by simp)
    unfold mergeGo
    by_cases hlt : s.1 < a.2
    · rw [if_pos hlt, ih (a := (a.1, if a.2 < s.2 then s.2 else a.2)) (fun t ht => hs t (by simp [ht])) hl.2]
      simp only
      simp only [List.mem_cons, exists_eq_or_imp]
      constructor
      · rintro (h | h)
        · by_cases hp : p < a.2
          · exact .inl ⟨h.1, hp⟩
          · refine .inr (.inl ?_)
            have := h.2
            split at this <;> omega
        · exact .inr (.inr h)
      · rintro (h | h | h)
        · refine .inl ⟨h.1, ?_⟩
          split <;> omega
        · refine .inl ⟨by omega, ?_⟩
          split <;> omega
        · exact .inr h
    · rw [if_neg hlt]
      simp only [List.mem_cons, exists_eq_or_imp]
      rw [ih hl.1 hl.2]

/-- Each place from e on, t of them, by itself. -/
def singles : Nat → Int → List Sp
  | 0, _ => []
  | t + 1, e => (e, e + 1) :: singles t (e + 1)
/-- The spans, and singles between them, from e to n. -/
def fillG (n : Int) : Int → List Sp → List Sp
  | e, [] => singles (n - e).toNat e
  | e, s :: l => singles (s.1 - e).toNat e ++ s :: fillG n s.2 l

theorem go_singles {n : Int} {l : List Sp} {t f : Nat} {e : Int} (h : ∀ p, e < p → p ≤ e + t → p = n ∨ partedS p n l = true) : groupsGo n l (t + f) e (e + 1) = singles t e ++ groupsGo n l f (e + t) (e + t + 1) := by
  induction t generalizing e with
  | zero => simp [singles]
  | succ t ih =>
    rw [show t + 1 + f = (t + f) + 1 by omega, groupsGo_yes (h (e + 1) (by omega) (by omega)), ih (fun p h1 h2 => h p (by omega) (by omega))]
    simp only [singles, List.cons_append]
    rw [show e + 1 + (t : Int) = e + ((t + 1 : Nat) : Int) by omega]
theorem go_span {n : Int} {l : List Sp} {t f : Nat} {lo p : Int} (h : ∀ q, p ≤ q → q < p + t → ¬ (q = n ∨ partedS q n l = true)) (he : p + t = n ∨ partedS (p + t) n l = true) : groupsGo n l (t + 1 + f) lo p = (lo, p + t) :: groupsGo n l f (p + t) (p + t + 1) := by
  induction t generalizing p with
  | zero =>
    rw [show 0 + 1 + f = f + 1 by omega, groupsGo_yes (by simpa using he)]
    simp
  | succ t ih =>
    rw [show t + 1 + 1 + f = (t + 1 + f) + 1 by omega, groupsGo_no (h p (by omega) (by omega)), ih (fun q h1 h2 => h q (by omega) (by omega)) (by rw [show p + 1 + (t : Int) = p + ((t + 1 : Nat) : Int) by omega]; exact he)]
    rw [show p + 1 + (t : Int) = p + ((t + 1 : Nat) : Int) by omega]
theorem go_fill {n : Int} {l H : List Sp} {e : Int} (he : 0 ≤ e) (hr : RiseIn e n H) (hp : ∀ p, e < p → (partedS p n l = false ↔ ∃ h ∈ H, h.1 < p ∧ p < h.2)) : groupsGo n l (n - e).toNat e (e + 1) = fillG n e H := by
  induction H generalizing e with
  | nil =>
    have hen : e ≤ n := hr
    have := go_singles (n := n) (l := l) (t := (n - e).toNat) (f := 0) (e := e) (fun p h1 h2 => .inr (by
      cases hq : partedS p n l with
      | true => rfl
      | false => obtain ⟨h, hh, _⟩ := (hp p h1).1 hq; cases hh))
    rw [Nat.add_zero] at this
    rw [this]
    simp [fillG, groupsGo]
  | cons s H ih =>
    obtain ⟨h1, h2, h3⟩ := hr
    have h4 := h3.le
    have hmem := h3.mem
    have hout : ∀ p, e < p → p ≤ s.1 → partedS p n l = true := fun p hp1 hp2 => by
      cases hq : partedS p n l with
      | true => rfl
      | false =>
        obtain ⟨h, hh, ha, hb⟩ := (hp p hp1).1 hq
        simp at hh
        rcases hh with rfl | hh
        · omega
        · have := hmem h hh
          omega
    have a1 := go_singles (n := n) (l := l) (t := (s.1 - e).toNat) (f := (s.2 - s.1 - 1).toNat + 1 + (n - s.2).toNat) (e := e) (fun p hp1 hp2 => .inr (hout p hp1 (by omega)))
    rw [show (s.1 - e).toNat + ((s.2 - s.1 - 1).toNat + 1 + (n - s.2).toNat) = (n - e).toNat by omega, show e + ((s.1 - e).toNat : Int) = s.1 by omega] at a1
    have hin : ∀ q, s.1 + 1 ≤ q → q < s.1 + 1 + ((s.2 - s.1 - 1).toNat : Int) → ¬ (q = n ∨ partedS q n l = true) := fun q hq1 hq2 h => by
      rcases h with h | h
      · omega
      · have := (hp q (by omega)).2 ⟨s, by simp, by omega, by omega⟩
        rw [h] at this
        cases this
    have hend : s.1 + 1 + ((s.2 - s.1 - 1).toNat : Int) = n ∨ partedS (s.1 + 1 + ((s.2 - s.1 - 1).toNat : Int)) n l = true := by
      rw [show s.1 + 1 + ((s.2 - s.1 - 1).toNat : Int) = s.2 by omega]
      right
      cases hq : partedS s.2 n l with
      | true => rfl
      | false =>
        obtain ⟨h, hh, ha, hb⟩ := (hp s.2 (by omega)).1 hq
        simp at hh
        rcases hh with rfl | hh
        · omega
        · have := hmem h hh
          omega
    have a2 := go_span (n := n) (l := l) (t := (s.2 - s.1 - 1).toNat) (f := (n - s.2).toNat) (lo := s.1) (p := s.1 + 1) hin hend
    rw [show s.1 + 1 + ((s.2 - s.1 - 1).toNat : Int) = s.2 by omega] at a2
    have a3 := ih (e := s.2) (by omega) h3 (fun p hp1 => by
      rw [hp p (by omega)]
      simp only [List.mem_cons, exists_eq_or_imp]
      constructor
      · rintro (h | h)
        · omega
        · exact h
      · exact .inr)
    rw [a1, a2, a3]
    rfl
theorem singles_parts {t : Nat} {e n : Int} {l : List Sp} (he : 0 ≤ e) : partsFrom e (singles t e ++ l) n = partsFrom (e + t) l n := by
  induction t generalizing e with
  | zero => simp [singles]
  | succ t ih =>
    simp only [singles, List.cons_append]
    rw [partsFrom_yes (by simp [rightB]; omega) (by simp), ih (by omega), show e + 1 + (t : Int) = e + ((t + 1 : Nat) : Int) by omega]
theorem fill_parts {n : Int} {H : List Sp} {e : Int} (he : 0 ≤ e) (hr : RiseIn e n H) : partsFrom e (fillG n e H) n = true := by
  induction H generalizing e with
  | nil =>
    have hen : e ≤ n := hr
    have := singles_parts (t := (n - e).toNat) (e := e) (n := n) (l := []) he
    rw [List.append_nil] at this
    simp only [fillG, this, partsFrom]
    simp
    omega
  | cons s H ih =>
    obtain ⟨h1, h2, h3⟩ := hr
    simp only [fillG]
    rw [singles_parts he, show e + ((s.1 - e).toNat : Int) = s.1 by omega, partsFrom_yes (by simp [rightB]; omega) (by simp)]
    exact ih (by omega) h3
theorem parted_iff {p n : Int} {l : List Sp} : partedS p n l = false ↔ ∃ s ∈ l, validB n s = true ∧ s.1 < p ∧ p < s.2 := by
  unfold partedS
  rw [Bool.not_eq_false', List.any_eq_true]
  constructor
  · rintro ⟨s, hs, h⟩
    unfold acrossB at h
    simp at h
    exact ⟨s, hs, by simp [validB, h.1, h.2.1], h.2.2⟩
  · rintro ⟨s, hs, h1, h2⟩
    unfold validB at h1
    simp at h1
    exact ⟨s, hs, by simp [acrossB, h1, h2]⟩
theorem valid_iff {n : Int} {s : Sp} : validB n s = true ↔ 0 ≤ s.1 ∧ s.1 < s.2 ∧ s.2 ≤ n := by
  simp [validB, rightB]
  omega
theorem groups_eq {n : Int} {l l' : List Sp} (hn : 0 ≤ n) (hp : l'.Perm (l.filter (validB n))) (hs : LoSorted l') : RiseIn 0 n (mergeS l') ∧ groupsS n l = fillG n 0 (mergeS l') := by
  have hv : ∀ s ∈ l', 0 ≤ s.1 ∧ s.1 < s.2 ∧ s.2 ≤ n := fun s h => valid_iff.1 (List.mem_filter.1 (hp.mem_iff.1 h)).2
  have hiff : ∀ p, partedS p n l = false ↔ ∃ s ∈ l', s.1 < p ∧ p < s.2 := fun p => by
    rw [parted_iff]
    constructor
    · rintro ⟨s, h, h1, h2⟩
      exact ⟨s, hp.mem_iff.2 (List.mem_filter.2 ⟨h, h1⟩), h2⟩
    · rintro ⟨s, h, h2⟩
      have := List.mem_filter.1 (hp.mem_iff.1 h)
      exact ⟨s, this.1, this.2, h2⟩
  have key : RiseIn 0 n (mergeS l') ∧ ∀ p, (∃ h ∈ mergeS l', h.1 < p ∧ p < h.2) ↔ ∃ s ∈ l', s.1 < p ∧ p < s.2 := by
    cases l' with
    | nil => exact ⟨hn, fun p => by simp [mergeS]⟩
    | cons a t =>
      have ha := hv a (by simp)
      unfold LoSorted at hs
      rw [List.pairwise_cons] at hs
      refine ⟨(merge_rise ⟨ha.2.1, ha.2.2⟩ (fun s h => (hv s (by simp [h])).2)).low ha.1, fun p => ?_⟩
      unfold mergeS
      rw [merge_across hs.1 hs.2]
      simp only [List.mem_cons, exists_eq_or_imp]
  refine ⟨key.1, ?_⟩
  have := go_fill (n := n) (l := l) (e := 0) (Int.le_refl _) key.1 (fun p _ => by rw [hiff, key.2])
  rw [Int.sub_zero] at this
  exact this
theorem groups_neg {n : Int} {l : List Sp} (hn : n ≤ 0) : groupsS n l = [] := by
  have : n.toNat = 0 := by omega
  unfold groupsS
  rw [this]
  rfl
/-- How many places the spans have but one each. -/
def overS (l : List Sp) : Int := (l.map fun s => s.2 - s.1 - 1).sum
theorem over_le {e n : Int} {l : List Sp} (h : RiseIn e n l) (k : Nat) : 0 ≤ overS (l.take k) ∧ overS (l.take k) ≤ n - e := by
  induction l generalizing e k with
  | nil =>
    have : e ≤ n := h
    simp [overS]
    omega
  | cons s l ih =>
    cases k with
    | zero =>
      have := h.le
      simp [overS]
      omega
    | succ k =>
      have := ih h.2.2 k
      have h1 := h.1
      have h2 := h.2.1
      simp only [overS, List.take_succ_cons, List.map_cons, List.sum_cons] at this ⊢
      omega
theorem singles_len (t : Nat) (e : Int) : (singles t e).length = t := by
  induction t generalizing e with
  | zero => rfl
  | succ t ih => simp [singles, ih]
theorem fill_len {e n : Int} {l : List Sp} (h : RiseIn e n l) : ((fillG n e l).length : Int) = n - e - overS l := by
  induction l generalizing e with
  | nil =>
    have : e ≤ n := h
    simp [fillG, singles_len, overS]
    omega
  | cons s l ih =>
    have h3 := ih h.2.2
    have h1 := h.1
    have h2 := h.2.1
    simp only [fillG, List.length_append, List.length_cons, singles_len, overS, List.map_cons, List.sum_cons] at h3 ⊢
    omega
theorem groups_back (n : Int) (l : List Sp) : groupsS n l.reverse = groupsS n l := by
  have h : ∀ p, partedS p n l.reverse = partedS p n l := fun p => by unfold partedS; rw [List.any_reverse]
  have hg : ∀ f lo p, groupsGo n l.reverse f lo p = groupsGo n l f lo p := by
    intro f
    induction f with
    | zero => intro lo p; rfl
    | succ f ih => intro lo p; unfold groupsGo; rw [h, ih, ih]
  exact hg _ _ _
theorem groups_parts {n : Int} {l l' : List Sp} (hn : 0 ≤ n) (hp : l'.Perm (l.filter (validB n))) (hs : LoSorted l') : partsS (groupsS n l) n = true := by
  obtain ⟨h1, h2⟩ := groups_eq hn hp hs
  rw [h2]
  exact fill_parts (Int.le_refl _) h1
theorem singles_snoc (t : Nat) (e : Int) : singles (t + 1) e = singles t e ++ [(e + t, e + t + 1)] := by
  induction t generalizing e with
  | zero => simp [singles]
  | succ t ih =>
    rw [singles, ih, singles, List.cons_append]
    rw [show e + 1 + (t : Int) = e + ((t + 1 : Nat) : Int) by omega]
end Go.Proofs.Ytcbiaeeifclieaa
/- What the reference joined, and what the cells keep of it, make the same groups. -/
namespace Go.Proofs.Ytcbiaeeifclieaa
open Go.RowKit

theorem groupsGo_congr {n : Int} {l l' : List Sp} (h : ∀ p, partedS p n l = partedS p n l') : ∀ (f : Nat) (lo p : Int), groupsGo n l f lo p = groupsGo n l' f lo p
  | 0, _, _ => rfl
  | f + 1, lo, p => by
    unfold groupsGo
    rw [h p, groupsGo_congr h f p (p + 1), groupsGo_congr h f lo (p + 1)]
/-- Each joined span lies within its first cell's end; each end is a joined span's. -/
def TightJ (n : Nat) (R : List RC) (J : List Sp) : Prop := (∀ s ∈ J, 0 ≤ s.1 ∧ s.1 < s.2 ∧ s.2 ≤ (n : Int) ∧ ∃ r, R[s.1.toNat]? = some r ∧ s.2 ≤ r.2.1) ∧ ∀ (i : Nat) (r : RC), R[i]? = some r → (i : Int) < r.2.1 → ((i : Int), r.2.1) ∈ J
theorem TightJ.nil {n : Nat} {R : List RC} (h : ∀ (i : Nat) (r : RC), R[i]? = some r → r.2.1 ≤ (i : Int)) : TightJ n R [] :=
  ⟨fun s hs => by simp at hs, fun i r hi hlt => by have := h i r hi; omega⟩
theorem TightJ.set {n : Nat} {R : List RC} {J : List Sp} (h : TightJ n R J) {i : Nat} {r : RC} (hr : R[i]? = some r) (v : Value) (l : List Int) : TightJ n (R.set i (v, r.2.1, l)) J := by
  have hil := (List.getElem?_eq_some_iff.1 hr).1
  refine ⟨fun s hs => ?_, fun j s hs hlt => ?_⟩
  · obtain ⟨h1, h2, h3, q, h4, h5⟩ := h.1 s hs
    refine ⟨h1, h2, h3, ?_⟩
    by_cases hj : s.1.toNat = i
    · rw [hj] at h4 ⊢
      rw [hr] at h4
      obtain rfl := Option.some.inj h4
      exact ⟨_, List.getElem?_set_self hil, h5⟩
    · exact ⟨q, by rw [List.getElem?_set_ne (fun e9 => hj e9.symm)]; exact h4, h5⟩
  · by_cases hj : j = i
    · subst hj
      rw [List.getElem?_set_self hil] at hs
      obtain rfl := Option.some.inj hs
      exact h.2 j r hr hlt
    · rw [List.getElem?_set_ne (fun e9 => hj e9.symm)] at hs
      exact h.2 j s hs hlt
theorem TightJ.join {n : Nat} {R : List RC} {J : List Sp} (h : TightJ n R J) {i : Nat} {hi : Int} {r : RC} (hr : R[i]? = some r) (h1 : (i : Int) < hi) (h2 : hi ≤ n) : TightJ n (R.set i (r.1, max r.2.1 hi, r.2.2)) (J ++ [((i : Int), hi)]) := by
  have hil := (List.getElem?_eq_some_iff.1 hr).1
  refine ⟨fun s hs => ?_, fun j s hs hlt => ?_⟩
  · rcases List.mem_append.1 hs with hs | hs
    · obtain ⟨a1, a2, a3, q, a4, a5⟩ := h.1 s hs
      refine ⟨a1, a2, a3, ?_⟩
      by_cases hj : s.1.toNat = i
      · rw [hj] at a4 ⊢
        rw [hr] at a4
        obtain rfl := Option.some.inj a4
        exact ⟨_, List.getElem?_set_self hil, Int.le_trans a5 (Int.le_max_left _ _)⟩
      · exact ⟨q, by rw [List.getElem?_set_ne (fun e9 => hj e9.symm)]; exact a4, a5⟩
    · obtain rfl := List.mem_singleton.1 hs
      refine ⟨by simp, h1, h2, (r.1, max r.2.1 hi, r.2.2), ?_, Int.le_max_right _ _⟩
      simp only [Int.toNat_natCast]
      exact List.getElem?_set_self hil
  · by_cases hj : j = i
    · subst hj
      rw [List.getElem?_set_self hil] at hs
      obtain rfl := Option.some.inj hs
      simp only at hlt ⊢
      rcases Int.le_total r.2.1 hi with hm | hm
      · rw [Int.max_eq_right hm]
        exact List.mem_append_right _ (List.mem_singleton_self _)
      · rw [Int.max_eq_left hm] at hlt ⊢
        exact List.mem_append_left _ (h.2 j r hr hlt)
    · rw [List.getElem?_set_ne (fun e9 => hj e9.symm)] at hs
      exact List.mem_append_left _ (h.2 j s hs hlt)
theorem TightJ.groups {n : Nat} {R : List RC} {J : List Sp} (h : TightJ n R J) (hn : R.length = n) : groupsS (n : Int) J = groupsS (n : Int) (joinedTo R n) := by
  refine groupsGo_congr (fun p => ?_) _ _ _
  have key : partedS p n J = false ↔ partedS p n (joinedTo R n) = false := by
    rw [parted_iff, parted_iff]
    constructor
    · rintro ⟨s, hs, hv, h1, h2⟩
      obtain ⟨a1, a2, a3, r, a4, a5⟩ := h.1 s hs
      have hil := (List.getElem?_eq_some_iff.1 a4).1
      have e1 : ((s.1.toNat : Nat) : Int) = s.1 := Int.toNat_of_nonneg a1
      have hm := h.2 s.1.toNat r a4 (by omega)
      obtain ⟨_, b2, b3, _⟩ := h.1 _ hm
      simp only at b2 b3
      refine ⟨((s.1.toNat : Int), r.2.1), ?_, valid_iff.2 ⟨by simp only; omega, by simp only; omega, b3⟩, by simp only; omega, by simp only; omega⟩
      unfold joinedTo
      refine List.mem_filterMap.2 ⟨s.1.toNat, List.mem_range.2 (by omega), ?_⟩
      simp only [joinB, a4]
      rw [if_pos (by simp [rightB]; omega)]
    · rintro ⟨s, hs, hv, h1, h2⟩
      unfold joinedTo at hs
      obtain ⟨i, hi, hf⟩ := List.mem_filterMap.1 hs
      rcases hri : R[i]? with _ | r
      · rw [joinB, hri] at hf; cases hf
      · simp only [joinB, hri] at hf
        split at hf
        · rename_i hrb
          obtain rfl := Option.some.inj hf
          simp [rightB] at hrb
          exact ⟨_, h.2 i r hri hrb, hv, h1, h2⟩
        · cases hf
  rcases h1 : partedS p n J with _ | _ <;> rcases h2 : partedS p n (joinedTo R n) with _ | _ <;> simp_all
end Go.Proofs.Ytcbiaeeifclieaa
/- The project's appendSingles. -/
namespace Go.Proofs.Ytcbiaeeifclieaa
open Go.RowKit

theorem grown_step {a b c : World} {r r' : Option Nat} (h : a.grownBy b r) (h' : b.grownBy c r') (hr : r' = r ∨ ∀ k, r' = some k → a.heap.size ≤ k) : a.grownBy c r :=
  ⟨h'.os.trans h.os, h'.tape.trans h.tape, h'.output.trans h.output, Nat.le_trans h.size h'.size, fun i hi hne =>
    (h'.block i (Nat.lt_of_lt_of_le hi h.size) (fun e => by
      rcases hr with hr | hr
      · exact hne (by rw [e, hr])
      · have := hr i e.symm
        omega)).trans (h.block i hi hne)⟩

set_option maxRecDepth 100000 in
set_option maxHeartbeats 2000000 in
theorem prSingles_any (base k : Nat) (v : Value) (acc : List Sp) (lo hi : Int) (w : World) (hown : w.ownsRow base 33 2 v k (cellsS acc)) (h0 : 0 ≤ lo) (hh : hi ≤ 100000) (hk : k ≤ 100000) (hbase : base ≤ w.heap.size) :
    Calls Try.prog 87 #[v, .int .i64 lo, .int .i64 hi] w fun e w' => ∃ v', e = .returned v' ∧ w'.ownsRow base 33 2 v' (k + (hi - lo).toNat) (cellsS (acc ++ singles (hi - lo).toNat lo)) ∧ w.grownBy w' v.ownBlock ∧ (v'.ownBlock = v.ownBlock ∨ ∀ b, v'.ownBlock = some b → w.heap.size ≤ b) := by
  go_enter Try.func87, Try.ntmps87
  go_wp2
  go_loopw [0, 7] (fun v' i wr => ∃ t : Nat, t ≤ (hi - lo).toNat ∧ i = .int .i64 (lo + t) ∧ wr.ownsRow base 33 2 v' (k + t) (cellsS (acc ++ singles t lo)) ∧ w.grownBy wr v.ownBlock ∧ (v'.ownBlock = v.ownBlock ∨ ∀ b, v'.ownBlock = some b → w.heap.size ≤ b)) (fun _ i _ => (hi - intOf i).toNat)
  case atStart => exact ⟨0, Nat.zero_le _, by simp, by simpa [singles] using hown, World.grownBy.refl w _, .inl rfl⟩
  case round =>
    obtain ⟨t, ht, rfl, ho, hg, hb⟩ := hrel
    by_cases hlt : lo + (t : Int) < hi
    · have hsz := hg.size
      have HT := Lib.hid (show cellsS (acc ++ singles (t + 1) lo) = cellsS (acc ++ singles t lo) ++ [.int .i64 (lo + t), .int .i64 (lo + t + 1)] by rw [singles_snoc]; simp [cellsS, encS])
      have ha := ho.alloc (.cells #[.int .i64 (lo + t), .int .i64 (lo + t + 1)] 33)
      have HN := Lib.hid (rd_blk (m := 1) (cs := [.int .i64 (lo + t), .int .i64 (lo + t + 1)]) 2 (heap_alloc_new wr (.cells #[.int .i64 (lo + t), .int .i64 (lo + t + 1)] 33)) rfl)
      have HB := Lib.hid hb
      clear hb
      go_wp2_with (at_builtin; refine wpList_appR rfl _ _ _ rfl spanSlice (by decide) u0 (k + t) _ rfl ha _ 1 1 _ rfl HN.out (oneInt2 _ _ _) (by omega) (by unfold maxLen; omega) (by simp; omega) ?_; intro v1 w1 hown1 hg1 hat1)
      have hgr : w.grownBy w1 v.ownBlock := grown_step (grown_step hg (World.grownBy_alloc wr _ none) (.inr (fun k h => by cases h))) hg1 HB.out
      have HB1 := Lib.hid (show v1.ownBlock = v.ownBlock ∨ ∀ b, v1.ownBlock = some b → w.heap.size ≤ b by
        rcases hat1 with h | h
        · rw [h]; exact HB.out
        · right
          intro b hb
          rw [h] at hb
          injection hb with hb
          simp at hb
          omega)
      clear hat1
      go_roundw
      case rel => exact ⟨t + 1, by omega, by go_num, by rw [HT.out]; exact hown1, hgr, HB1.out⟩
      case measure => simp [intOf]; omega
    · have hte : t = (hi - lo).toNat := by omega
      subst hte
      have HO := Lib.hid ho
      have HB := Lib.hid hb
      clear ho hb
      go_wp2
      go_ret
      exact ⟨_, rfl, HO.out, hg, HB.out⟩
end Go.Proofs.Ytcbiaeeifclieaa
/- cmp.Compare at int. -/
namespace Go.Proofs.Ytcbiaeeifclieaa
open Go.RowKit

def cmpI (x y : Int) : Int := if x < y then -1 else if y < x then 1 else 0
set_option maxHeartbeats 1000000 in
theorem nanI_any (x : Int) (w : World) : Calls Try.prog 109 #[.int .i64 x] w fun e w' => e = .returned (.bool false) ∧ w = w' := by
  have h : (x != x) = false := by simp
  go_enter Try.func109, Try.ntmps109
  go_wp2
  go_ret
  exact ⟨by simp, rfl⟩
set_option maxHeartbeats 1000000 in
theorem cmpI_any (x y : Int) (w : World) : Calls Try.prog 97 #[.int .i64 x, .int .i64 y] w fun e w' => e = .returned (.int .i64 (cmpI x y)) ∧ w = w' := by
  have hc : x < y ∨ (¬ x < y ∧ y < x) ∨ (¬ x < y ∧ ¬ y < x) := by omega
  rcases hc with h | ⟨h, h'⟩ | ⟨h, h'⟩
  · have HE := Lib.hid (show cmpI x y = -1 from if_pos h)
    go_enter Try.func97, Try.ntmps97
    go_wp2_with (go_at_call 109; refine (nanI_any _ _).mono ?_; rintro e w' ⟨rfl, rfl⟩)
    go_ret
    exact ⟨retI HE.out.symm, rfl⟩
  · have HE := Lib.hid (show cmpI x y = 1 by unfold cmpI; rw [if_neg h, if_pos h'])
    go_enter Try.func97, Try.ntmps97
    go_wp2_with (go_at_call 109; refine (nanI_any _ _).mono ?_; rintro e w' ⟨rfl, rfl⟩)
    go_ret
    exact ⟨retI HE.out.symm, rfl⟩
  · have HE := Lib.hid (show cmpI x y = 0 by unfold cmpI; rw [if_neg h, if_neg h'])
    go_enter Try.func97, Try.ntmps97
    go_wp2_with (go_at_call 109; refine (nanI_any _ _).mono ?_; rintro e w' ⟨rfl, rfl⟩)
    go_ret
    exact ⟨retI HE.out.symm, rfl⟩
end Go.Proofs.Ytcbiaeeifclieaa
/- slices.Clone at []api.Span: a row of the call's own that reads as the argument does. -/
namespace Go.Proofs.Ytcbiaeeifclieaa
open Go.RowKit

theorem cloneS_any (A : Option Addr) (n c : Nat) (xs : List Value) (w : World) (hr : Rd w 2 A n xs) (h1 : ∀ u ∈ xs, u.oneCell' = true) (hm : n ≤ 16777216) :
    Calls Try.prog 102 #[.slice A n c] w fun e w' => ∃ v, e = .returned v ∧ w'.ownsRow w.heap.size 33 2 v n xs ∧ Below w.heap.size w w' := by
  rcases A with _ | ad
  · have h0 : n = 0 := by
      rcases Nat.eq_zero_or_pos n with h | h
      · exact h
      · obtain ⟨_, e, _⟩ := hr.2 h
        cases e
    subst h0
    have hx : xs = [] := List.eq_nil_of_length_eq_zero (by simpa using hr.1)
    subst hx
    have hq := fun w => Lib.run_eql_slice_nil (P := Try.prog) w 47 33 none 0 c 0 0 Try.underlying47
    go_enter Try.func102, Try.ntmps102
    go_wp2
    go_ret
    exact ⟨_, rfl, ⟨rfl, .inl ⟨rfl, rfl⟩⟩, Below.refl _ _⟩
  · have hq := fun w => Lib.run_eql_slice_nil (P := Try.prog) w 47 33 (some ad) n c 0 0 Try.underlying47
    have hown : (w.alloc (.cells #[] 33)).ownsRow w.heap.size 33 2 (.slice (some ⟨w.heap.size, 0, none⟩) 0 0) 0 [] := World.ownsRow_made w #[] 0 (Nat.le_refl _) (Nat.zero_le _) rfl
    go_enter Try.func102, Try.ntmps102
    go_wp2_with (at_builtin; refine wpList_app rfl _ _ _ rfl spanSlice (by decide) _ 0 [] rfl hown ad n c xs rfl hr.1 (hr.alloc _).news h1 (by omega) (by unfold maxLen; omega) (by simp) ?_; intro v1 w1 hown1 hg1 hat1)
    go_ret
    exact ⟨v1, rfl, by simpa using hown1, below_app ((Below.refl _ _).alloc (Nat.le_refl _) _) hg1 hown (by simp)⟩
end Go.Proofs.Ytcbiaeeifclieaa
/- The project's Size of a span. -/
namespace Go.Proofs.Ytcbiaeeifclieaa
open Go.RowKit
theorem prSizeS_any (lo hi : Int) (w : World) (hf : Fit hi) :
    Calls Try.prog 86 #[.agg #[.int .i64 lo, .int .i64 hi]] w fun e w' => e = .returned (.int .i64 (sizeS (lo, hi))) ∧ Below w.heap.size w w' := by
  obtain ⟨f0, f1⟩ := hf
  cases h : rightB (lo, hi) with
  | true =>
    have h' := of_decide_eq_true h
    obtain ⟨h1, h2⟩ := h'
    simp only at h1 h2
    have HS := Lib.hid (show sizeS (lo, hi) = hi - lo from if_pos h)
    go_enter Try.func86, Try.ntmps86
    go_wp2_with fail
    refine (prRight_any lo hi _).mono ?_
    rintro e w1 ⟨rfl, hb⟩
    have hb1 := below_self (below_new w _) hb
    have c0 : w1.cell? ⟨w.heap.size, 0, none⟩ = some (.int .i64 lo) := cell_below hb (by rw [World.cell?_alloc_at _ _ _ _ rfl]; rfl)
    have c1 : w1.cell? ⟨w.heap.size, 1, none⟩ = some (.int .i64 hi) := cell_below hb (by rw [World.cell?_alloc_at _ _ _ _ rfl]; rfl)
    go_wp2
    go_ret
    exact ⟨retI HS.out.symm, hb1⟩
  | false =>
    have HS := Lib.hid (show sizeS (lo, hi) = 0 from if_neg (by rw [h]; decide))
    go_enter Try.func86, Try.ntmps86
    go_wp2_with fail
    refine (prRight_any lo hi _).mono ?_
    rintro e w1 ⟨rfl, hb⟩
    have hb1 := below_self (below_new w _) hb
    go_wp2
    go_ret
    exact ⟨retI HS.out.symm, hb1⟩
end Go.Proofs.Ytcbiaeeifclieaa
/- Groups are parts, and no more than places. -/
namespace Go.Proofs.Ytcbiaeeifclieaa
open Go.RowKit

theorem groups_len {n : Int} {l : List Sp} (hn : n ≤ 1000) : (groupsS n l).length ≤ 1000 := by
  have h : ∀ f lo p, (groupsGo n l f lo p).length ≤ f := by
    intro f
    induction f with
    | zero => intro lo p; exact Nat.le_refl _
    | succ f ih =>
      intro lo p
      unfold groupsGo
      split
      · have := ih p (p + 1)
        simp only [List.length_cons]; omega
      · have := ih lo (p + 1)
        omega
  have := h n.toNat 0 1
  unfold groupsS
  omega
/-- A sorted list of the right spans within n is there. -/
theorem groups_whole {n : Int} (l : List Sp) (hn : 0 ≤ n) : partsS (groupsS n l) n = true :=
  groups_parts hn (sortR_perm _) (sortR_sorted _)
end Go.Proofs.Ytcbiaeeifclieaa
