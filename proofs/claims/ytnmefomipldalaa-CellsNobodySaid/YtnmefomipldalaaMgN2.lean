/- Texts of one claim, one behind the other. -/
import Derived.BigQuiet
import Derived.Maps.OwnSet
import Derived.Maps.Views
import Derived.Test.YtnmefomipldalaaMgN1
/- cells' all and count, walked. -/
namespace Go.Proofs.Ytnmefomipldalaa
open Go.RowKit

set_option maxRecDepth 100000 in
set_option maxHeartbeats 1000000 in
theorem all_any (b : Nat) (A : Option Addr) (n c : Nat) (w : World) (hc : w.cell? ⟨b, 0, none⟩ = some (.slice A n c)) :
    Calls Try.prog 68 #[.pointer (some ⟨b, 0, none⟩)] w fun e w' => e = .returned (.agg #[.int .i64 0, .int .i64 (n : Int)]) ∧ Below w.heap.size w w' := by
  have s1 := SpanBlk.new_ w 0 0 31
  have hc2 := cell_below (below_new w (.cells #[.int .i64 0, .int .i64 0] 31)) hc
  have hbn := below_new w (.cells #[.int .i64 0, .int .i64 0] 31)
  obtain ⟨c0, c1, f0, f1⟩ := s1
  go_enter Try.func68, Try.ntmps68
  go_wp2_with fail
  refine bodyPost_ret (v := .agg #[.int .i64 0, .int .i64 (n : Int)]) (results_cell_row rfl _ _ w.heap.size 31 #[.int .i64 0, .int .i64 (n : Int)] (0, 0) _ rfl (heap_alloc_new w _) Try.underlying31 rfl (by kernel_rfl)) rfl ?_
  exact ⟨rfl, below_new w _⟩
/-- What a cell's place is, as the walk spells it. -/
theorem CellsAt.cell {w : World} {base b gc n : Nat} {R : List RC} {va : Value} {ah : List Int} (h : CellsAt w base b gc n R va ah) {i : Nat} {r : RC} (hi : R[i]? = some r) : w.cell? ⟨gc, i * 2, none⟩ = some r.1 ∧ w.cell? ⟨gc, i * 2 + 1, none⟩ = some (.int .i64 r.2.1) := by
  obtain ⟨h1, h2⟩ := cellsRC_at hi
  exact ⟨hp_cell h.hc (by rw [List.getElem?_toArray]; exact h1), hp_cell h.hc (by rw [List.getElem?_toArray]; exact h2)⟩
theorem partR_at {R : List RC} {lo hi k : Nat} (h : k < hi - lo) : (partR R lo hi)[k]? = R[lo + k]? := by
  unfold partR; rw [List.getElem?_take, if_pos h, List.getElem?_drop]
set_option maxRecDepth 100000 in
set_option maxHeartbeats 1000000 in
theorem count_any (base b gc n lo hi : Nat) (R : List RC) (va : Value) (ah : List Int) (w : World) (hC : CellsAt w base b gc n R va ah) (h1 : lo < hi) (h2 : hi ≤ n) (hn : n ≤ 100000000) (ht : ah.length + lenR R ≤ 100000000) :
    Calls Try.prog 72 #[.pointer (some ⟨b, 0, none⟩), .agg #[.int .i64 (lo : Int), .int .i64 (hi : Int)]] w fun e w' => e = .returned (.int .i64 (cntR R ah lo hi : Nat)) ∧ Below w.heap.size w w' := by
  obtain ⟨Aa, ca, rfl, _⟩ := own_form hC.arow
  have hbn := below_new w (.cells #[.int .i64 (lo : Int), .int .i64 (hi : Int)] 31)
  have hC2 := hC.low hbn
  have s1 := SpanBlk.new_ w (lo : Int) (hi : Int) 31
  obtain ⟨W1, hW1⟩ : ∃ W1, w.alloc (.cells #[.int .i64 (lo : Int), .int .i64 (hi : Int)] 31) = W1 := ⟨_, rfl⟩
  rw [hW1] at hbn hC2 s1
  have c0 := hp_cell (j := 0) hC2.hb rfl
  have c1 := hp_cell (j := 1) hC2.hb rfl
  obtain ⟨d0, d1, f0, f1⟩ := s1
  obtain ⟨bs, hbs⟩ : ∃ bs, w.heap.size = bs := ⟨_, rfl⟩
  rw [hbs] at d0 d1
  have HC := Lib.hid hC2
  have HP := Lib.hid (hC2.part (lo := lo) (m := hi - lo) (by omega))
  have HB := Lib.hid hbn
  have hlo : (lo : Int) < (n : Int) := by omega
  have hhi : (hi : Int) ≤ (n : Int) := by omega
  have hlh : (lo : Int) ≤ (hi : Int) := by omega
  have hne : ¬ (n = lo) := by omega
  clear hC hC2 hbn f0 f1
  go_enter Try.func72, Try.ntmps72
  by_cases hz : lo = 0
  · have g0 : ((lo : Int) == 0) = true := by simp; omega
    have HLO := Lib.hid hz
    clear hz
    go_wp2_with fail
    go_quiet (fail)
    go_wp2_with fail
    obtain ⟨z, hz⟩ : ∃ z : Nat, z = ah.length := ⟨_, rfl⟩
    have HZ := Lib.hid (show cntR R ah lo hi = z + lenR (partR R lo hi) by unfold cntR; rw [hz]; simp [HLO.out])
    have hzb : z ≤ 100000000 := by rw [hz]; omega
    have hzt : z + lenR (partR R lo hi) ≤ 100000000 := by rw [← HZ.out]; exact Nat.le_trans (cntR_le R ah lo hi) ht
    rw [← hz]
    clear hz
    go_loopw [5, 26] (fun s i ws => ∃ k : Nat, k ≤ hi - lo ∧ i = .int .i64 (k : Int) ∧ s = .int .i64 ((z + lenR ((partR R lo hi).take k) : Nat) : Int) ∧ Below W1.heap.size W1 ws) (fun _ i _ => (hi - lo) - (intOf i).toNat)
    case atStart => exact ⟨0, Nat.zero_le _, rfl, by simp [lenR], below_drew (Below.refl _ _) _⟩
    case round =>
      obtain ⟨k, hk, rfl, rfl, hb⟩ := hrel
      have hlk := lenR_le (partR R lo hi) k
      by_cases hlt : k < hi - lo
      · obtain ⟨r, hr⟩ : ∃ r, R[lo + k]? = some r := ⟨_, List.getElem?_eq_getElem (by rw [HC.out.len]; omega)⟩
        have HCW := HC.out.low hb
        obtain ⟨c0, c1⟩ := HCW.cell hr
        have hrow := HCW.rows _ _ hr
        have hpr : (partR R lo hi)[k]? = some r := by rw [partR_at hlt]; exact hr
        have HT := Lib.hid (lenR_take hpr)
        have hlk1 := lenR_le (partR R lo hi) (k + 1)
        rw [HT.out] at hlk1
        obtain ⟨v, e, l⟩ := r
        obtain ⟨Ai, ci, hv, _⟩ := own_form hrow
        simp only at hv
        subst hv
        rw [show (lo + k) * 2 = lo * 2 + k * 2 by omega] at c0 c1
        simp only at c0 c1 hlk1 HT
        have hbn := below_self hb (below_new wr (.cells #[.slice Ai l.length ci, .int .i64 e] 108))
        have hnw := cells_new wr [.slice Ai l.length ci, .int .i64 e] 108
        have d0 := hnw 0 _ rfl
        rw [addNew] at d0
        clear hnw HCW hrow hpr hr hb
        obtain ⟨y, hy⟩ : ∃ y, lenR ((partR R lo hi).take k) = y := ⟨_, rfl⟩
        rw [hy] at HT hlk hlk1 ⊢
        clear hy
        go_wp2_with fail
        go_roundw
        case rel => exact ⟨k + 1, by omega, by go_num, by rw [HT.out]; go_num, hbn⟩
        case measure => simp [intOf]; omega
      · have hkm : k = hi - lo := by omega
        have HE := Lib.hid (show z + lenR ((partR R lo hi).take k) = cntR R ah lo hi by rw [HZ.out, hkm, List.take_of_length_le (Nat.le_of_eq (partR_len HC.out.len h2))])
        rw [HE.out]
        have HBB := Lib.hid (below_self HB.out hb)
        clear hlk hkm
        go_wp2_with fail
        go_ret
        exact ⟨rfl, HBB.out⟩
  · have g0 : ((lo : Int) == 0) = false := by simp; omega
    have HLO := Lib.hid hz
    clear hz
    go_wp2_with fail
    go_quiet (fail)
    go_wp2_with fail
    obtain ⟨z, hz⟩ : ∃ z : Nat, z = 0 := ⟨_, rfl⟩
    have HZ := Lib.hid (show cntR R ah lo hi = z + lenR (partR R lo hi) by unfold cntR; rw [hz]; simp [HLO.out])
    have hzb : z ≤ 100000000 := by rw [hz]; omega
    have hzt : z + lenR (partR R lo hi) ≤ 100000000 := by rw [← HZ.out]; exact Nat.le_trans (cntR_le R ah lo hi) ht
    have HZ0 := Lib.hid hz
    clear hz
    go_loopw [5, 26] (fun s i ws => ∃ k : Nat, k ≤ hi - lo ∧ i = .int .i64 (k : Int) ∧ s = .int .i64 ((z + lenR ((partR R lo hi).take k) : Nat) : Int) ∧ Below W1.heap.size W1 ws) (fun _ i _ => (hi - lo) - (intOf i).toNat)
    case atStart => exact ⟨0, Nat.zero_le _, rfl, by rw [HZ0.out]; simp [lenR], below_drew (Below.refl _ _) _⟩
    case round =>
      obtain ⟨k, hk, rfl, rfl, hb⟩ := hrel
      have hlk := lenR_le (partR R lo hi) k
      by_cases hlt : k < hi - lo
      · obtain ⟨r, hr⟩ : ∃ r, R[lo + k]? = some r := ⟨_, List.getElem?_eq_getElem (by rw [HC.out.len]; omega)⟩
        have HCW := HC.out.low hb
        obtain ⟨c0, c1⟩ := HCW.cell hr
        have hrow := HCW.rows _ _ hr
        have hpr : (partR R lo hi)[k]? = some r := by rw [partR_at hlt]; exact hr
        have HT := Lib.hid (lenR_take hpr)
        have hlk1 := lenR_le (partR R lo hi) (k + 1)
        rw [HT.out] at hlk1
        obtain ⟨v, e, l⟩ := r
        obtain ⟨Ai, ci, hv, _⟩ := own_form hrow
        simp only at hv
        subst hv
        rw [show (lo + k) * 2 = lo * 2 + k * 2 by omega] at c0 c1
        simp only at c0 c1 hlk1 HT
        have hbn := below_self hb (below_new wr (.cells #[.slice Ai l.length ci, .int .i64 e] 108))
        have hnw := cells_new wr [.slice Ai l.length ci, .int .i64 e] 108
        have d0 := hnw 0 _ rfl
        rw [addNew] at d0
        clear hnw HCW hrow hpr hr hb
        obtain ⟨y, hy⟩ : ∃ y, lenR ((partR R lo hi).take k) = y := ⟨_, rfl⟩
        rw [hy] at HT hlk hlk1 ⊢
        clear hy
        go_wp2_with fail
        go_roundw
        case rel => exact ⟨k + 1, by omega, by go_num, by rw [HT.out]; go_num, hbn⟩
        case measure => simp [intOf]; omega
      · have hkm : k = hi - lo := by omega
        have HE := Lib.hid (show z + lenR ((partR R lo hi).take k) = cntR R ah lo hi by rw [HZ.out, hkm, List.take_of_length_le (Nat.le_of_eq (partR_len HC.out.len h2))])
        rw [HE.out]
        have HBB := Lib.hid (below_self HB.out hb)
        clear hlk hkm
        go_wp2_with fail
        go_ret
        exact ⟨rfl, HBB.out⟩
end Go.Proofs.Ytnmefomipldalaa
/- prHas_any. -/
namespace Go.Proofs.Ytnmefomipldalaa
open Go.RowKit

theorem prHas_any (lo hi p : Int) (w : World) :
    Calls Try.prog 71 #[.agg #[.int .i64 lo, .int .i64 hi], .int .i64 p] w fun e w' => e = .returned (.bool (hasB (lo, hi) p)) ∧ Below w.heap.size w w' := by
  have hc : p < lo ∨ (lo ≤ p ∧ p < hi) ∨ (lo ≤ p ∧ hi ≤ p) := by omega
  rcases hc with h | ⟨h, h'⟩ | ⟨h, h'⟩ <;>
    (go_enter Try.func71, Try.ntmps71
     go_wp2
     go_ret
     refine ⟨retB ?_, below_new _ _⟩
     simp [hasB]
     try omega)

end Go.Proofs.Ytnmefomipldalaa
/- prRight_any. -/
namespace Go.Proofs.Ytnmefomipldalaa
open Go.RowKit

theorem prRight_any (lo hi : Int) (w : World) :
    Calls Try.prog 69 #[.agg #[.int .i64 lo, .int .i64 hi]] w fun e w' => e = .returned (.bool (rightB (lo, hi))) ∧ Below w.heap.size w w' := by
  have hc : lo < 0 ∨ (0 ≤ lo ∧ lo < hi) ∨ (0 ≤ lo ∧ hi ≤ lo) := by omega
  rcases hc with h | ⟨h, h'⟩ | ⟨h, h'⟩ <;>
    (go_enter Try.func69, Try.ntmps69
     go_wp2
     go_ret
     refine ⟨retB ?_, below_new _ _⟩
     simp [rightB]
     try omega)

end Go.Proofs.Ytnmefomipldalaa
/- What a store at cells leaves: a row, what is ahead, an end. -/
namespace Go.Proofs.Ytnmefomipldalaa
open Go.RowKit

section
variable {w : World} {base b gc n : Nat} {R : List RC} {va : Value} {ah : List Int}
theorem ne_swap {a c : Option Nat} (h : a = none ∨ a ≠ c) : c = none ∨ c ≠ a := by
  rcases h with rfl | h
  · rcases c with _ | g
    · exact .inl rfl
    · exact .inr (by simp)
  · exact .inr fun e => h e.symm
theorem own_not {v : Value} {k : Nat} {xs : List Value} (h : w.ownsRow base 3 1 v k xs) {g : Nat} (hg : g < base) : v.ownBlock ≠ some g := fun e => by have := (h.lt g e).1; omega
theorem CellsAt.put (h : CellsAt w base b gc n R va ah) {i : Nat} {r : RC} (hi : R[i]? = some r) {v : Value} {l : List Int} (hown : w.ownsRow base 3 1 v l.length (l.map (Value.int .i64)))
    (hne : ∀ (j : Nat) (s : RC), j ≠ i → R[j]? = some s → v.ownBlock = none ∨ v.ownBlock ≠ s.1.ownBlock) (hna : v.ownBlock = none ∨ v.ownBlock ≠ va.ownBlock) :
    CellsAt (w.setCell ⟨gc, i * 2, none⟩ v) base b gc n (R.set i (v, r.2.1, l)) va ah := by
  have hil := (List.getElem?_eq_some_iff.1 hi).1
  have get : ∀ (j : Nat) (s : RC), (R.set i (v, r.2.1, l))[j]? = some s → (j = i ∧ s = (v, r.2.1, l)) ∨ (j ≠ i ∧ R[j]? = some s) := fun j s hs => by
    by_cases e : j = i
    · subst e
      rw [List.getElem?_set_self hil] at hs
      exact .inl ⟨rfl, (Option.some.inj hs).symm⟩
    · rw [List.getElem?_set_ne (fun e9 => e e9.symm)] at hs
      exact .inr ⟨e, hs⟩
  refine ⟨(hp_far h.far.2.2.1 _ _).trans h.hb, ?_, by rw [List.length_set]; exact h.len, fun j s hs => ?_, own_set_far h.arow (own_not h.arow h.far.2.1), fun j k s t hjk hs ht => ?_, fun j s hs => ?_, ⟨h.far.1, h.far.2.1, h.far.2.2.1, by simpa [World.setCell] using h.far.2.2.2⟩⟩
  · rw [heap_setCell_same w gc (i * 2) _ _ v h.hc, List.setIfInBounds_toArray, cellsRC_set hi]
  · rcases get j s hs with ⟨_, rfl⟩ | ⟨_, hs'⟩
    · exact own_set_far hown (own_not hown h.far.2.1)
    · exact own_set_far (h.rows j s hs') (own_not (h.rows j s hs') h.far.2.1)
  · rcases get j s hs with ⟨rfl, rfl⟩ | ⟨hj, hs'⟩ <;> rcases get k t ht with ⟨rfl, rfl⟩ | ⟨hk, ht'⟩
    · exact absurd rfl hjk
    · exact hne k t hk ht'
    · exact ne_swap (hne j s hj hs')
    · exact h.ne j k s t hjk hs' ht'
  · rcases get j s hs with ⟨_, rfl⟩ | ⟨_, hs'⟩
    · exact hna
    · exact h.nea j s hs'
theorem CellsAt.putA (h : CellsAt w base b gc n R va ah) {v : Value} {l : List Int} (hown : w.ownsRow base 3 1 v l.length (l.map (Value.int .i64)))
    (hne : ∀ (j : Nat) (s : RC), R[j]? = some s → s.1.ownBlock = none ∨ s.1.ownBlock ≠ v.ownBlock) :
    CellsAt (w.setCell ⟨b, 1, none⟩ v) base b gc n R v l := by
  refine ⟨?_, (hp_far (Ne.symm h.far.2.2.1) _ _).trans h.hc, h.len, fun j s hs => own_set_far (h.rows j s hs) (own_not (h.rows j s hs) h.far.1), own_set_far hown (own_not hown h.far.1), h.ne, hne, ⟨h.far.1, h.far.2.1, h.far.2.2.1, by simpa [World.setCell] using h.far.2.2.2⟩⟩
  rw [heap_setCell_same w b 1 _ _ v h.hb]
  rfl
theorem CellsAt.putE (h : CellsAt w base b gc n R va ah) {i : Nat} {r : RC} (hi : R[i]? = some r) (e : Int) :
    CellsAt (w.setCell ⟨gc, i * 2 + 1, none⟩ (.int .i64 e)) base b gc n (R.set i (r.1, e, r.2.2)) va ah := by
  have hil := (List.getElem?_eq_some_iff.1 hi).1
  have get : ∀ (j : Nat) (s : RC), (R.set i (r.1, e, r.2.2))[j]? = some s → ∃ s', R[j]? = some s' ∧ s.1 = s'.1 ∧ s.2.2 = s'.2.2 := fun j s hs => by
    by_cases e : j = i
    · subst e
      rw [List.getElem?_set_self hil] at hs
      obtain rfl := Option.some.inj hs
      exact ⟨r, hi, rfl, rfl⟩
    · rw [List.getElem?_set_ne (fun e9 => e e9.symm)] at hs
      exact ⟨s, hs, rfl, rfl⟩
  refine ⟨(hp_far h.far.2.2.1 _ _).trans h.hb, ?_, by rw [List.length_set]; exact h.len, fun j s hs => ?_, own_set_far h.arow (own_not h.arow h.far.2.1), fun j k s t hjk hs ht => ?_, fun j s hs => ?_, ⟨h.far.1, h.far.2.1, h.far.2.2.1, by simpa [World.setCell] using h.far.2.2.2⟩⟩
  · rw [heap_setCell_same w gc (i * 2 + 1) _ _ _ h.hc, List.setIfInBounds_toArray, cellsRC_setE hi]
  · obtain ⟨s', h1, h2, h3⟩ := get j s hs
    rw [h2, h3]
    exact own_set_far (h.rows j s' h1) (own_not (h.rows j s' h1) h.far.2.1)
  · obtain ⟨s', h1, h2, _⟩ := get j s hs
    obtain ⟨t', k1, k2, _⟩ := get k t ht
    rw [h2, k2]
    exact h.ne j k s' t' hjk h1 k1
  · obtain ⟨s', h1, h2, _⟩ := get j s hs
    rw [h2]
    exact h.nea j s' h1
end
end Go.Proofs.Ytnmefomipldalaa
/- slices.Clone at []int: a row of the call's own that reads as the argument does. -/
namespace Go.Proofs.Ytnmefomipldalaa
open Go.RowKit

theorem cloneInt_slice : SliceOf Try.prog 46 3 1 8 := .mk_ (z := .int .i64 0) Try.underlying46 (by kernel_rfl) rfl
theorem cloneInt_any (A : Option Addr) (n c : Nat) (xs : List Value) (w : World) (hr : Rd w 1 A n xs) (h1 : ∀ u ∈ xs, u.oneCell' = true) (hm : n ≤ 16777216) :
    Calls Try.prog 63 #[.slice A n c] w fun e w' => ∃ v, e = .returned v ∧ w'.ownsRow w.heap.size 3 1 v n xs ∧ Below w.heap.size w w' := by
  rcases A with _ | ad
  · have h0 : n = 0 := by
      rcases Nat.eq_zero_or_pos n with h | h
      · exact h
      · obtain ⟨_, e, _⟩ := hr.2 h
        cases e
    subst h0
    have hx : xs = [] := List.eq_nil_of_length_eq_zero (by simpa using hr.1)
    subst hx
    have hq := fun w => Lib.run_eql_slice_nil (P := Try.prog) w 46 3 none 0 c 0 0 Try.underlying46
    go_enter Try.func63, Try.ntmps63
    go_wp2
    go_ret
    exact ⟨_, rfl, ⟨rfl, .inl ⟨rfl, rfl⟩⟩, Below.refl _ _⟩
  · have hq := fun w => Lib.run_eql_slice_nil (P := Try.prog) w 46 3 (some ad) n c 0 0 Try.underlying46
    have hown : (w.alloc (.cells #[] 3)).ownsRow w.heap.size 3 1 (.slice (some ⟨w.heap.size, 0, none⟩) 0 0) 0 [] := World.ownsRow_made w #[] 0 (Nat.le_refl _) (Nat.zero_le _) rfl
    go_enter Try.func63, Try.ntmps63
    go_wp2_with (at_builtin; refine wpList_app rfl _ _ _ rfl cloneInt_slice (by decide) _ 0 [] rfl hown ad n c xs rfl (by have := hr.1; omega) (hr.alloc _).news h1 (by omega) (by unfold maxLen; omega) (by simp) ?_; intro v1 w1 hown1 hg1 hat1)
    go_ret
    exact ⟨v1, rfl, by simpa using hown1, below_app ((Below.refl _ _).alloc (Nat.le_refl _) _) hg1 hown (by simp)⟩
end Go.Proofs.Ytnmefomipldalaa
/- The slice type of spans. -/
namespace Go.Proofs.Ytnmefomipldalaa
open Go.RowKit
theorem spanSlice : SliceOf Try.prog 55 31 2 16 := .mk_ (z := .agg #[.int .i64 0, .int .i64 0]) Try.underlying55 (by kernel_rfl) rfl
end Go.Proofs.Ytnmefomipldalaa
/- Whether spans are parts, as plain mathematics. -/
namespace Go.Proofs.Ytnmefomipldalaa
open Go.RowKit
/-- Whether spans are parts from 'end_' on to n. -/
def partsFrom : Int → List Sp → Int → Bool
  | e, [], n => e == n
  | e, s :: l, n => rightB s && (s.1 == e) && partsFrom s.2 l n
def partsS (l : List Sp) (n : Int) : Bool := partsFrom 0 l n
theorem partsFrom_no {e n : Int} {l : List Sp} {s : Sp} (h : rightB s = false ∨ (s.1 == e) = false) : partsFrom e (s :: l) n = false := by
  unfold partsFrom
  rcases h with h | h <;> simp [h]
theorem partsFrom_yes {e n : Int} {l : List Sp} {s : Sp} (h : rightB s = true) (h' : (s.1 == e) = true) : partsFrom e (s :: l) n = partsFrom s.2 l n := by
  show (rightB s && (s.1 == e) && partsFrom s.2 l n) = _
  rw [h, h']; rfl
theorem dropCons {α : Type} {l : List α} {k : Nat} {x : α} (h : l[k]? = some x) : l.drop k = x :: l.drop (k + 1) := by
  obtain ⟨hk, rfl⟩ := List.getElem?_eq_some_iff.1 h
  exact List.drop_eq_getElem_cons hk
end Go.Proofs.Ytnmefomipldalaa
/- Cut of a span, as plain mathematics; small words. -/
namespace Go.Proofs.Ytnmefomipldalaa
open Go.RowKit
theorem own_weak {w : World} {base base' : Nat} {e : TypeId} {size n : Nat} {v : Value} {xs : List Value} (h : w.ownsRow base e size v n xs) (hb : base' ≤ base) : w.ownsRow base' e size v n xs := by
  obtain ⟨h1, h2⟩ := h
  refine ⟨h1, ?_⟩
  rcases h2 with h2 | ⟨g, cap, cur, a, b, c⟩
  · exact .inl h2
  · exact .inr ⟨g, cap, cur, a, by omega, c⟩
theorem cellsS_snoc (l : List Sp) (s : Sp) : cellsS (l ++ [s]) = cellsS l ++ [.int .i64 s.1, .int .i64 s.2] := by simp [cellsS, encS]

/-- A span from lo to hi in parts, cut at what 'at' says; none where that does not rise within. -/
def cutFrom (lo hi : Int) : List Int → Option (List Sp)
  | [] => some [(lo, hi)]
  | a :: r => if a ≤ lo ∨ hi ≤ a then none else (cutFrom a hi r).map ((lo, a) :: ·)
/-- What Cut hands back. -/
def CutGives (w : World) (s : Sp) (at_ : List Int) (e : Ending) (w' : World) : Prop :=
  (rightB s = false ∧ e = .returned (.tuple #[.slice none 0 0, .int .i64 1]) ∧ Below w.heap.size w w') ∨
  (rightB s = true ∧ cutFrom s.1 s.2 at_ = none ∧ e = .returned (.tuple #[.slice none 0 0, .int .i64 10]) ∧ Below w.heap.size w w') ∨
  (rightB s = true ∧ ∃ l v, cutFrom s.1 s.2 at_ = some l ∧ e = .returned (.tuple #[v, .int .i64 0]) ∧ w'.ownsRow w.heap.size 31 2 v l.length (cellsS l) ∧ Below w.heap.size w w')
theorem cutFrom_len {lo hi : Int} {r : List Int} {l : List Sp} (h : cutFrom lo hi r = some l) : l.length = r.length + 1 := by
  induction r generalizing lo l with
  | nil => simp [cutFrom] at h; subst h; rfl
  | cons a r ih =>
    unfold cutFrom at h
    split at h
    · cases h
    · obtain ⟨l', h', rfl⟩ := Option.map_eq_some_iff.1 h
      simp [ih h']
end Go.Proofs.Ytnmefomipldalaa
/- cells' joined, walked: the spans that were joined. -/
namespace Go.Proofs.Ytnmefomipldalaa
open Go.RowKit

def joinB (R : List RC) (i : Nat) : Option Sp := match R[i]? with
  | some r => if rightB ((i : Int), r.2.1) = true then some ((i : Int), r.2.1) else none
  | none => none
def joinedTo (R : List RC) (k : Nat) : List Sp := (List.range k).filterMap (joinB R)
theorem joinedTo_len (R : List RC) (k : Nat) : (joinedTo R k).length ≤ k := Nat.le_trans (List.length_filterMap_le _ _) (by simp)
theorem joinedTo_yes {R : List RC} {k : Nat} {r : RC} (h : R[k]? = some r) (hr : rightB ((k : Int), r.2.1) = true) : joinedTo R (k + 1) = joinedTo R k ++ [((k : Int), r.2.1)] := by
  unfold joinedTo
  rw [List.range_succ, List.filterMap_append]
  simp [joinB, h, hr]
theorem joinedTo_no {R : List RC} {k : Nat} {r : RC} (h : R[k]? = some r) (hr : rightB ((k : Int), r.2.1) = false) : joinedTo R (k + 1) = joinedTo R k := by
  unfold joinedTo
  rw [List.range_succ, List.filterMap_append]
  simp [joinB, h, hr]
set_option maxRecDepth 100000 in
set_option maxHeartbeats 2000000 in
theorem joined_any (base b gc n : Nat) (R : List RC) (va : Value) (ah : List Int) (w : World) (hC : CellsAt w base b gc n R va ah) (hn : n ≤ 100000000) :
    Calls Try.prog 90 #[.pointer (some ⟨b, 0, none⟩)] w fun e w' => ∃ v, e = .returned v ∧ w'.ownsRow w.heap.size 31 2 v (joinedTo R n).length (cellsS (joinedTo R n)) ∧ Below w.heap.size w w' := by
  obtain ⟨Aa, ca, rfl, _⟩ := own_form hC.arow
  have c0 := hp_cell (j := 0) hC.hb rfl
  have HC := Lib.hid hC
  clear hC
  go_enter Try.func90, Try.ntmps90
  go_wp2_with fail
  go_loopw [3, 12] (fun v i ws => ∃ k : Nat, k ≤ n ∧ i = .int .i64 (k : Int) ∧ ws.ownsRow w.heap.size 31 2 v (joinedTo R k).length (cellsS (joinedTo R k)) ∧ Below w.heap.size w ws) (fun _ i _ => n - (intOf i).toNat)
  case atStart => exact ⟨0, Nat.zero_le _, rfl, ⟨rfl, .inl ⟨rfl, rfl⟩⟩, Below.refl _ _⟩
  case round =>
    clear c0
    obtain ⟨k, hk, rfl, hown, hb⟩ := hrel
    have hjl := joinedTo_len R k
    by_cases hlt : k < n
    · obtain ⟨r, hr⟩ : ∃ r, R[k]? = some r := ⟨_, List.getElem?_eq_getElem (by rw [HC.out.len]; omega)⟩
      have HCW := HC.out.low hb
      obtain ⟨c0, c1⟩ := HCW.cell hr
      have hrow := HCW.rows _ _ hr
      have HY := Lib.hid (fun h => joinedTo_yes hr h)
      have HN := Lib.hid (fun h => joinedTo_no hr h)
      obtain ⟨v, e, l⟩ := r
      obtain ⟨Ai, ci, hv, _⟩ := own_form hrow
      simp only at hv
      subst hv
      simp only at c0 c1 HY HN
      have hb1 := below_new wr (.cells #[.slice Ai l.length ci, .int .i64 e] 108)
      have hnw := cells_new wr [.slice Ai l.length ci, .int .i64 e] 108
      have d1 := hnw 1 _ rfl
      rw [addNew] at d1
      obtain ⟨W1, hW1⟩ : ∃ W1, wr.alloc (.cells #[.slice Ai l.length ci, .int .i64 e] 108) = W1 := ⟨_, rfl⟩
      rw [hW1] at d1 hb1
      have hb2 := below_new W1 (.cells #[.int .i64 (k : Int), .int .i64 e] 31)
      have s2 := SpanBlk.new_ W1 (k : Int) e 31
      have HO2 := Lib.hid (own_below (own_below hown hb1) hb2)
      have HB2 := Lib.hid (below_self (below_self hb hb1) hb2)
      obtain ⟨x0, x1, f0, f1⟩ := s2
      obtain ⟨W2, hW2⟩ : ∃ W2, W1.alloc (.cells #[.int .i64 (k : Int), .int .i64 e] 31) = W2 := ⟨_, rfl⟩
      rw [hW2] at HO2 HB2 x0 x1
      obtain ⟨bk, hbk⟩ : ∃ bk, W1.heap.size = bk := ⟨_, rfl⟩
      rw [hbk] at x0 x1
      clear hnw HCW hrow hr hown hb hb1 hb2 f0 f1
      go_wp2_with fail
      refine (prRight_any (k : Int) e W2).mono ?_
      rintro e' w3 ⟨rfl, hb3⟩
      have y0 := cell_below hb3 x0
      have y1 := cell_below hb3 x1
      have HO3 := Lib.hid (own_below HO2.out hb3)
      have HB3 := Lib.hid (below_self HB2.out hb3)
      clear x0 x1 c0 c1 d1 hW1 hW2 hbk
      cases hrb : rightB ((k : Int), e) with
      | false =>
        have HE := Lib.hid (HN.out hrb)
        clear hrb
        go_wp2_with fail
        go_roundw
        case rel => exact ⟨k + 1, by omega, by go_num, by rw [HE.out]; exact HO3.out, HB3.out⟩
        case measure => simp [intOf]; omega
      | true =>
        have HE := Lib.hid (HY.out hrb)
        clear hrb
        go_wp2_with (at_builtin; refine wpList_app rfl _ _ _ rfl spanSlice (by decide) u3 (joinedTo R k).length _ rfl (HO3.out.alloc _) ⟨w3.heap.size, 0, none⟩ 1 1 [.int .i64 (k : Int), .int .i64 e] rfl rfl (cells_new w3 [_, _] _) (oneInt2 _ _ _) (by omega) (by unfold maxLen; omega) (Nat.le_trans HB3.out.size (by simp)) ?_; intro v5 w5 hown5 hg5 hat5)
        have HB5 := Lib.hid ((HB3.out.alloc HB3.out.size (.cells #[.int .i64 (k : Int), .int .i64 e] 31)).grown hg5 (Nat.le_trans HB3.out.size (by simp)) (fun b hb => (HO3.out.lt b hb).1))
        have HO5 := Lib.hid (show w5.ownsRow w.heap.size 31 2 v5 (joinedTo R (k + 1)).length (cellsS (joinedTo R (k + 1))) by rw [HE.out, List.length_append, cellsS_snoc]; exact hown5)
        clear hown5 hg5 hat5 y0 y1
        go_roundw
        case rel => exact ⟨k + 1, by omega, by go_num, HO5.out, HB5.out⟩
        case measure => simp [intOf]; omega
    · have hkn : k = n := by omega
      have HO := Lib.hid hown
      have HB := Lib.hid hb
      rw [hkn] at HO
      clear hown hb hkn hjl
      go_wp2_with fail
      go_ret
      exact ⟨u3, rfl, HO.out, HB.out⟩
end Go.Proofs.Ytnmefomipldalaa
/- Groups of spans as plain mathematics: the reference. -/
namespace Go.Proofs.Ytnmefomipldalaa
open Go.RowKit
/-- Whether a span lies across a place. -/
def acrossB (p n : Int) (s : Sp) : Bool := rightB s && decide (s.2 ≤ n ∧ s.1 < p ∧ p < s.2)
def partedS (p n : Int) (l : List Sp) : Bool := !(l.any (acrossB p n))

/-- The parts from place 'lo' on, the next place to ask being 'p', with so many places to ask. -/
def groupsGo (n : Int) (l : List Sp) : Nat → Int → Int → List Sp
  | 0, _, _ => []
  | f + 1, lo, p => if p = n ∨ partedS p n l = true then (lo, p) :: groupsGo n l f p (p + 1) else groupsGo n l f lo (p + 1)
def groupsS (n : Int) (l : List Sp) : List Sp := groupsGo n l n.toNat 0 1
theorem groupsGo_yes {n : Int} {l : List Sp} {f : Nat} {lo p : Int} (h : p = n ∨ partedS p n l = true) : groupsGo n l (f + 1) lo p = (lo, p) :: groupsGo n l f p (p + 1) := if_pos h
theorem groupsGo_no {n : Int} {l : List Sp} {f : Nat} {lo p : Int} (h : ¬ (p = n ∨ partedS p n l = true)) : groupsGo n l (f + 1) lo p = groupsGo n l f lo (p + 1) := if_neg h
end Go.Proofs.Ytnmefomipldalaa
/- Spans put in order by their Lo, as plain mathematics: put in one by one; which order does not matter where they are parts. -/
namespace Go.Proofs.Ytnmefomipldalaa

def LoSorted (l : List Sp) : Prop := l.Pairwise fun a b => a.1 ≤ b.1
def insLo (acc : List Sp) (s : Sp) : List Sp := acc.takeWhile (fun t => decide (t.1 ≤ s.1)) ++ s :: acc.dropWhile (fun t => decide (t.1 ≤ s.1))
def sortR (l : List Sp) : List Sp := l.foldl insLo []
theorem insLo_at {acc : List Sp} {s : Sp} {j : Nat} (h1 : ∀ t ∈ acc.take j, t.1 ≤ s.1) (h2 : j = acc.length ∨ ∃ t, acc[j]? = some t ∧ ¬ t.1 ≤ s.1) : insLo acc s = acc.take j ++ s :: acc.drop j := by
  induction acc generalizing j with
  | nil => simp [insLo]
  | cons a acc ih =>
    cases j with
    | zero =>
      rcases h2 with h2 | ⟨t, ht, hn⟩
      · simp at h2
      · simp at ht
        subst ht
        have hd : decide (a.1 ≤ s.1) = false := decide_eq_false hn
        simp [insLo, List.takeWhile, List.dropWhile, hd]
    | succ j =>
      have ha := h1 a (by simp)
      have hd : decide (a.1 ≤ s.1) = true := decide_eq_true ha
      have := ih (j := j) (fun t ht => h1 t (by simp [ht])) (by
        rcases h2 with h2 | ⟨t, ht, hn⟩
        · exact .inl (by simpa using h2)
        · exact .inr ⟨t, by simpa using ht, hn⟩)
      unfold insLo at this ⊢
      simp only [List.takeWhile, List.dropWhile, hd, List.take_succ_cons, List.drop_succ_cons, List.cons_append]
      rw [this]
theorem insLo_len (acc : List Sp) (s : Sp) : (insLo acc s).length = acc.length + 1 := by
  have := congrArg List.length (List.takeWhile_append_dropWhile (p := fun t : Sp => decide (t.1 ≤ s.1)) (l := acc))
  rw [List.length_append] at this
  unfold insLo
  rw [List.length_append, List.length_cons]
  omega
theorem insLo_perm (acc : List Sp) (s : Sp) : (insLo acc s).Perm (s :: acc) := by
  unfold insLo
  refine List.perm_middle.trans ?_
  rw [List.takeWhile_append_dropWhile]
theorem insLo_sorted {acc : List Sp} (s : Sp) (h : LoSorted acc) : LoSorted (insLo acc s) := by
  unfold LoSorted at *
  induction acc with
  | nil => simp [insLo]
  | cons a acc ih =>
    rw [List.pairwise_cons] at h
    by_cases ha : a.1 ≤ s.1
    · have hd : decide (a.1 ≤ s.1) = true := decide_eq_true ha
      have e : insLo (a :: acc) s = a :: insLo acc s := by simp [insLo, List.takeWhile, List.dropWhile, hd]
      rw [e, List.pairwise_cons]
      refine ⟨fun b hb => ?_, ih h.2⟩
      have := (insLo_perm acc s).mem_iff.1 hb
      simp at this
      rcases this with rfl | hb'
      · exact ha
      · exact h.1 b hb'
    · have hd : decide (a.1 ≤ s.1) = false := decide_eq_false ha
      have e : insLo (a :: acc) s = s :: a :: acc := by simp [insLo, List.takeWhile, List.dropWhile, hd]
      rw [e, List.pairwise_cons, List.pairwise_cons]
      refine ⟨fun b hb => ?_, h.1, h.2⟩
      simp at hb
      rcases hb with rfl | hb'
      · omega
      · have := h.1 b hb'
        omega
theorem sortR_snoc (l : List Sp) (s : Sp) : sortR (l ++ [s]) = insLo (sortR l) s := by simp [sortR]
theorem sortR_len (l : List Sp) : (sortR l).length = l.length := by
  rw [← List.reverse_reverse l]
  induction l.reverse with
  | nil => rfl
  | cons a t ih => rw [List.reverse_cons, sortR_snoc, insLo_len, ih]; simp
theorem foldIns_perm (l : List Sp) : ∀ acc, (l.foldl insLo acc).Perm (l ++ acc) := by
  induction l with
  | nil => intro acc; exact List.Perm.refl _
  | cons s l ih =>
    intro acc
    refine (ih (insLo acc s)).trans ?_
    refine (List.Perm.append_left l (insLo_perm acc s)).trans ?_
    exact List.perm_middle
theorem sortR_perm (l : List Sp) : (sortR l).Perm l := by
  have := foldIns_perm l []
  rwa [List.append_nil] at this
theorem foldIns_sorted (l : List Sp) : ∀ acc, LoSorted acc → LoSorted (l.foldl insLo acc) := by
  induction l with
  | nil => intro acc h; exact h
  | cons s l ih => intro acc h; exact ih _ (insLo_sorted s h)
theorem sortR_sorted (l : List Sp) : LoSorted (sortR l) := foldIns_sorted l [] List.Pairwise.nil

theorem parts_rise {e n : Int} {l : List Sp} (h : partsFrom e l n = true) : (∀ s ∈ l, e ≤ s.1) ∧ l.Pairwise fun a b => a.1 < b.1 := by
  induction l generalizing e with
  | nil => simp
  | cons s l ih =>
    cases hr : rightB s with
    | false => rw [partsFrom_no (.inl hr)] at h; cases h
    | true =>
      cases he : (s.1 == e) with
      | false => rw [partsFrom_no (.inr he)] at h; cases h
      | true =>
        rw [partsFrom_yes hr he] at h
        have hs := of_decide_eq_true hr
        have he' : s.1 = e := by simpa using he
        obtain ⟨h1, h2⟩ := ih h
        refine ⟨fun t ht => ?_, List.pairwise_cons.2 ⟨fun t ht => ?_, h2⟩⟩
        · simp at ht
          rcases ht with rfl | ht
          · omega
          · have := h1 t ht
            omega
        · have := h1 t ht
          omega
theorem perm_sorted_eq {l l' : List Sp} (hp : l'.Perm l) (h : l.Pairwise fun a b => a.1 < b.1) (h' : LoSorted l') : l' = l := by
  induction l generalizing l' with
  | nil => exact List.Perm.eq_nil hp
  | cons a l ih =>
    cases l' with
    | nil => exact absurd hp.length_eq (by simp)
    | cons b l' =>
      rw [List.pairwise_cons] at h
      unfold LoSorted at h'
      rw [List.pairwise_cons] at h'
      have hb : b ∈ a :: l := hp.mem_iff.1 (by simp)
      have ha : a ∈ b :: l' := hp.mem_iff.2 (by simp)
      have hab : b = a := by
        simp at hb ha
        rcases hb with rfl | hb
        · rfl
        · rcases ha with rfl | ha
          · rfl
          · have := h.1 b hb
            have := h'.1 a ha
            omega
      subst hab
      rw [ih (List.Perm.cons_inv hp) h.2 h'.2]
theorem parts_perm {l l' : List Sp} (hp : l'.Perm l) (h : LoSorted l) (h' : LoSorted l') (m : Int) : partsS l' m = partsS l m := by
  cases h1 : partsS l m with
  | true => rw [perm_sorted_eq hp (parts_rise h1).2 h', h1]
  | false =>
    cases h2 : partsS l' m with
    | false => rfl
    | true =>
      rw [perm_sorted_eq hp.symm (parts_rise h2).2 h, h2] at h1
      cases h1
/-- Whether clusters are a map. -/
def checkC (l : List (Sp × Sp)) (n m : Int) : Bool := partsS (l.map Prod.fst) n && partsS (sortR (l.map Prod.snd)) m
end Go.Proofs.Ytnmefomipldalaa
/- Groups of spans, as plain mathematics: spans that share places put together, singles between them; the same as the reference's. -/
namespace Go.Proofs.Ytnmefomipldalaa

def validB (n : Int) (s : Sp) : Bool := rightB s && decide (s.2 ≤ n)
/-- Spans by their Lo, those that share places put together; 'a' is the last one so far. -/
def mergeGo (a : Sp) : List Sp → List Sp
  | [] => [a]
  | s :: l => if s.1 < a.2 then mergeGo (a.1, if a.2 < s.2 then s.2 else a.2) l else a :: mergeGo s l
def mergeS : List Sp → List Sp
  | [] => []
  | s :: l => mergeGo s l
/-- Spans that rise and share no place, within e and n. -/
def RiseIn (e n : Int) : List Sp → Prop
  | [] => e ≤ n
  | s :: l => e ≤ s.1 ∧ s.1 < s.2 ∧ RiseIn s.2 n l
theorem RiseIn.le {e n : Int} {l : List Sp} (h : RiseIn e n l) : e ≤ n := by
  induction l generalizing e with
  | nil => exact h
  | cons s l ih =>
    have := ih h.2.2
    have := h.1
    have := h.2.1
    omega
theorem RiseIn.low {e e' n : Int} {l : List Sp} (h : RiseIn e n l) (he : e' ≤ e) : RiseIn e' n l := by
  cases l with
  | nil => exact Int.le_trans he h
  | cons s l => exact ⟨Int.le_trans he h.1, h.2⟩
theorem RiseIn.mem {e n : Int} {l : List Sp} (h : RiseIn e n l) : ∀ s ∈ l, e ≤ s.1 ∧ s.1 < s.2 ∧ s.2 ≤ n := by
  induction l generalizing e with
  | nil => simp
  | cons s l ih =>
    intro t ht
    simp at ht
    have h1 := h.1
    have h2 := h.2.1
    have h3 := h.2.2.le
    rcases ht with rfl | ht
    · omega
    · have := ih h.2.2 t ht
      omega
theorem merge_rise {n : Int} {l : List Sp} {a : Sp} (ha : a.1 < a.2 ∧ a.2 ≤ n) (hv : ∀ s ∈ l, s.1 < s.2 ∧ s.2 ≤ n) : RiseIn a.1 n (mergeGo a l) := by
  induction l generalizing a with
  | nil => exact ⟨Int.le_refl _, ha.1, ha.2⟩
  | cons s l ih =>
    have hs := hv s (by simp)
    have hl := fun t ht => hv t (List.mem_cons_of_mem s ht)
    unfold mergeGo
    by_cases hlt : s.1 < a.2
    · rw [if_pos hlt]
      exact ih (a := (a.1, if a.2 < s.2 then s.2 else a.2)) (by simp only; split <;> omega) hl
    · rw [if_neg hlt]
      exact ⟨Int.le_refl _, ha.1, (ih hs hl).low (by omega)⟩
theorem merge_across {l : List Sp} {a : Sp} (hs : ∀ s ∈ l, a.1 ≤ s.1) (hl : LoSorted l) (p : Int) : (∃ h ∈ mergeGo a l, h.1 < p ∧ p < h.2) ↔ ((a.1 < p ∧ p < a.2) ∨ ∃ s ∈ l, s.1 < p ∧ p < s.2) := by
  induction l generalizing a with
  | nil => simp [mergeGo]
  | cons s l ih =>
    unfold LoSorted at hl
    rw [List.pairwise_cons] at hl
    have has := hs s (by simp)
    unfold mergeGo
    by_cases hlt : s.1 < a.2
    · rw [if_pos hlt, ih (a := (a.1, if a.2 < s.2 then s.2 else a.2)) (fun t ht => hs t (by simp [ht])) hl.2]
      simp only
      simp only [List.mem_cons, exists_eq_or_imp]
      constructor
      · rintro (h | h)
        · by_cases hp : p < a.2
          · exact .inl ⟨h.1, hp⟩
          · refine .inr (.inl ?_)
            have := h.2
            split at this <;> omega
        · exact .inr (.inr h)
      · rintro (h | h | h)
        · refine .inl ⟨h.1, ?_⟩
          split <;> omega
        · refine .inl ⟨by omega, ?_⟩
          split <;> omega
        · exact .inr h
    · rw [if_neg hlt]
      simp only [List.mem_cons, exists_eq_or_imp]
      rw [ih hl.1 hl.2]

/-- Each place from e on, t of them, by itself. -/
def singles : Nat → Int → List Sp
  | 0, _ => []
  | t + 1, e => (e, e + 1) :: singles t (e + 1)
/-- The spans, and singles between them, from e to n. -/
def fillG (n : Int) : Int → List Sp → List Sp
  | e, [] => singles (n - e).toNat e
  | e, s :: l => singles (s.1 - e).toNat e ++ s :: fillG n s.2 l

theorem go_singles {n : Int} {l : List Sp} {t f : Nat} {e : Int} (h : ∀ p, e < p → p ≤ e + t → p = n ∨ partedS p n l = true) : groupsGo n l (t + f) e (e + 1) = singles t e ++ groupsGo n l f (e + t) (e + t + 1) := by
  induction t generalizing e with
  | zero => simp [singles]
  | succ t ih =>
    rw [show t + 1 + f = (t + f) + 1 by omega, groupsGo_yes (h (e + 1) (by omega) (by omega)), ih (fun p h1 h2 => h p (by omega) (by omega))]
    simp only [singles, List.cons_append]
    rw [show e + 1 + (t : Int) = e + ((t + 1 : Nat) : Int) by omega]
theorem go_span {n : Int} {l : List Sp} {t f : Nat} {lo p : Int} (h : ∀ q, p ≤ q → q < p + t → ¬ (q = n ∨ partedS q n l = true)) (he : p + t = n ∨ partedS (p + t) n l = true) : groupsGo n l (t + 1 + f) lo p = (lo, p + t) :: groupsGo n l f (p + t) (p + t + 1) := by
  induction t generalizing p with
  | zero =>
    rw [show 0 + 1 + f = f + 1 by omega, groupsGo_yes (by simpa using he)]
    simp
  | succ t ih =>
    rw [show t + 1 + 1 + f = (t + 1 + f) + 1 by omega, groupsGo_no (h p (by omega) (by omega)), ih (fun q h1 h2 => h q (by omega) (by omega)) (by rw [show p + 1 + (t : Int) = p + ((t + 1 : Nat) : Int) by omega]; exact he)]
    rw [show p + 1 + (t : Int) = p + ((t + 1 : Nat) : Int) by omega]
theorem go_fill {n : Int} {l H : List Sp} {e : Int} (he : 0 ≤ e) (hr : RiseIn e n H) (hp : ∀ p, e < p → (partedS p n l = false ↔ ∃ h ∈ H, h.1 < p ∧ p < h.2)) : groupsGo n l (n - e).toNat e (e + 1) = fillG n e H := by
  induction H generalizing e with
  | nil =>
    have hen : e ≤ n := hr
    have := go_singles (n := n) (l := l) (t := (n - e).toNat) (f := 0) (e := e) (fun p h1 h2 => .inr (by
      cases hq : partedS p n l with
      | true => rfl
      | false => obtain ⟨h, hh, _⟩ := (hp p h1).1 hq; cases hh))
    rw [Nat.add_zero] at this
    rw [this]
    simp [fillG, groupsGo]
  | cons s H ih =>
    obtain ⟨h1, h2, h3⟩ := hr
    have h4 := h3.le
    have hmem := h3.mem
    have hout : ∀ p, e < p → p ≤ s.1 → partedS p n l = true := fun p hp1 hp2 => by
      cases hq : partedS p n l with
      | true => rfl
      | false =>
        obtain ⟨h, hh, ha, hb⟩ := (hp p hp1).1 hq
        simp at hh
        rcases hh with rfl | hh
        · omega
        · have := hmem h hh
          omega
    have a1 := go_singles (n := n) (l := l) (t := (s.1 - e).toNat) (f := (s.2 - s.1 - 1).toNat + 1 + (n - s.2).toNat) (e := e) (fun p hp1 hp2 => .inr (hout p hp1 (by omega)))
    rw [show (s.1 - e).toNat + ((s.2 - s.1 - 1).toNat + 1 + (n - s.2).toNat) = (n - e).toNat by omega, show e + ((s.1 - e).toNat : Int) = s.1 by omega] at a1
    have hin : ∀ q, s.1 + 1 ≤ q → q < s.1 + 1 + ((s.2 - s.1 - 1).toNat : Int) → ¬ (q = n ∨ partedS q n l = true) := fun q hq1 hq2 h => by
      rcases h with h | h
      · omega
      · have := (hp q (by omega)).2 ⟨s, by simp, by omega, by omega⟩
        rw [h] at this
        cases this
    have hend : s.1 + 1 + ((s.2 - s.1 - 1).toNat : Int) = n ∨ partedS (s.1 + 1 + ((s.2 - s.1 - 1).toNat : Int)) n l = true := by
      rw [show s.1 + 1 + ((s.2 - s.1 - 1).toNat : Int) = s.2 by omega]
      right
      cases hq : partedS s.2 n l with
      | true => rfl
      | false =>
        obtain ⟨h, hh, ha, hb⟩ := (hp s.2 (by omega)).1 hq
        simp at hh
        rcases hh with rfl | hh
        · omega
        · have := hmem h hh
          omega
    have a2 := go_span (n := n) (l := l) (t := (s.2 - s.1 - 1).toNat) (f := (n - s.2).toNat) (lo := s.1) (p := s.1 + 1) hin hend
    rw [show s.1 + 1 + ((s.2 - s.1 - 1).toNat : Int) = s.2 by omega] at a2
    have a3 := ih (e := s.2) (by omega) h3 (fun p hp1 => by
      rw [hp p (by omega)]
      simp only [List.mem_cons, exists_eq_or_imp]
      constructor
      · rintro (h | h)
        · omega
        · exact h
      · exact .inr)
    rw [a1, a2, a3]
    rfl
theorem singles_parts {t : Nat} {e n : Int} {l : List Sp} (he : 0 ≤ e) : partsFrom e (singles t e ++ l) n = partsFrom (e + t) l n := by
  induction t generalizing e with
  | zero => simp [singles]
  | succ t ih =>
    simp only [singles, List.cons_append]
    rw [partsFrom_yes (by simp [rightB]; omega) (by simp), ih (by omega), show e + 1 + (t : Int) = e + ((t + 1 : Nat) : Int) by omega]
theorem fill_parts {n : Int} {H : List Sp} {e : Int} (he : 0 ≤ e) (hr : RiseIn e n H) : partsFrom e (fillG n e H) n = true := by
  induction H generalizing e with
  | nil =>
    have hen : e ≤ n := hr
    have := singles_parts (t := (n - e).toNat) (e := e) (n := n) (l := []) he
    rw [List.append_nil] at this
    simp only [fillG, this, partsFrom]
    simp
    omega
  | cons s H ih =>
    obtain ⟨h1, h2, h3⟩ := hr
    simp only [fillG]
    rw [singles_parts he, show e + ((s.1 - e).toNat : Int) = s.1 by omega, partsFrom_yes (by simp [rightB]; omega) (by simp)]
    exact ih (by omega) h3
theorem parted_iff {p n : Int} {l : List Sp} : partedS p n l = false ↔ ∃ s ∈ l, validB n s = true ∧ s.1 < p ∧ p < s.2 := by
  unfold partedS
  rw [Bool.not_eq_false', List.any_eq_true]
  constructor
  · rintro ⟨s, hs, h⟩
    unfold acrossB at h
    simp at h
    exact ⟨s, hs, by simp [validB, h.1, h.2.1], h.2.2⟩
  · rintro ⟨s, hs, h1, h2⟩
    unfold validB at h1
    simp at h1
    exact ⟨s, hs, by simp [acrossB, h1, h2]⟩
theorem valid_iff {n : Int} {s : Sp} : validB n s = true ↔ 0 ≤ s.1 ∧ s.1 < s.2 ∧ s.2 ≤ n := by
  simp [validB, rightB]
  omega
theorem groups_eq {n : Int} {l l' : List Sp} (hn : 0 ≤ n) (hp : l'.Perm (l.filter (validB n))) (hs : LoSorted l') : RiseIn 0 n (mergeS l') ∧ groupsS n l = fillG n 0 (mergeS l') := by
  have hv : ∀ s ∈ l', 0 ≤ s.1 ∧ s.1 < s.2 ∧ s.2 ≤ n := fun s h => valid_iff.1 (List.mem_filter.1 (hp.mem_iff.1 h)).2
  have hiff : ∀ p, partedS p n l = false ↔ ∃ s ∈ l', s.1 < p ∧ p < s.2 := fun p => by
    rw [parted_iff]
    constructor
    · rintro ⟨s, h, h1, h2⟩
      exact ⟨s, hp.mem_iff.2 (List.mem_filter.2 ⟨h, h1⟩), h2⟩
    · rintro ⟨s, h, h2⟩
      have := List.mem_filter.1 (hp.mem_iff.1 h)
      exact ⟨s, this.1, this.2, h2⟩
  have key : RiseIn 0 n (mergeS l') ∧ ∀ p, (∃ h ∈ mergeS l', h.1 < p ∧ p < h.2) ↔ ∃ s ∈ l', s.1 < p ∧ p < s.2 := by
    cases l' with
    | nil => exact ⟨hn, fun p => by simp [mergeS]⟩
    | cons a t =>
      have ha := hv a (by simp)
      unfold LoSorted at hs
      rw [List.pairwise_cons] at hs
      refine ⟨(merge_rise ⟨ha.2.1, ha.2.2⟩ (fun s h => (hv s (by simp [h])).2)).low ha.1, fun p => ?_⟩
      unfold mergeS
      rw [merge_across hs.1 hs.2]
      simp only [List.mem_cons, exists_eq_or_imp]
  refine ⟨key.1, ?_⟩
  have := go_fill (n := n) (l := l) (e := 0) (Int.le_refl _) key.1 (fun p _ => by rw [hiff, key.2])
  rw [Int.sub_zero] at this
  exact this
theorem groups_neg {n : Int} {l : List Sp} (hn : n ≤ 0) : groupsS n l = [] := by
  have : n.toNat = 0 := by omega
  unfold groupsS
  rw [this]
  rfl
/-- How many places the spans have but one each. -/
def overS (l : List Sp) : Int := (l.map fun s => s.2 - s.1 - 1).sum
theorem over_le {e n : Int} {l : List Sp} (h : RiseIn e n l) (k : Nat) : 0 ≤ overS (l.take k) ∧ overS (l.take k) ≤ n - e := by
  induction l generalizing e k with
  | nil =>
    have : e ≤ n := h
    simp [overS]
    omega
  | cons s l ih =>
    cases k with
    | zero =>
      have := h.le
      simp [overS]
      omega
    | succ k =>
      have := ih h.2.2 k
      have h1 := h.1
      have h2 := h.2.1
      simp only [overS, List.take_succ_cons, List.map_cons, List.sum_cons] at this ⊢
      omega
theorem singles_len (t : Nat) (e : Int) : (singles t e).length = t := by
  induction t generalizing e with
  | zero => rfl
  | succ t ih => simp [singles, ih]
theorem fill_len {e n : Int} {l : List Sp} (h : RiseIn e n l) : ((fillG n e l).length : Int) = n - e - overS l := by
  induction l generalizing e with
  | nil =>
    have : e ≤ n := h
    simp [fillG, singles_len, overS]
    omega
  | cons s l ih =>
    have h3 := ih h.2.2
    have h1 := h.1
    have h2 := h.2.1
    simp only [fillG, List.length_append, List.length_cons, singles_len, overS, List.map_cons, List.sum_cons] at h3 ⊢
    omega
theorem groups_back (n : Int) (l : List Sp) : groupsS n l.reverse = groupsS n l := by
  have h : ∀ p, partedS p n l.reverse = partedS p n l := fun p => by unfold partedS; rw [List.any_reverse]
  have hg : ∀ f lo p, groupsGo n l.reverse f lo p = groupsGo n l f lo p := by
    intro f
    induction f with
    | zero => intro lo p; rfl
    | succ f ih => intro lo p; unfold groupsGo; rw [h, ih, ih]
  exact hg _ _ _
theorem groups_parts {n : Int} {l l' : List Sp} (hn : 0 ≤ n) (hp : l'.Perm (l.filter (validB n))) (hs : LoSorted l') : partsS (groupsS n l) n = true := by
  obtain ⟨h1, h2⟩ := groups_eq hn hp hs
  rw [h2]
  exact fill_parts (Int.le_refl _) h1
theorem singles_snoc (t : Nat) (e : Int) : singles (t + 1) e = singles t e ++ [(e + t, e + t + 1)] := by
  induction t generalizing e with
  | zero => simp [singles]
  | succ t ih =>
    rw [singles, ih, singles, List.cons_append]
    rw [show e + 1 + (t : Int) = e + ((t + 1 : Nat) : Int) by omega]
end Go.Proofs.Ytnmefomipldalaa
/- The project's appendSingles. -/
namespace Go.Proofs.Ytnmefomipldalaa
open Go.RowKit

theorem grown_step {a b c : World} {r r' : Option Nat} (h : a.grownBy b r) (h' : b.grownBy c r') (hr : r' = r ∨ ∀ k, r' = some k → a.heap.size ≤ k) : a.grownBy c r :=
  ⟨h'.os.trans h.os, h'.tape.trans h.tape, h'.output.trans h.output, Nat.le_trans h.size h'.size, fun i hi hne =>
    (h'.block i (Nat.lt_of_lt_of_le hi h.size) (fun e => by
      rcases hr with hr | hr
      · exact hne (by rw [e, hr])
      · have := hr i e.symm
        omega)).trans (h.block i hi hne)⟩

set_option maxRecDepth 100000 in
set_option maxHeartbeats 2000000 in
theorem prSingles_any (base k : Nat) (v : Value) (acc : List Sp) (lo hi : Int) (w : World) (hown : w.ownsRow base 31 2 v k (cellsS acc)) (h0 : 0 ≤ lo) (hh : hi ≤ 100000) (hk : k ≤ 100000) (hbase : base ≤ w.heap.size) :
    Calls Try.prog 102 #[v, .int .i64 lo, .int .i64 hi] w fun e w' => ∃ v', e = .returned v' ∧ w'.ownsRow base 31 2 v' (k + (hi - lo).toNat) (cellsS (acc ++ singles (hi - lo).toNat lo)) ∧ w.grownBy w' v.ownBlock ∧ (v'.ownBlock = v.ownBlock ∨ ∀ b, v'.ownBlock = some b → w.heap.size ≤ b) := by
  go_enter Try.func102, Try.ntmps102
  go_wp2
  go_loopw [0, 7] (fun v' i wr => ∃ t : Nat, t ≤ (hi - lo).toNat ∧ i = .int .i64 (lo + t) ∧ wr.ownsRow base 31 2 v' (k + t) (cellsS (acc ++ singles t lo)) ∧ w.grownBy wr v.ownBlock ∧ (v'.ownBlock = v.ownBlock ∨ ∀ b, v'.ownBlock = some b → w.heap.size ≤ b)) (fun _ i _ => (hi - intOf i).toNat)
  case atStart => exact ⟨0, Nat.zero_le _, by simp, by simpa [singles] using hown, World.grownBy.refl w _, .inl rfl⟩
  case round =>
    obtain ⟨t, ht, rfl, ho, hg, hb⟩ := hrel
    by_cases hlt : lo + (t : Int) < hi
    · have hsz := hg.size
      have HT := Lib.hid (show cellsS (acc ++ singles (t + 1) lo) = cellsS (acc ++ singles t lo) ++ [.int .i64 (lo + t), .int .i64 (lo + t + 1)] by rw [singles_snoc]; simp [cellsS, encS])
      have ha := ho.alloc (.cells #[.int .i64 (lo + t), .int .i64 (lo + t + 1)] 31)
      have HN := Lib.hid (rd_blk (m := 1) (cs := [.int .i64 (lo + t), .int .i64 (lo + t + 1)]) 2 (heap_alloc_new wr (.cells #[.int .i64 (lo + t), .int .i64 (lo + t + 1)] 31)) rfl)
      have HB := Lib.hid hb
      clear hb
      go_wp2_with (at_builtin; refine wpList_appR rfl _ _ _ rfl spanSlice (by decide) u0 (k + t) _ rfl ha _ 1 1 _ rfl HN.out (oneInt2 _ _ _) (by omega) (by unfold maxLen; omega) (by simp; omega) ?_; intro v1 w1 hown1 hg1 hat1)
      have hgr : w.grownBy w1 v.ownBlock := grown_step (grown_step hg (World.grownBy_alloc wr _ none) (.inr (fun k h => by cases h))) hg1 HB.out
      have HB1 := Lib.hid (show v1.ownBlock = v.ownBlock ∨ ∀ b, v1.ownBlock = some b → w.heap.size ≤ b by
        rcases hat1 with h | h
        · rw [h]; exact HB.out
        · right
          intro b hb
          rw [h] at hb
          injection hb with hb
          simp at hb
          omega)
      clear hat1
      go_roundw
      case rel => exact ⟨t + 1, by omega, by go_num, by rw [HT.out]; exact hown1, hgr, HB1.out⟩
      case measure => simp [intOf]; omega
    · have hte : t = (hi - lo).toNat := by omega
      subst hte
      have HO := Lib.hid ho
      have HB := Lib.hid hb
      clear ho hb
      go_wp2
      go_ret
      exact ⟨_, rfl, HO.out, hg, HB.out⟩
end Go.Proofs.Ytnmefomipldalaa
/- cmp.Compare at int. -/
namespace Go.Proofs.Ytnmefomipldalaa
open Go.RowKit

def cmpI (x y : Int) : Int := if x < y then -1 else if y < x then 1 else 0
set_option maxHeartbeats 1000000 in
theorem nanI_any (x : Int) (w : World) : Calls Try.prog 87 #[.int .i64 x] w fun e w' => e = .returned (.bool false) ∧ w = w' := by
  have h : (x != x) = false := by simp
  go_enter Try.func87, Try.ntmps87
  go_wp2
  go_ret
  exact ⟨by simp, rfl⟩
set_option maxHeartbeats 1000000 in
theorem cmpI_any (x y : Int) (w : World) : Calls Try.prog 62 #[.int .i64 x, .int .i64 y] w fun e w' => e = .returned (.int .i64 (cmpI x y)) ∧ w = w' := by
  have hc : x < y ∨ (¬ x < y ∧ y < x) ∨ (¬ x < y ∧ ¬ y < x) := by omega
  rcases hc with h | ⟨h, h'⟩ | ⟨h, h'⟩
  · have HE := Lib.hid (show cmpI x y = -1 from if_pos h)
    go_enter Try.func62, Try.ntmps62
    go_wp2_with (go_at_call 87; refine (nanI_any _ _).mono ?_; rintro e w' ⟨rfl, rfl⟩)
    go_ret
    exact ⟨retI HE.out.symm, rfl⟩
  · have HE := Lib.hid (show cmpI x y = 1 by unfold cmpI; rw [if_neg h, if_pos h'])
    go_enter Try.func62, Try.ntmps62
    go_wp2_with (go_at_call 87; refine (nanI_any _ _).mono ?_; rintro e w' ⟨rfl, rfl⟩)
    go_ret
    exact ⟨retI HE.out.symm, rfl⟩
  · have HE := Lib.hid (show cmpI x y = 0 by unfold cmpI; rw [if_neg h, if_neg h'])
    go_enter Try.func62, Try.ntmps62
    go_wp2_with (go_at_call 87; refine (nanI_any _ _).mono ?_; rintro e w' ⟨rfl, rfl⟩)
    go_ret
    exact ⟨retI HE.out.symm, rfl⟩
end Go.Proofs.Ytnmefomipldalaa
/- slices.Clone at []api.Span: a row of the call's own that reads as the argument does. -/
namespace Go.Proofs.Ytnmefomipldalaa
open Go.RowKit

theorem cloneS_any (A : Option Addr) (n c : Nat) (xs : List Value) (w : World) (hr : Rd w 2 A n xs) (h1 : ∀ u ∈ xs, u.oneCell' = true) (hm : n ≤ 16777216) :
    Calls Try.prog 115 #[.slice A n c] w fun e w' => ∃ v, e = .returned v ∧ w'.ownsRow w.heap.size 31 2 v n xs ∧ Below w.heap.size w w' := by
  rcases A with _ | ad
  · have h0 : n = 0 := by
      rcases Nat.eq_zero_or_pos n with h | h
      · exact h
      · obtain ⟨_, e, _⟩ := hr.2 h
        cases e
    subst h0
    have hx : xs = [] := List.eq_nil_of_length_eq_zero (by simpa using hr.1)
    subst hx
    have hq := fun w => Lib.run_eql_slice_nil (P := Try.prog) w 55 31 none 0 c 0 0 Try.underlying55
    go_enter Try.func115, Try.ntmps115
    go_wp2
    go_ret
    exact ⟨_, rfl, ⟨rfl, .inl ⟨rfl, rfl⟩⟩, Below.refl _ _⟩
  · have hq := fun w => Lib.run_eql_slice_nil (P := Try.prog) w 55 31 (some ad) n c 0 0 Try.underlying55
    have hown : (w.alloc (.cells #[] 31)).ownsRow w.heap.size 31 2 (.slice (some ⟨w.heap.size, 0, none⟩) 0 0) 0 [] := World.ownsRow_made w #[] 0 (Nat.le_refl _) (Nat.zero_le _) rfl
    go_enter Try.func115, Try.ntmps115
    go_wp2_with (at_builtin; refine wpList_app rfl _ _ _ rfl spanSlice (by decide) _ 0 [] rfl hown ad n c xs rfl hr.1 (hr.alloc _).news h1 (by omega) (by unfold maxLen; omega) (by simp) ?_; intro v1 w1 hown1 hg1 hat1)
    go_ret
    exact ⟨v1, rfl, by simpa using hown1, below_app ((Below.refl _ _).alloc (Nat.le_refl _) _) hg1 hown (by simp)⟩
end Go.Proofs.Ytnmefomipldalaa
/- The project's Size of a span. -/
namespace Go.Proofs.Ytnmefomipldalaa
open Go.RowKit
theorem prSizeS_any (lo hi : Int) (w : World) (hf : Fit hi) :
    Calls Try.prog 101 #[.agg #[.int .i64 lo, .int .i64 hi]] w fun e w' => e = .returned (.int .i64 (sizeS (lo, hi))) ∧ Below w.heap.size w w' := by
  obtain ⟨f0, f1⟩ := hf
  cases h : rightB (lo, hi) with
  | true =>
    have h' := of_decide_eq_true h
    obtain ⟨h1, h2⟩ := h'
    simp only at h1 h2
    have HS := Lib.hid (show sizeS (lo, hi) = hi - lo from if_pos h)
    go_enter Try.func101, Try.ntmps101
    go_wp2_with fail
    refine (prRight_any lo hi _).mono ?_
    rintro e w1 ⟨rfl, hb⟩
    have hb1 := below_self (below_new w _) hb
    have c0 : w1.cell? ⟨w.heap.size, 0, none⟩ = some (.int .i64 lo) := cell_below hb (by rw [World.cell?_alloc_at _ _ _ _ rfl]; rfl)
    have c1 : w1.cell? ⟨w.heap.size, 1, none⟩ = some (.int .i64 hi) := cell_below hb (by rw [World.cell?_alloc_at _ _ _ _ rfl]; rfl)
    go_wp2
    go_ret
    exact ⟨retI HS.out.symm, hb1⟩
  | false =>
    have HS := Lib.hid (show sizeS (lo, hi) = 0 from if_neg (by rw [h]; decide))
    go_enter Try.func101, Try.ntmps101
    go_wp2_with fail
    refine (prRight_any lo hi _).mono ?_
    rintro e w1 ⟨rfl, hb⟩
    have hb1 := below_self (below_new w _) hb
    go_wp2
    go_ret
    exact ⟨retI HS.out.symm, hb1⟩
end Go.Proofs.Ytnmefomipldalaa
/- Groups are parts, and no more than places. -/
namespace Go.Proofs.Ytnmefomipldalaa
open Go.RowKit

theorem groups_len {n : Int} {l : List Sp} (hn : n ≤ 1000) : (groupsS n l).length ≤ 1000 := by
  have h : ∀ f lo p, (groupsGo n l f lo p).length ≤ f := by
    intro f
    induction f with
    | zero => intro lo p; exact Nat.le_refl _
    | succ f ih =>
      intro lo p
      unfold groupsGo
      split
      · have := ih p (p + 1)
        simp only [List.length_cons]; omega
      · have := ih lo (p + 1)
        omega
  have := h n.toNat 0 1
  unfold groupsS
  omega
/-- A sorted list of the right spans within n is there. -/
theorem groups_whole {n : Int} (l : List Sp) (hn : 0 ≤ n) : partsS (groupsS n l) n = true :=
  groups_parts hn (sortR_perm _) (sortR_sorted _)
end Go.Proofs.Ytnmefomipldalaa
/- Clusters as data: the cells of a slice of clusters. -/
namespace Go.Proofs.Ytnmefomipldalaa
open Go.RowKit

/-- A cluster: In, Out. -/
abbrev Cl := Sp × Sp
def encC (c : Cl) : List Value := [.int .i64 c.1.1, .int .i64 c.1.2, .int .i64 c.2.1, .int .i64 c.2.2]
def cellsC (l : List Cl) : List Value := l.flatMap encC
theorem cellsC_snoc (l : List Cl) (c : Cl) : cellsC (l ++ [c]) = cellsC l ++ [.int .i64 c.1.1, .int .i64 c.1.2, .int .i64 c.2.1, .int .i64 c.2.2] := by simp [cellsC, encC]
theorem cellsC_len (l : List Cl) : (cellsC l).length = l.length * 4 := by
  induction l with
  | nil => rfl
  | cons s l ih =>
    show (encC s ++ cellsC l).length = _
    rw [List.length_append, ih, List.length_cons]
    simp only [encC, List.length_cons, List.length_nil]
    omega
theorem cellsC_at {l : List Cl} {k : Nat} {s : Cl} (h : l[k]? = some s) : (cellsC l)[k * 4]? = some (.int .i64 s.1.1) ∧ (cellsC l)[k * 4 + 1]? = some (.int .i64 s.1.2) ∧ (cellsC l)[k * 4 + 2]? = some (.int .i64 s.2.1) ∧ (cellsC l)[k * 4 + 3]? = some (.int .i64 s.2.2) := by
  induction l generalizing k with
  | nil => simp at h
  | cons t l ih =>
    have hc : cellsC (t :: l) = .int .i64 t.1.1 :: .int .i64 t.1.2 :: .int .i64 t.2.1 :: .int .i64 t.2.2 :: cellsC l := rfl
    cases k with
    | zero =>
      simp at h
      subst h
      exact ⟨rfl, rfl, rfl, rfl⟩
    | succ k =>
      have := ih (k := k) (by simpa using h)
      rw [hc]
      have e0 : (k + 1) * 4 = k * 4 + 1 + 1 + 1 + 1 := by omega
      have e1 : (k + 1) * 4 + 1 = (k * 4 + 1) + 1 + 1 + 1 + 1 := by omega
      have e2 : (k + 1) * 4 + 2 = (k * 4 + 2) + 1 + 1 + 1 + 1 := by omega
      have e3 : (k + 1) * 4 + 3 = (k * 4 + 3) + 1 + 1 + 1 + 1 := by omega
      rw [e3, e2, e1, e0]
      simpa using this
/-- The four cells of a cluster in a slice, as the walk spells them. -/
theorem Rd.clus {w : World} {A : Option Addr} {n k : Nat} {l : List Cl} {s : Cl} (hr : Rd w 4 A n (cellsC l)) (h : l[k]? = some s) : ∃ ad, A = some ad ∧ ad.block < w.heap.size ∧ w.cell? (ad.add (k * 4)) = some (.int .i64 s.1.1) ∧
    w.cell? ⟨(ad.add (k * 4)).block, (ad.add (k * 4)).off + 1, none⟩ = some (.int .i64 s.1.2) ∧ w.cell? ⟨(ad.add (k * 4)).block, (ad.add (k * 4)).off + 2, none⟩ = some (.int .i64 s.2.1) ∧ w.cell? ⟨(ad.add (k * 4)).block, (ad.add (k * 4)).off + 3, none⟩ = some (.int .i64 s.2.2) := by
  have hlen : l.length * 4 = n * 4 := by rw [← cellsC_len]; exact hr.1
  have hk := (List.getElem?_eq_some_iff.1 h).1
  obtain ⟨ad, rfl, hb, hc⟩ := hr.2 (by omega)
  obtain ⟨e0, e1, e2, e3⟩ := cellsC_at h
  have h1 := hc _ _ e1
  have h2 := hc _ _ e2
  have h3 := hc _ _ e3
  rw [addNext ad (k * 4) 0] at h1
  rw [addNext ad (k * 4) 1] at h2
  rw [addNext ad (k * 4) 2] at h3
  exact ⟨ad, rfl, hb, hc _ _ e0, h1, h2, h3⟩
theorem oneInt4 (k : IntKind) (a b c d : Int) : ∀ u ∈ [Value.int k a, .int k b, .int k c, .int k d], u.oneCell' = true := by
  intro u hu
  simp at hu
  rcases hu with rfl | rfl | rfl | rfl <;> rfl
theorem clusSlice : SliceOf Try.prog 22 33 4 32 := .mk_ (z := .agg #[.int .i64 0, .int .i64 0, .int .i64 0, .int .i64 0]) Try.underlying22 (by kernel_rfl) rfl


theorem clusInfo : (Try.prog.info? 33).map (fun i => (i.zero, i.size, i.bytes)) = some (some (.agg #[.int .i64 0, .int .i64 0, .int .i64 0, .int .i64 0]), 4, 32) := by kernel_rfl
/-- A row of clusters while its first k elements are filled. -/
def fillC (l : List Cl) (k : Nat) : List Value := cellsC (l.take k) ++ List.replicate ((l.length - k) * 4) (.int .i64 0)
theorem fillC_start (l : List Cl) : fillC l 0 = List.replicate (l.length * 4) (.int .i64 0) := by simp [fillC, cellsC]
theorem fillC_end (l : List Cl) : fillC l l.length = cellsC l := by simp [fillC]
theorem fillC_step {l : List Cl} {k : Nat} {s : Cl} (h : l[k]? = some s) : ((((fillC l k).set (k * 4) (.int .i64 s.1.1)).set (k * 4 + 1) (.int .i64 s.1.2)).set (k * 4 + 2) (.int .i64 s.2.1)).set (k * 4 + 3) (.int .i64 s.2.2) = fillC l (k + 1) := by
  have hlt := (List.getElem?_eq_some_iff.1 h).1
  have hc : (cellsC (l.take k)).length = k * 4 := by rw [cellsC_len, List.length_take]; omega
  have hs : cellsC (l.take (k + 1)) = cellsC (l.take k) ++ [.int .i64 s.1.1, .int .i64 s.1.2, .int .i64 s.2.1, .int .i64 s.2.2] := by rw [List.take_add_one, h]; simp [cellsC, encC]
  unfold fillC
  obtain ⟨m, hm⟩ : ∃ m, l.length - k = m + 1 := ⟨l.length - k - 1, by omega⟩
  have hm2 : l.length - (k + 1) = m := by omega
  rw [hm, hm2, hs, show (m + 1) * 4 = m * 4 + 1 + 1 + 1 + 1 by omega, List.replicate_succ, List.replicate_succ, List.replicate_succ, List.replicate_succ,
    List.set_append_right _ _ (by omega), hc, Nat.sub_self, List.set_cons_zero, List.set_append_right _ _ (by omega), hc, show k * 4 + 1 - k * 4 = 1 by omega, List.set_append_right _ _ (by omega), hc, show k * 4 + 2 - k * 4 = 2 by omega, List.set_append_right _ _ (by omega), hc, show k * 4 + 3 - k * 4 = 3 by omega]
  simp
end Go.Proofs.Ytnmefomipldalaa
/- A map of spans that the call itself has made, as a function of the place: looked up, stored, deleted. -/
namespace Go.Proofs.Ytnmefomipldalaa
open Go.RowKit

def spanD (s : Sp) : DataW Unit := .agg [.lit (.int .i64 s.1), .lit (.int .i64 s.2)]
/-- How a span in a map reads. -/
def spanElem : Value → Option (DataW Unit × List MemPlace)
  | .agg ⟨[.int .i64 a, .int .i64 b]⟩ => some (spanD (a, b), [])
  | _ => none
theorem spanElem_mk (s : Sp) : spanElem (valS s) = some (spanD s, []) := rfl
theorem spanElem_inv {v : Value} {z : DataW Unit × List MemPlace} (h : spanElem v = some z) : ∃ s : Sp, v = valS s ∧ z = (spanD s, []) := by
  unfold spanElem at h
  split at h
  · rename_i a b
    exact ⟨(a, b), rfl, (Option.some.inj h).symm⟩
  · simp at h
theorem spanD_inj {s t : Sp} (h : spanD s = spanD t) : s = t := by
  unfold spanD at h
  simp only [DataW.agg.injEq, List.cons.injEq, DataW.lit.injEq, Lit.int.injEq, true_and, and_true] at h
  exact Prod.ext h.1 h.2
theorem key_wf {k : Nat} (h : k ≤ 100000000) : (Lit.int .i64 (k : Int)).wf = true := by
  simp [Lit.wf, IntKind.min, IntKind.max, IntKind.signed, IntKind.bits]; omega
/-- How many places below n have a span. -/
def cntM (M : Nat → Option Sp) : Nat → Nat
  | 0 => 0
  | n + 1 => cntM M n + (if (M n).isSome = true then 1 else 0)
theorem cntM_le (M : Nat → Option Sp) (n : Nat) : cntM M n ≤ n := by
  induction n with
  | zero => exact Nat.le_refl _
  | succ n ih => unfold cntM; split <;> omega
def putM (M : Nat → Option Sp) (k : Nat) (s : Sp) : Nat → Option Sp := fun j => if j = k then some s else M j
def delM (M : Nat → Option Sp) (k : Nat) : Nat → Option Sp := fun j => if j = k then none else M j
theorem cntM_far {M N : Nat → Option Sp} {n : Nat} (h : ∀ j, j < n → M j = N j) : cntM M n = cntM N n := by
  induction n with
  | zero => rfl
  | succ n ih => unfold cntM; rw [ih (fun j hj => h j (by omega)), h n (by omega)]
theorem cntM_put {M : Nat → Option Sp} {n k : Nat} (hk : k < n) (s : Sp) : cntM (putM M k s) n = if (M k).isSome = true then cntM M n else cntM M n + 1 := by
  induction n with
  | zero => omega
  | succ n ih =>
    by_cases e : k = n
    · subst e
      unfold cntM
      rw [cntM_far (M := putM M k s) (N := M) (fun j hj => if_neg (by omega)), show putM M k s k = some s from if_pos rfl]
      cases hm : (M k).isSome <;> simp
    · have h1 := ih (by omega)
      unfold cntM
      rw [h1, show putM M k s n = M n from if_neg (fun h => e h.symm)]
      cases hm : (M k).isSome <;> simp <;> omega
theorem cntM_del {M : Nat → Option Sp} {n k : Nat} (hk : k < n) : cntM (delM M k) n + (if (M k).isSome = true then 1 else 0) = cntM M n := by
  induction n with
  | zero => omega
  | succ n ih =>
    by_cases e : k = n
    · subst e
      unfold cntM
      rw [cntM_far (M := delM M k) (N := M) (fun j hj => if_neg (by omega)), show delM M k k = none from if_pos rfl]
      simp
    · have h1 := ih (by omega)
      unfold cntM
      rw [show delM M k n = M n from if_neg (fun h => e h.symm)]
      omega
/-- Block m is a map of places below n that has these spans. -/
def MapAt (w : World) (m n : Nat) (M : Nat → Option Sp) : Prop :=
  (∃ D : DataW Unit, w.ownsMap Try.prog 3 spanElem m n D ∧ Maps.size D = cntM M n ∧ ∀ k : Nat, Maps.has D (.int .i64 (k : Int)) = (M k).isSome ∧ D.atKey (.int .i64 (k : Int)) (spanD (0, 0)) = spanD ((M k).getD (0, 0)))
section
variable {w w' : World} {m n : Nat} {M : Nat → Option Sp}
theorem MapAt.drew (h : MapAt w m n M) : MapAt w.drew m n M := h
theorem MapAt.lt (h : MapAt w m n M) : m < w.heap.size := by obtain ⟨D, h, _⟩ := h; exact h.lt
theorem MapAt.heap (h : MapAt w m n M) (he : w'.heap[m]? = w.heap[m]?) : MapAt w' m n M := by
  obtain ⟨D, ⟨es, clock, h1, h2, h3, h4⟩, h5⟩ := h
  exact ⟨D, ⟨es, clock, he.trans h1, h2, h3, h4⟩, h5⟩
theorem MapAt.kept {S : List Nat} (h : MapAt w m n M) (hk : Kept w w' S) (hs : m ∉ S) : MapAt w' m n M := h.heap (hk.block m h.lt hs)
theorem fit_none : WideElems.Fit Try.prog 3 spanElem #[] 0 := by
  obtain ⟨es, clock, h1, h2, _⟩ := World.ownsMap_made (default : World) Try.prog 3 spanElem
  rw [heap_alloc_new] at h1
  injection h1 with h1
  injection h1 with h1 h3
  subst h1 h3
  exact h2
theorem cntM_none (n : Nat) : cntM (fun _ => none) n = 0 := by
  induction n with
  | zero => rfl
  | succ n ih => unfold cntM; rw [ih]; rfl
theorem MapAt.none_ (h : w.heap[m]? = some (.map #[] 0)) (n : Nat) : MapAt w m n (fun _ => none) :=
  ⟨.map [], ⟨#[], 0, h, fit_none, Nat.zero_le _, by simp⟩, by rw [cntM_none]; rfl, fun k => ⟨rfl, rfl⟩⟩
theorem own_fit {k : TypeId} {R : Value → Option (DataW Unit × List MemPlace)} {b c : Nat} {D : DataW Unit} (h : w.ownsMap Try.prog k R b c D) {c' : Nat} (hc : Maps.size D ≤ c') : w.ownsMap Try.prog k R b c' D := by
  obtain ⟨es, clock, h1, h2, h3, rfl⟩ := h
  refine ⟨es, clock, h1, h2, ?_, rfl⟩
  have := length_read (P := Try.prog) (k := k) (R0 := R) es
  unfold Maps.size at hc
  simp only [this] at hc
  exact hc
theorem int_map : Maps.Keyed Try.prog 3 := Maps.int_keyed Try.underlying3
theorem map_type : Try.prog.underlying 115 = some (.map 3 31) := Try.underlying115
theorem span_zero (w : World) : (zeroValue 31).run Try.prog w = .ok (valS (0, 0)) w := Try.zeroValue31 w
theorem MapAt.look (h : MapAt w m n M) {k : Nat} (hk : k ≤ 100000000) : (Instr.lookup 115 (.map (some m)) (.int .i64 (k : Int)) false).run Try.prog w = .ok (valS ((M k).getD (0, 0))) w := by
  obtain ⟨D, h1, _, h2⟩ := h
  obtain ⟨v, ps, hrun, hv⟩ := h1.lookup int_map map_type (span_zero w) (spanElem_mk (0, 0)) (Maps.keyOf_int_mk Try.underlying3 (key_wf hk))
  obtain ⟨s, rfl, hz⟩ := spanElem_inv hv
  rw [(h2 k).2] at hz
  rw [hrun, spanD_inj (congrArg Prod.fst hz)]
theorem MapAt.look_ok (h : MapAt w m n M) {k : Nat} (hk : k ≤ 100000000) : (Instr.lookup 115 (.map (some m)) (.int .i64 (k : Int)) true).run Try.prog w = .ok (.tuple #[valS ((M k).getD (0, 0)), .bool (M k).isSome]) w := by
  obtain ⟨D, h1, _, h2⟩ := h
  obtain ⟨v, ps, hrun, hv⟩ := h1.look_ok int_map map_type (span_zero w) (spanElem_mk (0, 0)) (Maps.keyOf_int_mk Try.underlying3 (key_wf hk))
  obtain ⟨s, rfl, hz⟩ := spanElem_inv hv
  rw [(h2 k).2] at hz
  rw [hrun, (h2 k).1, spanD_inj (congrArg Prod.fst hz)]
set_option maxRecDepth 100000 in
theorem MapAt.store (h : MapAt w m n M) {k : Nat} (hk : k < n) (hc : n ≤ 100000000) (s : Sp) : ∃ w', (Instr.mapUpdate 115 (.map (some m)) (.int .i64 (k : Int)) (valS s)).run Try.prog w = .ok () w' ∧ MapAt w' m n (putM M k s) ∧ w.mapTurned w' m := by
  obtain ⟨D, h1, hsz, h2⟩ := h
  have hl : WideAt.IsKeyLit (.int .i64 (k : Int)) := trivial
  have htd := h1.tidy int_map
  obtain ⟨w', hrun, h3, h4⟩ := h1.store int_map map_type (by unfold maxLen; omega) (Maps.keyOf_int_mk Try.underlying3 (key_wf (k := k) (by omega))) (spanElem_mk s)
  have hsz2 : Maps.size (D.put (.int .i64 (k : Int)) (spanD s)) = cntM (putM M k s) n := by
    rw [Maps.size_put htd, (h2 k).1, hsz, cntM_put hk]
  refine ⟨w', hrun, ⟨_, own_fit h3 (by rw [hsz2]; exact cntM_le _ _), hsz2, fun j => ?_⟩, h4⟩
  unfold putM
  by_cases e : j = k
  · subst e
    rw [if_pos rfl]
    exact ⟨Maps.has_put_same h1.isMap hl _, Maps.atKey_put_same h1.isMap hl _ _⟩
  · rw [if_neg e]
    have hne : (Lit.int .i64 (j : Int)) ≠ .int .i64 (k : Int) := fun e9 => e (by have := (Lit.int.inj e9).2; omega)
    exact ⟨(Maps.has_put_other hne _).trans (h2 j).1, (Maps.atKey_put_other hne _ _).trans (h2 j).2⟩
set_option maxRecDepth 100000 in
theorem MapAt.drop (h : MapAt w m n M) {k : Nat} (hk : k < n) (hc : n ≤ 100000000) (ty : TypeId) : ∃ w', (Builtin.delete_ #[115, 3] ty #[.map (some m), .int .i64 (k : Int)]).run Try.prog w = .ok (.tuple #[]) w' ∧ MapAt w' m n (delM M k) ∧ w.mapTurned w' m := by
  obtain ⟨D, h1, hsz, h2⟩ := h
  have htd := h1.tidy int_map
  obtain ⟨w', hrun, h3, h4⟩ := h1.drop int_map map_type (Maps.keyOf_int_mk Try.underlying3 (key_wf (k := k) (by omega))) ty
  have hsz2 : Maps.size (D.del (.int .i64 (k : Int))) = cntM (delM M k) n := by
    have e1 := Maps.size_del (k := .int .i64 (k : Int)) htd
    have e2 := cntM_del (M := M) hk
    rw [(h2 k).1] at e1
    omega
  refine ⟨w', hrun, ⟨_, h3, hsz2, fun j => ?_⟩, h4⟩
  unfold delM
  by_cases e : j = k
  · subst e
    rw [if_pos rfl]
    exact ⟨Maps.has_del_same, Maps.atKey_del_same _⟩
  · rw [if_neg e]
    have hne : (Lit.int .i64 (j : Int)) ≠ .int .i64 (k : Int) := fun e9 => e (by have := (Lit.int.inj e9).2; omega)
    exact ⟨(Maps.has_del_other hne).trans (h2 j).1, (Maps.atKey_del_other hne _).trans (h2 j).2⟩
theorem kept_turned (h : w.mapTurned w' m) : Kept w w' [m] := Kept.of_grown h.grown (List.mem_singleton_self _)
end
end Go.Proofs.Ytnmefomipldalaa
/- The hull of spans, as plain mathematics. -/
namespace Go.Proofs.Ytnmefomipldalaa
open Go.RowKit
/-- The span around two. -/
def hullMore (st s : Sp) : Sp := (if s.1 < st.1 then s.1 else st.1, if st.2 < s.2 then s.2 else st.2)
def hullStep (st s : Sp) : Sp := if rightB s = true then hullMore (if rightB st = true then st else s) s else st
def hullS (l : List Sp) : Sp := l.foldl hullStep (0, 0)
end Go.Proofs.Ytnmefomipldalaa
/- The project's Parts of spans. -/
namespace Go.Proofs.Ytnmefomipldalaa
open Go.RowKit

set_option maxRecDepth 100000 in
set_option maxHeartbeats 1000000 in
theorem prParts_any (A : Option Addr) (n c : Nat) (l : List Sp) (m : Int) (w : World) (hr : Rd w 2 A n (cellsS l)) (hn : n ≤ maxLen) :
    Calls Try.prog 42 #[.slice A n c, .int .i64 m] w fun e w' => e = .returned (.bool (partsS l m)) ∧ Below w.heap.size w w' := by
  have hlen : l.length = n := by have := hr.1; rw [cellsS_len] at this; omega
  have HL := Lib.hid hlen
  clear hlen
  unfold maxLen at hn
  go_enter Try.func42, Try.ntmps42
  go_wp2
  go_loopw [5, 10] (fun e i wr => ∃ (k : Nat) (x : Int), k ≤ n ∧ i = .int .i64 k ∧ e = .int .i64 x ∧ partsS l m = partsFrom x (l.drop k) m ∧ Below w.heap.size w wr) (fun _ i _ => n - (intOf i).toNat)
  case atStart => exact ⟨0, 0, Nat.zero_le _, rfl, rfl, rfl, Below.refl _ _⟩
  case round =>
    obtain ⟨k, x, hk, rfl, rfl, hp, hb⟩ := hrel
    have HP := Lib.hid hp
    clear hp
    by_cases hlt : k < n
    · obtain ⟨s, hsk⟩ : ∃ s, l[k]? = some s := ⟨_, List.getElem?_eq_getElem (by rw [HL.out]; exact hlt)⟩
      obtain ⟨ad, rfl, hab, c1, c2⟩ := (hr.below hb).span hsk
      have HD := Lib.hid (dropCons hsk)
      clear hsk
      obtain ⟨lo, hi⟩ := s
      simp only at c1 c2
      go_wp2_with fail
      refine (prRight_any lo hi _).mono ?_
      rintro e w1 ⟨rfl, hb1⟩
      have hb2 := hb.trans ((below_self (below_new wr _) hb1).mono hb.size)
      have d1 : w1.cell? ⟨wr.heap.size, 0, none⟩ = some (.int .i64 lo) := cell_below hb1 (by rw [World.cell?_alloc_at _ _ _ _ rfl]; rfl)
      have d2 : w1.cell? ⟨wr.heap.size, 1, none⟩ = some (.int .i64 hi) := cell_below hb1 (by rw [World.cell?_alloc_at _ _ _ _ rfl]; rfl)
      clear hb1 c1 c2
      cases hr1 : rightB (lo, hi) with
      | false =>
        have HF := Lib.hid (show partsS l m = false by rw [HP.out, HD.out]; exact partsFrom_no (.inl hr1))
        go_wp2
        go_ret
        exact ⟨retB (by simp [HF.out]), hb2⟩
      | true =>
        cases he : (lo == x) with
        | false =>
          have hne : (lo != x) = true := by simpa using he
          have HF := Lib.hid (show partsS l m = false by rw [HP.out, HD.out]; exact partsFrom_no (.inr he))
          go_wp2
          go_ret
          exact ⟨retB (by simp [HF.out]), hb2⟩
        | true =>
          have hne : (lo != x) = false := by simpa using he
          have HF := Lib.hid (show partsS l m = partsFrom hi (l.drop (k + 1)) m by rw [HP.out, HD.out]; exact partsFrom_yes hr1 he)
          go_wp2
          go_roundw
          case rel => exact ⟨k + 1, hi, by omega, by go_num, rfl, HF.out, hb2⟩
          case measure => simp [intOf]; omega
    · have HF := Lib.hid (show partsS l m = (x == m) by rw [HP.out, List.drop_eq_nil_of_le (by rw [HL.out]; omega)]; rfl)
      go_wp2
      go_ret
      exact ⟨retB (by simp [HF.out]), hb⟩
end Go.Proofs.Ytnmefomipldalaa
/- The reference's least and same, on a row of numbers of the caller's own. -/
namespace Go.Proofs.Ytnmefomipldalaa
open Go.RowKit

/-- All from lo on, below k, is v. -/
def setTo (xs : List Int) (lo k : Nat) (v : Int) : List Int := xs.take lo ++ List.replicate (k - lo) v ++ xs.drop k
theorem setTo_len {xs : List Int} {lo k : Nat} (v : Int) (h : lo ≤ k) (hk : k ≤ xs.length) : (setTo xs lo k v).length = xs.length := by
  simp [setTo]; omega
theorem setTo_start (xs : List Int) (lo : Nat) (v : Int) : setTo xs lo lo v = xs := by simp [setTo]
theorem setTo_at {xs : List Int} {lo k : Nat} {x : Int} (v : Int) (h : lo ≤ k) (hx : xs[k]? = some x) : (setTo xs lo k v)[k]? = some x := by
  have hk := (List.getElem?_eq_some_iff.1 hx).1
  have hl : (xs.take lo ++ List.replicate (k - lo) v).length = k := by simp; omega
  unfold setTo
  rw [List.getElem?_append_right (by omega), hl, List.getElem?_drop]
  simpa using hx
theorem setTo_step {xs : List Int} {lo k : Nat} {x : Int} (v : Int) (h : lo ≤ k) (hx : xs[k]? = some x) : (setTo xs lo k v).set k v = setTo xs lo (k + 1) v := by
  have hk := (List.getElem?_eq_some_iff.1 hx).1
  have hl : (xs.take lo ++ List.replicate (k - lo) v).length = k := by simp; omega
  unfold setTo
  rw [List.set_append_right _ _ (by omega), hl, dropCons hx]
  have e : k + 1 - lo = (k - lo) + 1 := by omega
  rw [e, List.replicate_succ']
  simp
theorem setTo_same {xs : List Int} {lo k : Nat} {v : Int} (h : lo ≤ k) (hx : xs[k]? = some v) : setTo xs lo (k + 1) v = setTo xs lo k v := by
  rw [← setTo_step v h hx]
  exact List.set_getElem?_self' (setTo_at v h hx)
where
  List.set_getElem?_self' {l : List Int} {k : Nat} {v : Int} (h : l[k]? = some v) : l.set k v = l := by
    apply List.ext_getElem?
    intro i
    rw [List.getElem?_set]
    split
    · rename_i e; subst e
      have hk := (List.getElem?_eq_some_iff.1 h).1
      rw [if_pos hk]
      exact h.symm
    · rfl
theorem grown_two {a b c : World} {row : Option Nat} (h : a.grownBy b row) (k : b.grownBy c row) : a.grownBy c row :=
  ⟨k.os.trans h.os, k.tape.trans h.tape, k.output.trans h.output, Nat.le_trans h.size k.size, fun i hi hne => (k.block i (Nat.lt_of_lt_of_le hi h.size) hne).trans (h.block i hi hne)⟩
/-- Whether something from lo on, below k, is not v. -/
def changedB (xs : List Int) (lo k : Nat) (v : Int) : Bool := ((xs.drop lo).take (k - lo)).any fun x => x != v
theorem changedB_step {xs : List Int} {lo k : Nat} {x : Int} (v : Int) (h : lo ≤ k) (hx : xs[k]? = some x) : changedB xs lo (k + 1) v = (changedB xs lo k v || (x != v)) := by
  unfold changedB
  have e : k + 1 - lo = (k - lo) + 1 := by omega
  have hd : (xs.drop lo)[k - lo]? = some x := by rw [List.getElem?_drop, show lo + (k - lo) = k by omega]; exact hx
  rw [e, List.take_add_one, hd, List.any_append]
  simp

set_option maxRecDepth 100000 in
set_option maxHeartbeats 2000000 in
theorem refSame_any (base g c n lo hi : Nat) (xs : List Int) (v : Int) (w : World) (hxn : xs.length = n) (hown : w.ownsRow base 3 1 (.slice (some ⟨g, 0, none⟩) n c) n (xs.map (Value.int .i64))) (hbase : base ≤ w.heap.size) (hlh : lo ≤ hi) (hhn : hi ≤ n) (hn : n ≤ 100000000) :
    Calls Try.prog 84 #[.slice (some ⟨g, 0, none⟩) n c, .agg #[.int .i64 (lo : Int), .int .i64 (hi : Int)], .int .i64 v] w fun e w' =>
      e = .returned (.bool (changedB xs lo hi v)) ∧ w'.ownsRow base 3 1 (.slice (some ⟨g, 0, none⟩) n c) n ((setTo xs lo hi v).map (Value.int .i64)) ∧ w.grownBy w' (some g) := by
  have HL := Lib.hid hxn
  clear hxn
  go_enter Try.func84, Try.ntmps84
  go_wp2
  go_loopw [7, 8] (fun b i wr => ∃ k : Nat, lo ≤ k ∧ k ≤ hi ∧ i = .int .i64 k ∧ b = .bool (changedB xs lo k v) ∧ wr.ownsRow base 3 1 (.slice (some ⟨g, 0, none⟩) n c) n ((setTo xs lo k v).map (Value.int .i64)) ∧ wr.cell? ⟨w.heap.size, 1, none⟩ = some (.int .i64 (hi : Int)) ∧ w.grownBy wr (some g) ∧ g < w.heap.size) (fun _ i _ => hi - (intOf i).toNat)
  case atStart =>
    refine ⟨lo, Nat.le_refl _, hlh, rfl, by simp [changedB], by rw [setTo_start]; exact hown.alloc _, by rw [World.cell?_alloc_at _ _ _ _ rfl]; rfl, World.grownBy_alloc _ _ _, (hown.lt g rfl).2⟩
  case round =>
    obtain ⟨k, hlk, hkh, rfl, rfl, hownr, hcb, hgr, hglt⟩ := hrel
    by_cases hlt : k < hi
    · obtain ⟨x, hxk⟩ : ∃ x, xs[k]? = some x := ⟨_, List.getElem?_eq_getElem (by rw [HL.out]; omega)⟩
      have hcx : wr.cell? ⟨g, k, none⟩ = some (.int .i64 x) := by
        rw [hownr.cellAt k (by omega), List.getElem?_map, setTo_at v hlk hxk]; rfl
      have hfx := hownr.frozenAt k
      have HC := Lib.hid (changedB_step v hlk hxk)
      by_cases he : x = v
      · subst he
        have HS := Lib.hid (setTo_same hlk hxk)
        clear hxk
        have HC2 := Lib.hid (show changedB xs lo (k + 1) x = changedB xs lo k x by rw [HC.out]; simp)
        go_wp2
        go_roundw
        case rel => exact ⟨k + 1, by omega, by omega, by go_num, by rw [HC2.out], by rw [HS.out]; exact hownr, hcb, hgr, hglt⟩
        case measure => simp [intOf]; omega
      · have hne : (x != v) = true := by simpa using he
        have hne2 : (x == v) = false := by simpa using he
        have HC2 := Lib.hid (show changedB xs lo (k + 1) v = true by rw [HC.out, hne]; simp)
        have HS := Lib.hid (setTo_step v hlk hxk)
        have hst := hownr.stored k (.int .i64 v)
        rw [← List.map_set] at hst
        have hcb2 : (wr.setCell ⟨g, k, none⟩ (.int .i64 v)).cell? ⟨w.heap.size, 1, none⟩ = some (.int .i64 (hi : Int)) := (World.cell?_setCell_other (h := by first | (simp; done) | (simp; omega)) ..).trans hcb
        have HST := Lib.hid hst
        clear hxk he hst
        go_wp2
        go_roundw
        case rel => exact ⟨k + 1, by omega, by omega, by go_num, by rw [HC2.out], by rw [← HS.out]; exact HST.out.1, hcb2, grown_two hgr HST.out.2, hglt⟩
        case measure => simp [intOf]; omega
    · have HK := Lib.hid (show k = hi by omega)
      go_wp2
      go_ret
      exact ⟨retB (by rw [HK.out]), by rw [← HK.out]; exact hownr, hgr⟩
end Go.Proofs.Ytnmefomipldalaa
