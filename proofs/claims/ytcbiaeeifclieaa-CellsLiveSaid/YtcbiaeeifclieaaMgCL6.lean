/- Texts of one claim, one behind the other. -/
import Derived.Deep.DeepCutAuto
import Derived.Deep.CutBlock
import Derived.Test.YtcbiaeeifclieaaMgCL2
import Derived.Test.YtcbiaeeifclieaaMgCL5
/- cells' Behind of cells that exist, walked. -/
namespace Go.Proofs.Ytcbiaeeifclieaa
open Go.RowKit

section
variable {w : World} {base b gc n : Nat} {R : List RC} {va : Value} {ah : List Int}
/-- What an append onto a cell's codes, and its store, leave. -/
theorem CellsAt.moreR (h : CellsAt w base b gc n R va ah) {i : Nat} {r : RC} (hi : R[i]? = some r) {w1 : World} {v' : Value} {l : List Int} (hg : w.grownBy w1 r.1.ownBlock) (hown : w1.ownsRow base 3 1 v' l.length (l.map (Value.int .i64)))
    (hw : v'.ownBlock = r.1.ownBlock ∨ v'.ownBlock = some w.heap.size) : CellsAt (w1.setCell ⟨gc, i * 2, none⟩ v') base b gc n (R.set i (v', r.2.1, l)) va ah := by
  have hil := (List.getElem?_eq_some_iff.1 hi).1
  have hrow := h.rows i r hi
  have get : ∀ (j : Nat) (s : RC), (R.set i (v', r.2.1, l))[j]? = some s → (j = i ∧ s = (v', r.2.1, l)) ∨ (j ≠ i ∧ R[j]? = some s) := fun j s hs => by
    by_cases e : j = i
    · subst e
      rw [List.getElem?_set_self hil] at hs
      exact .inl ⟨rfl, (Option.some.inj hs).symm⟩
    · rw [List.getElem?_set_ne (fun e9 => e e9.symm)] at hs
      exact .inr ⟨e, hs⟩
  have hb1 : w1.heap[b]? = _ := (hg.block b (hp_lt h.hb) (fun e => own_not hrow h.far.1 e.symm)).trans h.hb
  have hc1 : w1.heap[gc]? = _ := (hg.block gc (hp_lt h.hc) (fun e => own_not hrow h.far.2.1 e.symm)).trans h.hc
  have new_ : ∀ {u : Value} {k : Nat} {xs : List Value}, w.ownsRow base 3 1 u k xs → (r.1.ownBlock = none ∨ r.1.ownBlock ≠ u.ownBlock) → v'.ownBlock = none ∨ v'.ownBlock ≠ u.ownBlock := fun {u k xs} ho hne => by
    rcases hw with e | e
    · rw [e]; exact hne
    · refine .inr fun e2 => ?_
      have := (ho.lt w.heap.size (e2.symm.trans e)).2
      omega
  refine ⟨(hp_far h.far.2.2.1 _ _).trans hb1, ?_, by rw [List.length_set]; exact h.len, fun j s hs => ?_, own_set_far (h.arow.kept hg (ne_swap (h.nea i r hi))) (own_not h.arow h.far.2.1), fun j k s t hjk hs ht => ?_, fun j s hs => ?_, ⟨h.far.1, h.far.2.1, h.far.2.2.1, by have := hg.size; have := h.far.2.2.2; simp only [World.setCell, Array.size_modify]; omega⟩⟩
  · rw [heap_setCell_same w1 gc (i * 2) _ _ v' hc1, List.setIfInBounds_toArray, cellsRC_set hi]
  · rcases get j s hs with ⟨_, rfl⟩ | ⟨hj, hs'⟩
    · exact own_set_far hown (own_not hown h.far.2.1)
    · exact own_set_far ((h.rows j s hs').kept hg (ne_swap (h.ne i j r s (Ne.symm hj) hi hs'))) (own_not (h.rows j s hs') h.far.2.1)
  · rcases get j s hs with ⟨rfl, rfl⟩ | ⟨hj, hs'⟩ <;> rcases get k t ht with ⟨rfl, rfl⟩ | ⟨hk, ht'⟩
    · exact absurd rfl hjk
    · exact new_ (h.rows k t ht') (h.ne _ _ _ _ (Ne.symm hk) hi ht')
    · exact ne_swap (new_ (h.rows j s hs') (h.ne _ _ _ _ (Ne.symm hj) hi hs'))
    · exact h.ne j k s t hjk hs' ht'
  · rcases get j s hs with ⟨_, rfl⟩ | ⟨_, hs'⟩
    · exact new_ h.arow (h.nea i r hi)
    · exact h.nea j s hs'
theorem CellsAt.moreRB (h : CellsAt w base b gc n R va ah) {i : Nat} {r : RC} (hi : R[i]? = some r) {w1 : World} (v' : Value) (hg : w.grownBy w1 r.1.ownBlock) : Below gc w (w1.setCell ⟨gc, i * 2, none⟩ v') := by
  refine ((Below.refl gc w).grown hg (Nat.le_of_lt (hp_lt h.hc)) fun k e => ?_).setCell (p := ⟨gc, i * 2, none⟩) (Nat.le_refl _) v'
  have := (((h.rows i r hi).lt k e).1)
  have := h.far.2.1
  omega
theorem CellsAt.moreRT (h : CellsAt w base b gc n R va ah) {i : Nat} {r : RC} (hi : R[i]? = some r) {w1 : World} (v' : Value) (hg : w.grownBy w1 r.1.ownBlock) : KeepT gc w (w1.setCell ⟨gc, i * 2, none⟩ v') := fun k cs t h1 h2 h3 => by
  refine ((hp_far h1 _ _).trans (hg.block k (hp_lt h3) fun e => ?_)).trans h3
  rcases (h.rows i r hi).2 with ⟨e2, _⟩ | ⟨g, cap, cur, e2, _, hgb, _⟩
  · rw [e2] at e; simp [Value.ownBlock] at e
  · rw [e2] at e
    obtain rfl : k = g := by simpa [Value.ownBlock] using e
    rw [hgb] at h3
    simp at h3
    exact h2 h3.2.symm
end
set_option maxRecDepth 100000 in
set_option maxHeartbeats 2000000 in
theorem behind_cells (base b gc n : Nat) (R : List RC) (va : Value) (ah codes : List Int) (A : Option Addr) (q c : Nat) (w : World) (hC : CellsAt w base b gc n R va ah) (hn0 : 0 < n) (hn : n ≤ 100000000) (hr : Rd w 1 A q (codes.map (Value.int .i64))) (hq : q ≤ 1000000) (hs : lenR R ≤ 1000000) :
    Calls Try.prog 39 #[.pointer (some ⟨b, 0, none⟩), .slice A q c] w fun e W' => e = .returned (.int .i64 0) ∧ (∃ v r, R[n - 1]? = some r ∧ CellsAt W' base b gc n (R.set (n - 1) (v, r.2.1, r.2.2 ++ codes)) va ah ∧ (∀ k, k < w.heap.size ∧ some k ≠ r.1.ownBlock → some k ≠ v.ownBlock) ∧ ∀ k, k < w.heap.size ∧ k ≠ gc ∧ some k ≠ r.1.ownBlock → W'.heap[k]? = w.heap[k]?) ∧ Below gc w W' ∧ KeepT gc w W' := by
  have hlen : codes.length = q := by have := hr.1; rw [List.length_map] at this; omega
  obtain ⟨m, hm, hmi⟩ : ∃ m, n - 1 = m ∧ (n : Int) - 1 = (m : Int) := ⟨n - 1, rfl, by omega⟩
  rw [hm]
  obtain ⟨r, hrm⟩ : ∃ r, R[m]? = some r := ⟨_, List.getElem?_eq_getElem (by rw [hC.len]; omega)⟩
  have hrl : r.2.2.length ≤ lenR R := by
    have h1 := lenR_take hrm
    have h2 := lenR_le R (m + 1)
    omega
  have HAL := Lib.hid (all_any b (some ⟨gc, 0, none⟩) n n w (hp_cell (j := 0) hC.hb rfl))
  have HC := Lib.hid hC
  have HR := Lib.hid hr
  have HRM := Lib.hid hrm
  have HL := Lib.hid hlen
  obtain ⟨Ar, cr, hrv, _⟩ := own_form (hC.rows m r hrm)
  have HRV := Lib.hid hrv
  clear hC hr hrm hlen hrv
  go_enter Try.func39, Try.ntmps39
  go_wp2_with fail
  refine HAL.out.mono ?_
  rintro e w1 ⟨rfl, hb1⟩
  have hb2 := below_new w1 (.cells #[.int .i64 0, .int .i64 (n : Int)] 33)
  have s2 := SpanBlk.new_ w1 0 (n : Int) 33
  obtain ⟨W2, hW2⟩ : ∃ W2, w1.alloc (.cells #[.int .i64 0, .int .i64 (n : Int)] 33) = W2 := ⟨_, rfl⟩
  rw [hW2] at hb2 s2
  obtain ⟨x0, x1, _, _⟩ := s2
  simp only at x0 x1
  have hz2 := below_self hb1 hb2
  clear hb1 hb2
  go_wp2_with fail
  refine (prRight_any 0 (n : Int) W2).mono ?_
  rintro e w3 ⟨rfl, hb3⟩
  rw [show rightB ((0 : Int), (n : Int)) = true by simp [rightB]; omega]
  have y1 := cell_below hb3 x1
  have hz3 := below_self hz2 hb3
  have HC3 := Lib.hid (HC.out.low hz3)
  have HZ3 := Lib.hid hz3
  have d0 := hp_cell (j := 0) HC3.out.hb rfl
  have hmn : (m : Int) < (n : Int) := by omega
  clear hb3 hz2 hz3 x0 x1
  have HM3 := Lib.hid HRM.out
  obtain ⟨rv, re, rl⟩ := r
  simp only at hrl HRV
  have HROW := Lib.hid (HC3.out.rows m _ HRM.out)
  have d1 := (HC3.out.cell HRM.out).1
  have fz := hp_froz HC3.out.hc (m * 2)
  simp only at d1
  rw [HRV.out] at d1
  have HR3 := Lib.hid (HR.out.below HZ3.out)
  go_wp2_with fail
  go_region
  have HC4 := Lib.hid (HC3.out.low (Below.refl _ _).drew)
  have HR4 := Lib.hid (HR3.out.below (Below.refl _ _).drew)
  have HROW4 := Lib.hid (HC4.out.rows m _ HM3.out)
  simp only at HROW4
  rw [HRV.out] at HROW4
  have HGC := Lib.hid (own_not HROW4.out HC4.out.far.2.1)
  have HZ4 := Lib.hid (HZ3.out.trans ((Below.refl w3.heap.size w3).drew.mono HZ3.out.size))
  clear hW2
  go_wp2_with (at_builtin; refine wpList_appR rfl _ _ _ rfl intSliceT (by decide) (.slice Ar rl.length cr) rl.length _ rfl HROW4.out A q c (codes.map (Value.int .i64)) rfl HR4.out (oneInts _ _) (by omega) (by unfold maxLen; omega) HC4.out.far.2.2.2 ?_; intro v5 w5 hown5 hg5 hat5; have HW5 := Lib.hid hat5; obtain ⟨A5, c5, rfl, _⟩ := own_form hown5; have hgc5 := (hg5.block gc (hp_lt HC4.out.hc) (fun e => HGC.out e.symm)).trans HC4.out.hc; have k5 := hp_cell hgc5 (List.getElem?_toArray.trans (cellsRC_at HM3.out).1); have f5 := hp_froz hgc5 (m * 2); have HG5 := Lib.hid hg5; have HO5 := Lib.hid hown5; clear hgc5 hg5 hown5 hat5)
  go_ret
  have hg : w3.drew.grownBy w5 rv.ownBlock := by rw [HRV.out]; exact HG5.out
  have hw : (Value.slice A5 (rl.length + q) c5).ownBlock = rv.ownBlock ∨ (Value.slice A5 (rl.length + q) c5).ownBlock = some w3.drew.heap.size := by rw [HRV.out]; exact HW5.out
  have ho : w5.ownsRow base 3 1 (.slice A5 (rl.length + q) c5) (rl ++ codes).length ((rl ++ codes).map (Value.int .i64)) := by rw [List.length_append, HL.out, List.map_append]; exact HO5.out
  have hfar := HC.out.far
  have hz9 : w.heap.size ≤ w3.drew.heap.size := HZ4.out.size
  have hkk : ∀ k, k < w.heap.size ∧ k ≠ gc ∧ some k ≠ rv.ownBlock → (w5.setCell ⟨gc, m * 2, none⟩ (Value.slice A5 (rl.length + q) c5)).heap[k]? = w.heap[k]? := fun k hk =>
    (hp_far hk.2.1 _ _).trans ((hg.block k (by omega) hk.2.2).trans (HZ4.out.block k hk.1))
  have hvv : ∀ k, k < w.heap.size ∧ some k ≠ rv.ownBlock → some k ≠ (Value.slice A5 (rl.length + q) c5).ownBlock := fun k hk e => by
    rcases hw with h9 | h9
    · exact hk.2 (e.trans h9)
    · have h8 := e.trans h9
      have h7 : k = w3.drew.heap.size := by simpa using h8
      omega
  exact ⟨rfl, ⟨_, rv, re, rl, HM3.out, HC4.out.moreR HM3.out hg ho hw, fun k h1 h2 => hvv k ⟨h1, h2⟩, fun k h1 h2 h3 => hkk k ⟨h1, h2, h3⟩⟩, (HZ4.out.mono (by omega)).trans (HC4.out.moreRB HM3.out _ hg), (KeepT.of_below HZ4.out).trans (HC4.out.moreRT HM3.out _ hg)⟩
end Go.Proofs.Ytcbiaeeifclieaa
