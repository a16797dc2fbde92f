/- Texts of one claim, one behind the other. -/
import Derived.Deep.RegionLaw
import Derived.Deep.DeepCutAuto
import Derived.Deep.CutBlock
import Derived.Test.YtcbiaeeifclieaaMgCL1
import Derived.Test.YtcbiaeeifclieaaMgCL2
import Derived.Test.YtcbiaeeifclieaaMgCL15
import Derived.Test.YtcbiaeeifclieaaMgCL16
import Derived.Test.YtcbiaeeifclieaaMgCL19
import Derived.Test.YtcbiaeeifclieaaMgCL20
import Derived.Test.YtcbiaeeifclieaaMgCL24
import Derived.Test.YtcbiaeeifclieaaMgCL25
/- CellsMap's calls: what the cells, and the spans that were joined, are between them. -/
namespace Go.Proofs.Ytcbiaeeifclieaa
open Go.RowKit

theorem lenR_setLe : ∀ (R : List RC) (i : Nat) (r : RC), lenR (R.set i r) ≤ lenR R + r.2.2.length
  | [], i, r => by simp [lenR]
  | s :: R, 0, r => by simp [lenR, List.sum_cons]; omega
  | s :: R, i + 1, r => by
    have := lenR_setLe R i r
    simp only [lenR, List.set_cons_succ, List.map_cons, List.sum_cons] at this ⊢
    omega
/-- Each end lies within the text; what was joined lies behind its first cell's end. -/
def EndsM (n : Nat) (R : List RC) (J : List Sp) : Prop := (∀ (i : Nat) (r : RC), R[i]? = some r → r.2.1 ≤ (n : Int)) ∧ ∀ s ∈ J, 0 ≤ s.1 ∧ s.1 < s.2 ∧ s.2 ≤ (n : Int) ∧ ∃ r, R[s.1.toNat]? = some r ∧ s.2 ≤ r.2.1
theorem EndsM.set {n : Nat} {R : List RC} {J : List Sp} (h : EndsM n R J) {i : Nat} {r : RC} (hr : R[i]? = some r) {v : Value} {e : Int} {l : List Int} (he : r.2.1 ≤ e) (hn : e ≤ n) : EndsM n (R.set i (v, e, l)) J := by
  have hil := (List.getElem?_eq_some_iff.1 hr).1
  refine ⟨fun j s hs => ?_, fun s hs => ?_⟩
  · by_cases hj : j = i
    · subst hj
      rw [List.getElem?_set_self hil] at hs
      obtain rfl := Option.some.inj hs
      exact hn
    · rw [List.getElem?_set_ne (fun e9 => hj e9.symm)] at hs
      exact h.1 j s hs
  · obtain ⟨h1, h2, h3, q, h4, h5⟩ := h.2 s hs
    refine ⟨h1, h2, h3, ?_⟩
    by_cases hj : s.1.toNat = i
    · rw [hj] at h4 ⊢
      rw [hr] at h4
      obtain rfl := Option.some.inj h4
      exact ⟨_, List.getElem?_set_self hil, Int.le_trans h5 he⟩
    · exact ⟨q, by rw [List.getElem?_set_ne (fun e9 => hj e9.symm)]; exact h4, h5⟩
theorem own_keptT {w w' : World} {base : Nat} {e : TypeId} {size n : Nat} {v : Value} {xs : List Value} {S : List Nat} (h : w.ownsRow base e size v n xs) (hk : Kept w w' S) (hs : ∀ x ∈ S, ∃ cs t, t ≠ e ∧ w.heap[x]? = some (.cells cs t (0, 0))) : w'.ownsRow base e size v n xs :=
  ⟨h.1, h.2.imp id fun ⟨g, cap, cur, e1, hb, hg, r⟩ => ⟨g, cap, cur, e1, hb, hk.heap hg (fun hm => by
    obtain ⟨cs, t, ht, hc⟩ := hs g hm
    rw [hg] at hc
    simp at hc
    exact ht hc.2.symm), r⟩⟩
structure MSt (w0 w : World) (b gc n k : Nat) (v8 : Value) (Jo Jn : List Sp) : Prop where
  ex : ∃ base R va ah, CellsAt w base b gc n R va ah ∧ ah.length + lenR R ≤ 4 * k ∧ EndsM n R Jn
  out : w.ownsRow w0.heap.size 33 2 v8 Jo.length (cellsS Jo)
  low : Below w0.heap.size w0 w
  far : w0.heap.size ≤ b ∧ w0.heap.size ≤ gc
section
variable {w0 w w' : World} {b gc n k : Nat} {v8 : Value} {Jo Jn : List Sp}
theorem MSt.lower (h : MSt w0 w b gc n k v8 Jo Jn) (hb : Below w.heap.size w w') : MSt w0 w' b gc n k v8 Jo Jn := by
  obtain ⟨base, R, va, ah, h1, h2, h3⟩ := h.ex
  exact ⟨⟨base, R, va, ah, h1.low hb, h2, h3⟩, own_below h.out hb, h.low.trans (hb.mono h.low.size), h.far⟩
theorem MSt.next (h : MSt w0 w b gc n k v8 Jo Jn) : MSt w0 w b gc n (k + 1) v8 Jo Jn := by
  obtain ⟨base, R, va, ah, h1, h2, h3⟩ := h.ex
  exact ⟨⟨base, R, va, ah, h1, by omega, h3⟩, h.out, h.low, h.far⟩
theorem MSt.types {base : Nat} {R : List RC} {va : Value} {ah : List Int} (h : CellsAt w base b gc n R va ah) : ∀ x ∈ [b, gc], ∃ cs t, t ≠ 33 ∧ w.heap[x]? = some (.cells cs t (0, 0)) := fun x hx => by
  rcases List.mem_cons.1 hx with rfl | hx
  · exact ⟨_, _, by decide, h.hb⟩
  · obtain rfl := List.mem_singleton.1 hx
    exact ⟨_, _, by decide, h.hc⟩
theorem MSt.kept (h : MSt w0 w b gc n k v8 Jo Jn) (hk : Kept w w' [b, gc]) {Jn' : List Sp} (hex : ∃ base R va ah, CellsAt w' base b gc n R va ah ∧ ah.length + lenR R ≤ 4 * (k + 1) ∧ EndsM n R Jn') : MSt w0 w' b gc n (k + 1) v8 Jo Jn' := by
  obtain ⟨base, R, va, ah, h1, h2, h3⟩ := h.ex
  refine ⟨hex, own_keptT h.out hk (MSt.types h1), hk.lower h.low h.low.size (fun x hx => ?_), h.far⟩
  rcases List.mem_cons.1 hx with rfl | hx
  · exact h.far.1
  · obtain rfl := List.mem_singleton.1 hx
    exact h.far.2
theorem mset_step (i : Int) (A : Option Addr) (q c : Nat) (codes : List Int) (h : MSt w0 w b gc n k v8 Jo Jn) (hn : n ≤ 1000) (hr : Rd w 1 A q (codes.map (Value.int .i64))) (hq : q ≤ 4) :
    Calls Try.prog 34 #[.pointer (some ⟨b, 0, none⟩), .int .i64 i, .slice A q c] w fun e w' => (∃ er, e = .returned (.int .i64 er)) ∧ MSt w0 w' b gc n (k + 1) v8 Jo Jn := by
  obtain ⟨base, R, va, ah, h1, h2, h3⟩ := h.ex
  have hlen : codes.length = q := by have := hr.1; rw [List.length_map] at this; omega
  by_cases hi : 0 ≤ i ∧ i < n
  · obtain ⟨j, rfl⟩ := Int.eq_ofNat_of_zero_le hi.1
    refine (set_keeps base b gc n j R va ah codes A q c w h1 (by omega) hr (by omega) (by omega)).mono ?_
    rintro e w' ⟨rfl, ⟨v, r, hrj, hC, _⟩, hk⟩
    refine ⟨⟨_, rfl⟩, h.kept hk ⟨base, _, _, _, hC, ?_, h3.set hrj (Int.le_refl _) (h3.1 _ _ hrj)⟩⟩
    have := lenR_setLe R j (v, r.2.1, codes)
    simp only [hlen] at this
    split <;> (try simp only [List.length_nil]) <;> omega
  · refine (set_out base b gc n R va ah i A q c w h1 hi).mono ?_
    rintro e w' ⟨rfl, hb⟩
    exact ⟨⟨_, rfl⟩, (h.lower hb).next⟩
theorem mahead_step (A : Option Addr) (q c : Nat) (codes : List Int) (h : MSt w0 w b gc n k v8 Jo Jn) (hn : n ≤ 1000) (hk40 : k ≤ 40) (hr : Rd w 1 A q (codes.map (Value.int .i64))) (hq : q ≤ 4) (hA : ∀ ad, A = some ad → 0 < q → ad.block < w0.heap.size) :
    Calls Try.prog 37 #[.pointer (some ⟨b, 0, none⟩), .slice A q c] w fun e w' => (∃ er, e = .returned (.int .i64 er)) ∧ MSt w0 w' b gc n (k + 1) v8 Jo Jn := by
  obtain ⟨base, R, va, ah, h1, h2, h3⟩ := h.ex
  have hlen : codes.length = q := by have := hr.1; rw [List.length_map] at this; omega
  have hfar := h.far
  rcases Nat.eq_zero_or_pos n with rfl | hn0
  · refine (ahead_zero base b gc R va ah A q c w h1).mono ?_
    rintro e w' ⟨rfl, hb⟩
    exact ⟨⟨_, rfl⟩, (h.lower hb).next⟩
  · refine (ahead_cells base b gc n R va ah codes A q c w h1 hn0 (by omega) hr (by omega) (fun ad e h0 => by have := hA ad e h0; omega) (by omega)).mono ?_
    rintro e w' ⟨rfl, ⟨va', hC⟩, hb, hkt⟩
    refine ⟨⟨_, rfl⟩, ⟨base, R, va', _, hC, by rw [List.length_append, List.length_reverse]; omega, h3⟩, ⟨h.out.1, h.out.2.imp id fun ⟨g, cap, cur, e1, hb1, hg, r⟩ => ⟨g, cap, cur, e1, hb1, hkt g _ _ (fun e => ?_) (by decide) hg, r⟩⟩, h.low.trans (hb.mono hfar.1), h.far⟩
    subst e
    have := h1.hb
    rw [hg] at this
    simp at this
theorem mjoin_step (lo hi : Int) (h : MSt w0 w b gc n k v8 Jo Jn) (hn : n ≤ 1000) :
    Calls Try.prog 41 #[.pointer (some ⟨b, 0, none⟩), .agg #[.int .i64 lo, .int .i64 hi]] w fun e w' =>
      ((e = .returned (.int .i64 0) ∧ MSt w0 w' b gc n (k + 1) v8 Jo (Jn ++ [(lo, hi)])) ∨ (e = .returned (.int .i64 1) ∧ MSt w0 w' b gc n (k + 1) v8 Jo Jn)) ∧ Kept w w' [b, gc] := by
  obtain ⟨base, R, va, ah, h1, h2, h3⟩ := h.ex
  refine (join_keeps base b gc n R va ah lo hi w h1 (by omega)).mono ?_
  rintro e w' ⟨⟨_, rfl, hC⟩ | ⟨hs, rfl, r, hr, hC⟩, hk⟩
  · refine ⟨?_, hk⟩
    exact .inr ⟨rfl, h.kept hk ⟨base, R, va, ah, hC, by omega, h3⟩⟩
  · have hil := (List.getElem?_eq_some_iff.1 hr).1
    have h4 := h3.set (v := r.1) (e := max r.2.1 hi) (l := r.2.2) hr (Int.le_max_left _ _) (Int.max_le.2 ⟨h3.1 _ _ hr, hs.2.2⟩)
    refine ⟨?_, hk⟩
    refine .inl ⟨rfl, h.kept hk ⟨base, _, va, ah, hC, ?_, h4.1, fun s hs2 => ?_⟩⟩
    · have hl : lenR (R.set lo.toNat (r.1, max r.2.1 hi, r.2.2)) = lenR R := by
        unfold lenR
        rw [List.map_set]
        congr 1
        refine List.ext_getElem? fun j => ?_
        by_cases hj : j = lo.toNat
        · subst hj; rw [List.getElem?_set_self (by simpa using hil), List.getElem?_map, hr]; rfl
        · rw [List.getElem?_set_ne (fun e9 => hj e9.symm)]
      omega
    · rcases List.mem_append.1 hs2 with hs2 | hs2
      · exact h4.2 s hs2
      · obtain rfl := List.mem_singleton.1 hs2
        exact ⟨hs.1, hs.2.1, hs.2.2, _, List.getElem?_set_self hil, Int.le_max_right _ _⟩
/-- Cells lie behind a write to a block of another type, and behind new ones. -/
theorem CellsAt.other {base : Nat} {R : List RC} {va : Value} {ah : List Int} (h : CellsAt w base b gc n R va ah) {row : Option Nat} (hg : w.grownBy w' row) (hr : ∀ r, row = some r → ∃ cs, w.heap[r]? = some (.cells cs 33 (0, 0))) : CellsAt w' base b gc n R va ah := by
  have hne : ∀ {k : Nat} {cs : Array Value} {t : TypeId}, t ≠ 33 → w.heap[k]? = some (.cells cs t (0, 0)) → some k ≠ row := fun {k cs t} ht hk e => by
    obtain ⟨cs', hc⟩ := hr k e.symm
    rw [hk] at hc
    simp at hc
    exact ht hc.2
  have hown : ∀ {v : Value} {k : Nat} {xs : List Value}, w.ownsRow base 3 1 v k xs → w'.ownsRow base 3 1 v k xs := fun {v k xs} ho => by
    refine ho.kept hg ?_
    rcases ho.2 with ⟨rfl, _⟩ | ⟨g', cap, cur, rfl, _, hgb, _⟩
    · exact .inl rfl
    · exact .inr fun e => hne (by decide) hgb (by simpa [Value.ownBlock] using e)
  exact ⟨(hg.block b (hp_lt h.hb) (hne (by decide) h.hb)).trans h.hb, (hg.block gc (hp_lt h.hc) (hne (by decide) h.hc)).trans h.hc, h.len, fun i r hi => hown (h.rows i r hi), hown h.arow, h.ne, h.nea, ⟨h.far.1, h.far.2.1, h.far.2.2.1, Nat.le_trans h.far.2.2.2 hg.size⟩⟩
/-- What was joined is appended to those that were. -/
theorem MSt.grown (h : MSt w0 w b gc n k v8 Jo Jn) {v9 : Value} {J9 : List Sp} (hg : w.grownBy w' v8.ownBlock) (hown : w'.ownsRow w0.heap.size 33 2 v9 J9.length (cellsS J9)) : MSt w0 w' b gc n k v9 J9 Jn := by
  obtain ⟨base, R, va, ah, h1, h2, h3⟩ := h.ex
  refine ⟨⟨base, R, va, ah, h1.other hg (fun r e => ?_), h2, h3⟩, hown, h.low.grown hg h.low.size (fun j e => (h.out.lt j e).1), h.far⟩
  rcases h.out.2 with ⟨e2, _⟩ | ⟨g, cap, cur, e2, _, hgb, _⟩
  · rw [e2] at e; simp [Value.ownBlock] at e
  · rw [e2] at e
    obtain rfl : g = r := by simpa [Value.ownBlock] using e
    exact ⟨_, hgb⟩
end
end Go.Proofs.Ytcbiaeeifclieaa
/- Cells of the program beside those of the reference: where both lie, and that their codes are the same. -/
namespace Go.Proofs.Ytcbiaeeifclieaa
open Go.RowKit

theorem own_heap {w w' : World} {base : Nat} {e : TypeId} {size n : Nat} {v : Value} {xs : List Value} (h : w.ownsRow base e size v n xs) (hk : ∀ g, v.ownBlock = some g → w'.heap[g]? = w.heap[g]?) : w'.ownsRow base e size v n xs :=
  ⟨h.1, h.2.imp id fun ⟨g, cap, cur, e1, hb, hg, r⟩ => ⟨g, cap, cur, e1, hb, (hk g (by rw [e1]; rfl)).trans hg, r⟩⟩
theorem own_type {w : World} {base : Nat} {e : TypeId} {size n : Nat} {v : Value} {xs : List Value} (h : w.ownsRow base e size v n xs) {g : Nat} (hg : v.ownBlock = some g) : ∃ cs, w.heap[g]? = some (.cells cs e (0, 0)) := by
  rcases h.2 with ⟨rfl, _⟩ | ⟨g', cap, cur, rfl, _, hgb, _⟩
  · simp [Value.ownBlock] at hg
  · obtain rfl : g' = g := by simpa [Value.ownBlock] using hg
    exact ⟨_, hgb⟩
/-- The blocks in which the program's codes lie. -/
def RowB (R : List RC) (va : Value) (k : Nat) : Prop := va.ownBlock = some k ∨ ∃ (i : Nat) (r : RC), R[i]? = some r ∧ r.1.ownBlock = some k
def RowQ (Q : List Value) (k : Nat) : Prop := ∃ (i : Nat) (v : Value), Q[i]? = some v ∧ v.ownBlock = some k
theorem RowB.set {R : List RC} {va va' : Value} {i : Nat} {x : RC} {k : Nat} (h : RowB (R.set i x) va' k) : va'.ownBlock = some k ∨ x.1.ownBlock = some k ∨ RowB R va k := by
  rcases h with h | ⟨j, r, hj, hr⟩
  · exact .inl h
  · by_cases e : i = j
    · subst e
      rw [List.getElem?_set] at hj
      split at hj
      · split at hj
        · obtain rfl := Option.some.inj hj
          exact .inr (.inl hr)
        · cases hj
      · exact .inr (.inr (.inr ⟨_, r, hj, hr⟩))
    · rw [List.getElem?_set_ne e] at hj
      exact .inr (.inr (.inr ⟨j, r, hj, hr⟩))
theorem RowQ.set {Q : List Value} {i : Nat} {x : Value} {k : Nat} (h : RowQ (Q.set i x) k) : x.ownBlock = some k ∨ RowQ Q k := by
  obtain ⟨j, v, hj, hv⟩ := h
  rw [List.getElem?_set] at hj
  split at hj
  · split at hj
    · obtain rfl := Option.some.inj hj
      exact .inl hv
    · cases hj
  · exact .inr ⟨j, v, hj, hv⟩
section
variable {w w' : World} {base b gc n bs2 bR gl : Nat} {R : List RC} {va : Value} {ah : List Int} {Q : List Value} {L : List (List Int)} {J : Value} {Js : List Sp}
theorem CellsAt.rowB (h : CellsAt w base b gc n R va ah) {k : Nat} (hk : RowB R va k) : (∃ cs, w.heap[k]? = some (.cells cs 3 (0, 0))) ∧ base ≤ k := by
  rcases hk with hk | ⟨i, r, hi, hk⟩
  · exact ⟨own_type h.arow hk, (h.arow.lt k hk).1⟩
  · exact ⟨own_type (h.rows i r hi) hk, ((h.rows i r hi).lt k hk).1⟩
theorem RCAt.rowQ (h : RCAt w bs2 bR gl n Q L J) {k : Nat} (hk : RowQ Q k) : (∃ cs, w.heap[k]? = some (.cells cs 3 (0, 0))) ∧ bs2 ≤ k := by
  obtain ⟨i, v, hi, hk⟩ := hk
  have hil := (List.getElem?_eq_some_iff.1 hi).1
  obtain ⟨l, hl⟩ : ∃ l, L[i]? = some l := ⟨_, List.getElem?_eq_getElem (by rw [h.len, ← h.lenQ]; exact hil)⟩
  exact ⟨own_type (h.rows i v l hi hl) hk, ((h.rows i v l hi hl).lt k hk).1⟩
theorem CellsAt.heap (h : CellsAt w base b gc n R va ah) (hz : w.heap.size ≤ w'.heap.size) (hk : ∀ k, k = b ∨ k = gc ∨ RowB R va k → w'.heap[k]? = w.heap[k]?) : CellsAt w' base b gc n R va ah :=
  ⟨(hk _ (.inl rfl)).trans h.hb, (hk _ (.inr (.inl rfl))).trans h.hc, h.len, fun i r hi => own_heap (h.rows i r hi) fun g hg => hk g (.inr (.inr (.inr ⟨i, r, hi, hg⟩))), own_heap h.arow fun g hg => hk g (.inr (.inr (.inl hg))), h.ne, h.nea, ⟨h.far.1, h.far.2.1, h.far.2.2.1, Nat.le_trans h.far.2.2.2 hz⟩⟩
theorem RCAt.heap (h : RCAt w bs2 bR gl n Q L J) (hz : w.heap.size ≤ w'.heap.size) (hk : ∀ k, k = bR ∨ k = gl ∨ RowQ Q k → w'.heap[k]? = w.heap[k]?) : RCAt w' bs2 bR gl n Q L J :=
  ⟨(hk _ (.inl rfl)).trans h.hb, (hk _ (.inr (.inl rfl))).trans h.hl, h.lenQ, h.len, fun i v l hi hl => own_heap (h.rows i v l hi hl) fun g hg => hk g (.inr (.inr ⟨i, v, hi, hg⟩)), ⟨h.far.1, h.far.2.1, h.far.2.2.1, Nat.le_trans h.far.2.2.2 hz⟩⟩
end
/-- Both, side by side: no block of codes is of both. -/
structure Sep (w : World) (base b gc n bs2 bR gl : Nat) (R : List RC) (va : Value) (ah : List Int) (Q : List Value) (L : List (List Int)) (J : Value) (Js : List Sp) : Prop where
  p : CellsAt w base b gc n R va ah
  q : RCAt w bs2 bR gl n Q L J
  j : w.ownsRow bs2 33 2 J Js.length (cellsS Js)
  d : ∀ k, RowB R va k → ¬ RowQ Q k
section
variable {w w' : World} {base b gc n bs2 bR gl : Nat} {R R' : List RC} {va va' : Value} {ah ah' : List Int} {Q Q' : List Value} {L L' : List (List Int)} {J J' : Value} {Js Js' : List Sp}
theorem blk_ne {k g : Nat} {cs cs' : Array Value} {t t' : TypeId} (h : w.heap[k]? = some (.cells cs t (0, 0))) (h' : w.heap[g]? = some (.cells cs' t' (0, 0))) (ht : t ≠ t') : k ≠ g := by
  rintro rfl
  rw [h] at h'
  simp at h'
  exact ht h'.2
theorem Sep.low (h : Sep w base b gc n bs2 bR gl R va ah Q L J Js) (hb : Below w.heap.size w w') : Sep w' base b gc n bs2 bR gl R va ah Q L J Js :=
  ⟨h.p.low hb, h.q.low hb, own_below h.j hb, h.d⟩
/-- A step of the program. -/
theorem Sep.prog (h : Sep w base b gc n bs2 bR gl R va ah Q L J Js) (hC : CellsAt w' base b gc n R' va' ah') (hz : w.heap.size ≤ w'.heap.size) (hnew : ∀ k, k < w.heap.size → RowB R' va' k → RowB R va k)
    (hkeep : ∀ k, k < w.heap.size → k ≠ b → k ≠ gc → ¬ RowB R va k → w'.heap[k]? = w.heap[k]?) : Sep w' base b gc n bs2 bR gl R' va' ah' Q L J Js := by
  have hk : ∀ (k : Nat) (cs : Array Value) (t : TypeId), w.heap[k]? = some (.cells cs t (0, 0)) → t ≠ 66 → t ≠ 97 → (t = 3 → ¬ RowB R va k) → w'.heap[k]? = w.heap[k]? := fun k cs t hk h1 h2 h3 =>
    hkeep k (hp_lt hk) (blk_ne hk h.p.hb h1) (blk_ne hk h.p.hc h2) fun hr => by
      obtain ⟨cs', hc'⟩ := (h.p.rowB hr).1
      have : t = 3 := by rw [hk] at hc'; simp at hc'; exact hc'.2
      exact h3 this hr
  refine ⟨hC, h.q.heap hz fun k hk' => ?_, own_heap h.j fun g hg => ?_, fun k hr hq => ?_⟩
  · rcases hk' with rfl | rfl | hq
    · exact hk _ _ _ h.q.hb (by decide) (by decide) (fun e => absurd e (by decide))
    · exact hk _ _ _ h.q.hl (by decide) (by decide) (fun e => absurd e (by decide))
    · obtain ⟨cs, hc⟩ := (h.q.rowQ hq).1
      exact hk _ _ _ hc (by decide) (by decide) (fun _ hr => h.d k hr hq)
  · obtain ⟨cs, hc⟩ := own_type h.j hg
    exact hk _ _ _ hc (by decide) (by decide) (fun e => absurd e (by decide))
  · obtain ⟨cs, hc⟩ := (h.q.rowQ hq).1
    exact h.d k (hnew k (hp_lt hc) hr) hq
/-- A step of the reference. -/
theorem Sep.ref (h : Sep w base b gc n bs2 bR gl R va ah Q L J Js) (hq : RCAt w' bs2 bR gl n Q' L' J') (hj : w'.ownsRow bs2 33 2 J' Js'.length (cellsS Js')) (hnew : ∀ k, k < w.heap.size → RowQ Q' k → RowQ Q k) (hkeep : Kept w w' [bR, gl]) : Sep w' base b gc n bs2 bR gl R va ah Q' L' J' Js' := by
  have hk : ∀ (k : Nat) (cs : Array Value) (t : TypeId), w.heap[k]? = some (.cells cs t (0, 0)) → t ≠ 69 → t ≠ 31 → w'.heap[k]? = w.heap[k]? := fun k cs t hk h1 h2 =>
    hkeep.block k (hp_lt hk) (by
      simp only [List.mem_cons, List.not_mem_nil, or_false, not_or]
      exact ⟨blk_ne hk h.q.hb h1, blk_ne hk h.q.hl h2⟩)
  refine ⟨h.p.heap hkeep.size fun k hk' => ?_, hq, hj, fun k hr hq' => ?_⟩
  · rcases hk' with rfl | rfl | hr
    · exact hk _ _ _ h.p.hb (by decide) (by decide)
    · exact hk _ _ _ h.p.hc (by decide) (by decide)
    · obtain ⟨cs, hc⟩ := (h.p.rowB hr).1
      exact hk _ _ _ hc (by decide) (by decide)
  · obtain ⟨cs, hc⟩ := (h.p.rowB hr).1
    exact h.d k hr (hnew k (hp_lt hc) hq')
/-- A write to a block of neither. -/
theorem Sep.set (h : Sep w base b gc n bs2 bR gl R va ah Q L J Js) {g : Nat} {cs : Array Value} (hg : w.heap[g]? = some (.cells cs 3 (0, 0))) (h1 : ¬ RowB R va g) (h2 : ¬ RowQ Q g) (i : Nat) (u : Value) : Sep (w.setCell ⟨g, i, none⟩ u) base b gc n bs2 bR gl R va ah Q L J Js := by
  have hz : w.heap.size ≤ (w.setCell ⟨g, i, none⟩ u).heap.size := by simp [World.setCell]
  refine ⟨h.p.heap hz fun k hk => hp_far ?_ _ _, h.q.heap hz fun k hk => hp_far ?_ _ _, own_heap h.j fun k hk => hp_far ?_ _ _, h.d⟩
  · rcases hk with rfl | rfl | hr
    · exact blk_ne h.p.hb hg (by decide)
    · exact blk_ne h.p.hc hg (by decide)
    · rintro rfl; exact h1 hr
  · rcases hk with rfl | rfl | hr
    · exact blk_ne h.q.hb hg (by decide)
    · exact blk_ne h.q.hl hg (by decide)
    · rintro rfl; exact h2 hr
  · obtain ⟨cs', hc⟩ := own_type h.j hk
    exact blk_ne hc hg (by decide)
end
/-- List i of the reference is what cell i has. -/
def RelL (R : List RC) (ah : List Int) (L : List (List Int)) : Prop := L.length = R.length ∧ ∀ (i : Nat) (r : RC), R[i]? = some r → L[i]? = some ((if i = 0 then ah.reverse else []) ++ r.2.2)
section
variable {R : List RC} {ah : List Int} {L : List (List Int)}
theorem RelL.new_ (n : Nat) (r : RC) (hr : r.2.2 = []) : RelL (List.replicate n r) [] (List.replicate n []) :=
  ⟨by simp, fun i s hs => by
    rw [List.getElem?_replicate] at hs ⊢
    split at hs
    · rename_i h
      obtain rfl := Option.some.inj hs
      rw [if_pos h, hr]
      simp
    · cases hs⟩
theorem RelL.set (h : RelL R ah L) {i : Nat} {r : RC} (hr : R[i]? = some r) (x : RC) {ah' l l' : List Int} (hl : l' = (if i = 0 then ah'.reverse else []) ++ x.2.2) (ha : i ≠ 0 → ah' = ah) : RelL (R.set i x) ah' (L.set i l') := by
  have hil := (List.getElem?_eq_some_iff.1 hr).1
  refine ⟨by rw [List.length_set, List.length_set]; exact h.1, fun j s hs => ?_⟩
  by_cases e : i = j
  · subst e
    rw [List.getElem?_set_self hil] at hs
    obtain rfl := Option.some.inj hs
    rw [List.getElem?_set_self (by rw [h.1]; exact hil), hl]
  · rw [List.getElem?_set_ne e] at hs ⊢
    rw [h.2 j s hs]
    by_cases hj : j = 0
    · subst hj
      rw [ha e]
    · rw [if_neg hj, if_neg hj]
theorem partR_one {i : Nat} {r : RC} (hr : R[i]? = some r) : partR R i (i + 1) = [r] := by
  unfold partR
  rw [dropCons hr, Nat.add_sub_cancel_left]
  rfl
theorem RelL.told (h : RelL R ah L) {i : Nat} {l : List Int} (hl : L[i]? = some l) : l = toldR R ah i (i + 1) ∧ l.length = cntR R ah i (i + 1) := by
  have hil := (List.getElem?_eq_some_iff.1 hl).1
  obtain ⟨r, hr⟩ : ∃ r, R[i]? = some r := ⟨_, List.getElem?_eq_getElem (by rw [← h.1]; exact hil)⟩
  have h1 := h.2 i r hr
  rw [hl] at h1
  obtain rfl := Option.some.inj h1
  have h2 : (if i = 0 then ah.reverse else []) ++ r.2.2 = toldR R ah i (i + 1) := by
    unfold toldR
    rw [partR_one hr]
    simp [codesR]
  exact ⟨h2, by rw [h2, toldR_len]⟩
theorem RelL.flat (h : RelL R ah L) (hn : 0 < R.length) : L.flatten = toldR R ah 0 R.length := by
  have key : ∀ k, k + 1 ≤ R.length → (L.take (k + 1)).flatten = toldR R ah 0 (k + 1) := fun k => by
    induction k with
    | zero =>
      intro hk
      obtain ⟨l, hl⟩ : ∃ l, L[0]? = some l := ⟨_, List.getElem?_eq_getElem (by rw [h.1]; omega)⟩
      rw [flat_take hl, (h.told hl).1]
      simp
    | succ k ih =>
      intro hk
      obtain ⟨l, hl⟩ : ∃ l, L[k + 1]? = some l := ⟨_, List.getElem?_eq_getElem (by rw [h.1]; omega)⟩
      obtain ⟨r, hr⟩ : ∃ r, R[k + 1]? = some r := ⟨_, List.getElem?_eq_getElem (by omega)⟩
      rw [flat_take hl, ih (by omega), (h.told hl).1]
      unfold toldR
      rw [if_pos rfl, if_neg (by omega), partR_one hr, List.nil_append, List.append_assoc]
      congr 1
      unfold partR
      rw [List.drop_zero, Nat.sub_zero, Nat.sub_zero, codesR_take hr]
      simp [codesR]
  obtain ⟨k, hk⟩ : ∃ k, R.length = k + 1 := ⟨R.length - 1, by omega⟩
  have := key k (by omega)
  rw [← hk] at this
  rw [← this, List.take_of_length_le (by rw [h.1]; exact Nat.le_refl _)]
theorem RelL.none (h : RelL R ah L) (hn : R.length = 0) : L = [] := List.eq_nil_of_length_eq_zero (by rw [h.1, hn])
theorem RelL.small (h : RelL R ah L) : L.flatten.length ≤ ah.length + lenR R := by
  rcases Nat.eq_zero_or_pos R.length with h0 | h0
  · rw [h.none h0]; simp
  · rw [h.flat h0, toldR_len]
    exact cntR_le R ah 0 R.length
end
end Go.Proofs.Ytcbiaeeifclieaa
/- CellsLive's calls, of the program and of the reference: what both are between them. -/
namespace Go.Proofs.Ytcbiaeeifclieaa
open Go.RowKit

theorem set_same {α : Type} {l : List α} {i : Nat} {x : α} (h : l[i]? = some x) : l.set i x = l := by
  apply List.ext_getElem?
  intro j
  by_cases e : i = j
  · subst e; rw [List.getElem?_set_self (List.getElem?_eq_some_iff.1 h).1, h]
  · rw [List.getElem?_set_ne e]
theorem lenR_setC : ∀ (R : List RC) (i : Nat) {r : RC} (_ : R[i]? = some r) (s : RC), lenR (R.set i s) + r.2.2.length = lenR R + s.2.2.length
  | [], _, _, h, _ => by simp at h
  | t :: R, 0, r, h, s => by
    simp at h
    subst h
    simp [lenR, List.sum_cons]
    omega
  | t :: R, i + 1, r, h, s => by
    have := lenR_setC R i (r := r) (by simpa using h) s
    simp only [lenR, List.set_cons_succ, List.map_cons, List.sum_cons] at this ⊢
    omega
/-- Blocks that no call writes. -/
def Free (w : World) (b gc bR gl : Nat) (R : List RC) (va : Value) (Q : List Value) (x : Nat) : Prop := x < w.heap.size ∧ x ≠ b ∧ x ≠ gc ∧ x ≠ bR ∧ x ≠ gl ∧ ¬ RowB R va x ∧ ¬ RowQ Q x
/-- Both states; of the reference's lists and spans, what they will be is the program's. -/
structure LS (w0 w : World) (b gc n bR gl k : Nat) (F : List Nat) (upd : List (List Int) → List (List Int)) (updJ : List Sp → List Sp) : Prop where
  ex : ∃ base bs2 R va ah Q L J Js, Sep w base b gc n bs2 bR gl R va ah Q L J Js ∧ RelL R ah (upd L) ∧ TightJ n R (updJ Js) ∧ (∀ (i : Nat) (r : RC), R[i]? = some r → r.2.1 ≤ (n : Int)) ∧ ah.length + lenR R ≤ 4 * k ∧ (updJ Js).length ≤ k ∧ ∀ x ∈ F, Free w b gc bR gl R va Q x
  low : Below w0.heap.size w0 w
  far : w0.heap.size ≤ b ∧ w0.heap.size ≤ gc ∧ w0.heap.size ≤ bR ∧ w0.heap.size ≤ gl
def SameF (w w' : World) (F : List Nat) : Prop := ∀ x ∈ F, w'.heap[x]? = w.heap[x]?
section
variable {w0 w w' : World} {base b gc n bs2 bR gl k : Nat} {R R' : List RC} {va va' : Value} {ah ah' : List Int} {Q Q' : List Value} {L L' : List (List Int)} {J J' : Value} {Js Js' : List Sp} {F : List Nat}
theorem Free.low {x : Nat} (h : Free w b gc bR gl R va Q x) (hz : w.heap.size ≤ w'.heap.size) : Free w' b gc bR gl R va Q x := ⟨Nat.lt_of_lt_of_le h.1 hz, h.2⟩
theorem LS.lower {upd : List (List Int) → List (List Int)} {updJ : List Sp → List Sp} (h : LS w0 w b gc n bR gl k F upd updJ) (hb : Below w.heap.size w w') : LS w0 w' b gc n bR gl k F upd updJ ∧ SameF w w' F := by
  obtain ⟨base, bs2, R, va, ah, Q, L, J, Js, hS, h1, h2, h3, h4, h5, h6⟩ := h.ex
  exact ⟨⟨⟨base, bs2, R, va, ah, Q, L, J, Js, hS.low hb, h1, h2, h3, h4, h5, fun x hx => (h6 x hx).low hb.size⟩, h.low.trans (hb.mono h.low.size), h.far⟩, fun x hx => hb.block x (h6 x hx).1⟩
theorem LS.add (h : LS w0 w b gc n bR gl k F id id) (hb : Below w.heap.size w w') {G : List Nat} (hG : ∀ x ∈ G, w.heap.size ≤ x ∧ x < w'.heap.size) : LS w0 w' b gc n bR gl k (G ++ F) id id := by
  have hL := (h.lower hb).1
  obtain ⟨base, bs2, R, va, ah, Q, L, J, Js, hS, h1, h2, h3, h4, h5, h6⟩ := h.ex
  refine ⟨⟨base, bs2, R, va, ah, Q, L, J, Js, hS.low hb, h1, h2, h3, h4, h5, fun x hx => ?_⟩, hL.low, hL.far⟩
  rcases List.mem_append.1 hx with hx | hx
  · obtain ⟨g1, g2⟩ := hG x hx
    have e1 := hp_lt hS.p.hb
    have e2 := hp_lt hS.p.hc
    have e3 := hp_lt hS.q.hb
    have e4 := hp_lt hS.q.hl
    refine ⟨g2, by omega, by omega, by omega, by omega, fun hr => ?_, fun hr => ?_⟩
    · obtain ⟨cs, hc⟩ := (hS.p.rowB hr).1
      have := hp_lt hc
      omega
    · obtain ⟨cs, hc⟩ := (hS.q.rowQ hr).1
      have := hp_lt hc
      omega
  · exact (h6 x hx).low hb.size
theorem LS.sub (h : LS w0 w b gc n bR gl k F id id) {G : List Nat} (hG : ∀ x ∈ G, x ∈ F) : LS w0 w b gc n bR gl k G id id := by
  obtain ⟨base, bs2, R, va, ah, Q, L, J, Js, hS, h1, h2, h3, h4, h5, h6⟩ := h.ex
  exact ⟨⟨base, bs2, R, va, ah, Q, L, J, Js, hS, h1, h2, h3, h4, h5, fun x hx => h6 x (hG x hx)⟩, h.low, h.far⟩
theorem LS.set (h : LS w0 w b gc n bR gl k F id id) {x : Nat} (hx : x ∈ F) {cs : Array Value} (hg : w.heap[x]? = some (.cells cs 3 (0, 0))) (h0 : w0.heap.size ≤ x) (i : Nat) (u : Value) : LS w0 (w.setCell ⟨x, i, none⟩ u) b gc n bR gl k F id id := by
  obtain ⟨base, bs2, R, va, ah, Q, L, J, Js, hS, h1, h2, h3, h4, h5, h6⟩ := h.ex
  obtain ⟨_, _, _, _, _, f6, f7⟩ := h6 x hx
  exact ⟨⟨base, bs2, R, va, ah, Q, L, J, Js, hS.set hg f6 f7 i u, h1, h2, h3, h4, h5, fun y hy => (h6 y hy).low (by simp [World.setCell])⟩, h.low.setCell (p := ⟨x, i, none⟩) h0 u, h.far⟩
theorem SameF.trans {w1 w2 w3 : World} {F : List Nat} (h : SameF w1 w2 F) (k : SameF w2 w3 F) : SameF w1 w3 F := fun x hx => (k x hx).trans (h x hx)
theorem SameF.sub {w1 w2 : World} {F G : List Nat} (h : SameF w1 w2 F) (hG : ∀ x ∈ G, x ∈ F) : SameF w1 w2 G := fun x hx => h x (hG x hx)
theorem step_p (hS : Sep w base b gc n bs2 bR gl R va ah Q L J Js) (hF : ∀ x ∈ F, Free w b gc bR gl R va Q x) (hlow : Below w0.heap.size w0 w) (hfar : w0.heap.size ≤ b ∧ w0.heap.size ≤ gc ∧ w0.heap.size ≤ bR ∧ w0.heap.size ≤ gl)
    (hC : CellsAt w' base b gc n R' va' ah') (hos : w'.os = w.os ∧ w'.tape = w.tape ∧ w'.output = w.output) (hz : w.heap.size ≤ w'.heap.size) (hnew : ∀ x, x < w.heap.size → RowB R' va' x → RowB R va x)
    (hkeep : ∀ x, x < w.heap.size → x ≠ b → x ≠ gc → ¬ RowB R va x → w'.heap[x]? = w.heap[x]?) :
    Sep w' base b gc n bs2 bR gl R' va' ah' Q L J Js ∧ (∀ x ∈ F, Free w' b gc bR gl R' va' Q x) ∧ Below w0.heap.size w0 w' ∧ SameF w w' F := by
  refine ⟨hS.prog hC hz hnew hkeep, fun x hx => ?_, ⟨hos.1.trans hlow.os, hos.2.1.trans hlow.tape, hos.2.2.trans hlow.output, Nat.le_trans hlow.size hz, fun x hx => ?_⟩, fun x hx => ?_⟩
  · obtain ⟨h1, h2, h3, h4, h5, h6, h7⟩ := hF x hx
    exact ⟨by omega, h2, h3, h4, h5, fun h => h6 (hnew x h1 h), h7⟩
  · refine (hkeep x (Nat.lt_of_lt_of_le hx hlow.size) (by omega) (by omega) fun hr => ?_).trans (hlow.block x hx)
    have h1 := (hS.p.rowB hr).2
    have h2 := hS.p.far.1
    omega
  · obtain ⟨h1, h2, h3, h4, h5, h6, h7⟩ := hF x hx
    exact hkeep x h1 h2 h3 h6
theorem step_r (hS : Sep w base b gc n bs2 bR gl R va ah Q L J Js) (hF : ∀ x ∈ F, Free w b gc bR gl R va Q x) (hlow : Below w0.heap.size w0 w) (hfar : w0.heap.size ≤ b ∧ w0.heap.size ≤ gc ∧ w0.heap.size ≤ bR ∧ w0.heap.size ≤ gl)
    (hq : RCAt w' bs2 bR gl n Q' L' J') (hj : w'.ownsRow bs2 33 2 J' Js'.length (cellsS Js')) (hnew : ∀ x, x < w.heap.size → RowQ Q' x → RowQ Q x) (hk : Kept w w' [bR, gl]) :
    Sep w' base b gc n bs2 bR gl R va ah Q' L' J' Js' ∧ (∀ x ∈ F, Free w' b gc bR gl R va Q' x) ∧ Below w0.heap.size w0 w' ∧ SameF w w' F := by
  refine ⟨hS.ref hq hj hnew hk, fun x hx => ?_, hk.lower hlow hlow.size (fun x hx => by simp at hx; omega), fun x hx => ?_⟩
  · obtain ⟨h1, h2, h3, h4, h5, h6, h7⟩ := hF x hx
    exact ⟨Nat.lt_of_lt_of_le h1 hk.size, h2, h3, h4, h5, h6, fun h => h7 (hnew x h1 h)⟩
  · obtain ⟨h1, h2, h3, h4, h5, h6, h7⟩ := hF x hx
    exact hk.block x h1 (by simp; exact ⟨h4, h5⟩)
theorem relL_small (h : RelL R ah L) (hk : ah.length + lenR R ≤ 4 * k) {i : Nat} {l : List Int} (hl : L[i]? = some l) : l.length ≤ 4 * k := by
  have h1 := (h.told hl).2
  have h2 := cntR_le R ah i (i + 1)
  omega
theorem rowB_set {i : Nat} {r : RC} (_hri : R[i]? = some r) {v : Value} {e : Int} {l : List Int} (hva : va' = va ∨ va'.ownBlock = none) {z : Nat} (hv : ∀ x, x < z → v.ownBlock = some x → RowB R va x) : ∀ x, x < z → RowB (R.set i (v, e, l)) va' x → RowB R va x := fun x hx h => by
  rcases h.set (va := va) with h | h | h
  · rcases hva with e9 | e9
    · exact .inl (e9 ▸ h)
    · rw [e9] at h; cases h
  · exact hv x hx h
  · exact h
end
section
variable {w0 w : World} {b gc n bR gl k : Nat} {F : List Nat}
def upSt (n : Nat) (i : Int) (codes : List Int) (L : List (List Int)) : List (List Int) := if 0 ≤ i ∧ i < n then L.set i.toNat codes else L
def erS (n : Nat) (i : Int) : Int := if 0 ≤ i ∧ i < n then 0 else 1
theorem pset_step (i : Int) (A : Option Addr) (q c : Nat) (codes : List Int) (h : LS w0 w b gc n bR gl k F id id) (hn : n ≤ 1000) (hr : Rd w 1 A q (codes.map (Value.int .i64))) (hq : q ≤ 4) :
    Calls Try.prog 34 #[.pointer (some ⟨b, 0, none⟩), .int .i64 i, .slice A q c] w fun e w' => e = .returned (.int .i64 (erS n i)) ∧ LS w0 w' b gc n bR gl (k + 1) F (upSt n i codes) id ∧ SameF w w' F := by
  obtain ⟨base, bs2, R, va, ah, Q, L, J, Js, hS, h1, h2, h3, h4, h5, h6⟩ := h.ex
  have hlen : codes.length = q := by have := hr.1; rw [List.length_map] at this; omega
  by_cases hi : 0 ≤ i ∧ i < n
  · obtain ⟨j, rfl⟩ := Int.eq_ofNat_of_zero_le hi.1
    have hj : j < n := by omega
    refine (set_keeps base b gc n j R va ah codes A q c w hS.p hj hr (by omega) (by omega)).mono ?_
    rintro e w' ⟨rfl, ⟨v, r, hrj, hC, hv⟩, hk⟩
    have hp := step_p hS h6 h.low h.far hC ⟨hk.os, hk.tape, hk.output⟩ hk.size (rowB_set hrj (by split <;> simp [Value.ownBlock]) (fun x hx hx2 => by have := hv x hx2; omega))
      (fun x hx hb hg _ => hk.block x hx (by simp; exact ⟨hb, hg⟩))
    obtain ⟨p1, p2, p3, p4⟩ := hp
    refine ⟨by unfold erS; rw [if_pos hi], ⟨⟨base, bs2, _, _, _, Q, L, J, Js, p1, ?_, h2.set hrj v codes, ?_, ?_, by omega, p2⟩, p3, h.far⟩, p4⟩
    · unfold upSt
      rw [if_pos hi, Int.toNat_natCast]
      refine h1.set hrj _ (l' := codes) (ah' := if j = 0 then [] else ah) (l := codes) ?_ (fun e => by rw [if_neg e])
      by_cases e : j = 0
      · rw [if_pos e, if_pos e]; rfl
      · rw [if_neg e]; rfl
    · intro i s hs
      by_cases e : j = i
      · subst e
        rw [List.getElem?_set_self (List.getElem?_eq_some_iff.1 hrj).1] at hs
        obtain rfl := Option.some.inj hs
        exact h3 j r hrj
      · rw [List.getElem?_set_ne e] at hs
        exact h3 i s hs
    · have := lenR_setLe R j (v, r.2.1, codes)
      simp only [hlen] at this
      split <;> (try simp only [List.length_nil]) <;> omega
  · refine (set_out base b gc n R va ah i A q c w hS.p hi).mono ?_
    rintro e w' ⟨rfl, hb⟩
    have hL := h.lower hb
    obtain ⟨base, bs2, R, va, ah, Q, L, J, Js, g0, g1, g2, g3, g4, g5, g6⟩ := hL.1.ex
    refine ⟨by unfold erS; rw [if_neg hi], ⟨⟨base, bs2, R, va, ah, Q, L, J, Js, g0, ?_, g2, g3, by omega, by omega, g6⟩, hL.1.low, h.far⟩, hL.2⟩
    unfold upSt
    rw [if_neg hi]
    exact g1
theorem rset_step (i : Int) (A : Option Addr) (q c : Nat) (codes : List Int) (h : LS w0 w b gc n bR gl k F (upSt n i codes) id) (hn : n ≤ 1000) (hr : Rd w 1 A q (codes.map (Value.int .i64))) (hq : q ≤ 4) :
    Calls Try.prog 36 #[.pointer (some ⟨bR, 0, none⟩), .int .i64 i, .slice A q c] w fun e w' => e = .returned (.int .i64 (erS n i)) ∧ LS w0 w' b gc n bR gl k F id id ∧ SameF w w' F := by
  obtain ⟨base, bs2, R, va, ah, Q, L, J, Js, hS, h1, h2, h3, h4, h5, h6⟩ := h.ex
  by_cases hi : 0 ≤ i ∧ i < n
  · obtain ⟨j, rfl⟩ := Int.eq_ofNat_of_zero_le hi.1
    have hj : j < n := by omega
    refine (rcSet_any bs2 bR gl n j Q L J A q c codes w hS.q hj hr (by omega) (by omega)).mono ?_
    rintro e w' ⟨rfl, ⟨v, hC, hv⟩, hk⟩
    have hk2 : Kept w w' [bR, gl] := hk.moreS (by simp)
    obtain ⟨p1, p2, p3, p4⟩ := step_r hS h6 h.low h.far hC (own_kept hS.j hk (by simpa using hS.q.far.2.1)) (fun x hx hr9 => by
      rcases hr9.set with h9 | h9
      · have := hv x h9; omega
      · exact h9) hk2
    refine ⟨by unfold erS; rw [if_pos hi], ⟨⟨base, bs2, R, va, ah, _, _, J, Js, p1, ?_, h2, h3, h4, h5, p2⟩, p3, h.far⟩, p4⟩
    unfold upSt at h1
    rw [if_pos hi, Int.toNat_natCast] at h1
    exact h1
  · refine (rcSet_out bs2 bR gl n Q L J i A q c w hS.q hi).mono ?_
    rintro e w' ⟨rfl, hb⟩
    unfold upSt at h1
    rw [if_neg hi] at h1
    have hL := LS.lower (F := F) (upd := id) (updJ := id) ⟨⟨base, bs2, R, va, ah, Q, L, J, Js, hS, h1, h2, h3, h4, h5, h6⟩, h.low, h.far⟩ hb
    exact ⟨by unfold erS; rw [if_neg hi], hL.1, hL.2⟩
def erN (n : Nat) : Int := if 0 < n then 0 else 1
def upAh (codes : List Int) (L : List (List Int)) : List (List Int) := match L[0]? with | some l => L.set 0 (codes ++ l) | none => L
def upBh (codes : List Int) (L : List (List Int)) : List (List Int) := match L[L.length - 1]? with | some l => L.set (L.length - 1) (l ++ codes) | none => L
theorem pahead_step (A : Option Addr) (q c : Nat) (codes : List Int) (h : LS w0 w b gc n bR gl k F id id) (hn : n ≤ 1000) (hk : k ≤ 100) (hr : Rd w 1 A q (codes.map (Value.int .i64))) (hq : q ≤ 4) (hA : ∀ ad, A = some ad → 0 < q → ad.block ∈ F) :
    Calls Try.prog 37 #[.pointer (some ⟨b, 0, none⟩), .slice A q c] w fun e w' => e = .returned (.int .i64 (erN n)) ∧ LS w0 w' b gc n bR gl (k + 1) F (upAh codes) id ∧ SameF w w' F := by
  obtain ⟨base, bs2, R, va, ah, Q, L, J, Js, hS, h1, h2, h3, h4, h5, h6⟩ := h.ex
  have hlen : codes.length = q := by have := hr.1; rw [List.length_map] at this; omega
  have hRn := hS.p.len
  rcases Nat.eq_zero_or_pos n with rfl | hn0
  · refine (ahead_zero base b gc R va ah A q c w hS.p).mono ?_
    rintro e w' ⟨rfl, hb⟩
    have hL := h.lower hb
    obtain ⟨base, bs2, R, va, ah, Q, L, J, Js, g0, g1, g2, g3, g4, g5, g6⟩ := hL.1.ex
    refine ⟨rfl, ⟨⟨base, bs2, R, va, ah, Q, L, J, Js, g0, ?_, g2, g3, by omega, by omega, g6⟩, hL.1.low, h.far⟩, hL.2⟩
    have : L = [] := g1.none g0.p.len
    subst this
    exact g1
  · refine (ahead_keeps base b gc n R va ah codes A q c w hS.p hn0 (by omega) hr (by omega) (fun ad e h0 => by
      obtain ⟨_, f2, _, _, _, f6, _⟩ := h6 _ (hA ad e h0)
      exact ⟨f2, fun e2 => f6 (.inl e2.symm)⟩) (by omega)).mono ?_
    rintro e w' ⟨rfl, ⟨va', hC, hv⟩, hb, _, hkx⟩
    obtain ⟨p1, p2, p3, p4⟩ := step_p hS h6 h.low h.far hC ⟨hb.os, hb.tape, hb.output⟩ hb.size (fun x hx h9 => by
      rcases h9 with h9 | ⟨i, r, hi, h9⟩
      · by_cases e1 : some x = va.ownBlock
        · exact .inl e1.symm
        · by_cases e2 : x = b
          · subst e2
            have := (hC.arow.lt x h9).1
            have := hC.far.1
            omega
          · exact absurd h9.symm (hv x ⟨hx, e2, e1⟩)
      · exact .inr ⟨i, r, hi, h9⟩) (fun x hx e1 _ h9 => hkx x ⟨hx, e1, fun e2 => h9 (.inl e2.symm)⟩)
    refine ⟨by unfold erN; rw [if_pos hn0], ⟨⟨base, bs2, R, va', _, Q, L, J, Js, p1, ?_, h2, h3, by rw [List.length_append, List.length_reverse]; omega, by omega, p2⟩, p3, h.far⟩, p4⟩
    obtain ⟨r, hr0⟩ : ∃ r, R[0]? = some r := ⟨_, List.getElem?_eq_getElem (by omega)⟩
    have hl0 : L[0]? = some _ := h1.2 0 r hr0
    have hs := h1.set hr0 r (ah' := ah ++ codes.reverse) (l := []) (l' := codes ++ ((if 0 = 0 then ah.reverse else []) ++ r.2.2)) (by simp) (fun h => absurd rfl h)
    rw [set_same hr0] at hs
    unfold upAh
    simp only [id, hl0]
    exact hs
theorem pbehind_step (A : Option Addr) (q c : Nat) (codes : List Int) (h : LS w0 w b gc n bR gl k F id id) (hn : n ≤ 1000) (hk : k ≤ 100) (hr : Rd w 1 A q (codes.map (Value.int .i64))) (hq : q ≤ 4) :
    Calls Try.prog 39 #[.pointer (some ⟨b, 0, none⟩), .slice A q c] w fun e w' => e = .returned (.int .i64 (erN n)) ∧ LS w0 w' b gc n bR gl (k + 1) F (upBh codes) id ∧ SameF w w' F := by
  obtain ⟨base, bs2, R, va, ah, Q, L, J, Js, hS, h1, h2, h3, h4, h5, h6⟩ := h.ex
  have hlen : codes.length = q := by have := hr.1; rw [List.length_map] at this; omega
  have hRn := hS.p.len
  rcases Nat.eq_zero_or_pos n with rfl | hn0
  · refine (behind_zero base b gc R va ah A q c w hS.p).mono ?_
    rintro e w' ⟨rfl, hb⟩
    have hL := h.lower hb
    obtain ⟨base, bs2, R, va, ah, Q, L, J, Js, g0, g1, g2, g3, g4, g5, g6⟩ := hL.1.ex
    refine ⟨rfl, ⟨⟨base, bs2, R, va, ah, Q, L, J, Js, g0, ?_, g2, g3, by omega, by omega, g6⟩, hL.1.low, h.far⟩, hL.2⟩
    have : L = [] := g1.none g0.p.len
    subst this
    exact g1
  · refine (behind_cells base b gc n R va ah codes A q c w hS.p hn0 (by omega) hr (by omega) (by omega)).mono ?_
    rintro e w' ⟨rfl, ⟨v, r, hrj, hC, hv, hkx⟩, hb, _⟩
    obtain ⟨p1, p2, p3, p4⟩ := step_p hS h6 h.low h.far hC ⟨hb.os, hb.tape, hb.output⟩ hb.size (rowB_set hrj (.inl rfl) (fun x hx hx2 => by
      by_cases e1 : some x = r.1.ownBlock
      · exact .inr ⟨_, r, hrj, e1.symm⟩
      · exact absurd hx2.symm (hv x ⟨hx, e1⟩))) (fun x hx _ e1 h9 => hkx x ⟨hx, e1, fun e2 => h9 (.inr ⟨_, r, hrj, e2.symm⟩)⟩)
    have hlj : L[n - 1]? = some _ := h1.2 (n - 1) r hrj
    refine ⟨by unfold erN; rw [if_pos hn0], ⟨⟨base, bs2, _, va, ah, Q, L, J, Js, p1, ?_, h2.set hrj v _, ?_, ?_, by omega, p2⟩, p3, h.far⟩, p4⟩
    · unfold upBh
      have hLl : L.length - 1 = n - 1 := by have := h1.1; simp only [id] at this; omega
      simp only [hLl, hlj]
      exact h1.set hrj _ (ah' := ah) (l := []) (by simp) (fun _ => rfl)
    · intro i s hs
      by_cases e : n - 1 = i
      · subst e
        rw [List.getElem?_set_self (List.getElem?_eq_some_iff.1 hrj).1] at hs
        obtain rfl := Option.some.inj hs
        exact h3 _ r hrj
      · rw [List.getElem?_set_ne e] at hs
        exact h3 i s hs
    · have h7 := lenR_setC R (n - 1) hrj (v, r.2.1, r.2.2 ++ codes)
      simp only [List.length_append, hlen] at h7
      omega
theorem rahead_step (A : Option Addr) (q c : Nat) (codes : List Int) (h : LS w0 w b gc n bR gl k F (upAh codes) id) (hn : n ≤ 1000) (hk : k ≤ 100) (hr : Rd w 1 A q (codes.map (Value.int .i64))) (hq : q ≤ 4) :
    Calls Try.prog 38 #[.pointer (some ⟨bR, 0, none⟩), .slice A q c] w fun e w' => e = .returned (.int .i64 (erN n)) ∧ LS w0 w' b gc n bR gl k F id id ∧ SameF w w' F := by
  obtain ⟨base, bs2, R, va, ah, Q, L, J, Js, hS, h1, h2, h3, h4, h5, h6⟩ := h.ex
  rcases Nat.eq_zero_or_pos n with rfl | hn0
  · refine (rcAhead_no bs2 bR gl Q L J A q c w hS.q).mono ?_
    rintro e w' ⟨rfl, hb⟩
    have hl : L = [] := List.eq_nil_of_length_eq_zero hS.q.len
    have h1' : RelL R ah (id L) := by subst hl; exact h1
    have hL := LS.lower (F := F) (upd := id) (updJ := id) ⟨⟨base, bs2, R, va, ah, Q, L, J, Js, hS, h1', h2, h3, h4, h5, h6⟩, h.low, h.far⟩ hb
    exact ⟨rfl, hL.1, hL.2⟩
  · obtain ⟨l, hl⟩ : ∃ l, L[0]? = some l := ⟨_, List.getElem?_eq_getElem (by rw [hS.q.len]; exact hn0)⟩
    have h1' : RelL R ah (L.set 0 (codes ++ l)) := by unfold upAh at h1; rw [hl] at h1; exact h1
    have hsm := relL_small h1' h4 (i := 0) (l := codes ++ l) (List.getElem?_set_self (List.getElem?_eq_some_iff.1 hl).1)
    rw [List.length_append] at hsm
    refine (rcAhead_any bs2 bR gl n Q L J A q c codes l w hS.q hn0 hl hr (by omega) (by omega)).mono ?_
    rintro e w' ⟨rfl, ⟨v, hC, hv⟩, hk⟩
    obtain ⟨p1, p2, p3, p4⟩ := step_r hS h6 h.low h.far hC (own_kept hS.j hk (by simpa using hS.q.far.2.1)) (fun x hx hr9 => by
      rcases hr9.set with h9 | h9
      · have := hv x h9; omega
      · exact h9) (hk.moreS (by simp))
    exact ⟨by unfold erN; rw [if_pos hn0], ⟨⟨base, bs2, R, va, ah, _, _, J, Js, p1, h1', h2, h3, h4, h5, p2⟩, p3, h.far⟩, p4⟩
theorem rbehind_step (A : Option Addr) (q c : Nat) (codes : List Int) (h : LS w0 w b gc n bR gl k F (upBh codes) id) (hn : n ≤ 1000) (hk : k ≤ 100) (hr : Rd w 1 A q (codes.map (Value.int .i64))) (hq : q ≤ 4) :
    Calls Try.prog 40 #[.pointer (some ⟨bR, 0, none⟩), .slice A q c] w fun e w' => e = .returned (.int .i64 (erN n)) ∧ LS w0 w' b gc n bR gl k F id id ∧ SameF w w' F := by
  obtain ⟨base, bs2, R, va, ah, Q, L, J, Js, hS, h1, h2, h3, h4, h5, h6⟩ := h.ex
  rcases Nat.eq_zero_or_pos n with rfl | hn0
  · refine (rcBehind_no bs2 bR gl Q L J A q c w hS.q).mono ?_
    rintro e w' ⟨rfl, hb⟩
    have hl : L = [] := List.eq_nil_of_length_eq_zero hS.q.len
    have h1' : RelL R ah (id L) := by subst hl; exact h1
    have hL := LS.lower (F := F) (upd := id) (updJ := id) ⟨⟨base, bs2, R, va, ah, Q, L, J, Js, hS, h1', h2, h3, h4, h5, h6⟩, h.low, h.far⟩ hb
    exact ⟨rfl, hL.1, hL.2⟩
  · obtain ⟨l, hl⟩ : ∃ l, L[n - 1]? = some l := ⟨_, List.getElem?_eq_getElem (by rw [hS.q.len]; omega)⟩
    have h1' : RelL R ah (L.set (n - 1) (l ++ codes)) := by
      unfold upBh at h1
      rw [hS.q.len, hl] at h1
      exact h1
    have hsm := relL_small h1' h4 (i := n - 1) (l := l ++ codes) (List.getElem?_set_self (List.getElem?_eq_some_iff.1 hl).1)
    rw [List.length_append] at hsm
    refine (rcBehind_any bs2 bR gl n (n - 1) Q L J A q c codes l w hS.q hn0 rfl hl hr (by omega) (by omega)).mono ?_
    rintro e w' ⟨rfl, ⟨v, hC, hv⟩, hk⟩
    obtain ⟨p1, p2, p3, p4⟩ := step_r hS h6 h.low h.far hC (own_kept hS.j hk (by simpa using hS.q.far.2.1)) (fun x hx hr9 => by
      rcases hr9.set with h9 | h9
      · have := hv x h9; omega
      · exact h9) (hk.moreS (by simp))
    exact ⟨by unfold erN; rw [if_pos hn0], ⟨⟨base, bs2, R, va, ah, _, _, J, Js, p1, h1', h2, h3, h4, h5, p2⟩, p3, h.far⟩, p4⟩
def erJ (n : Nat) (lo hi : Int) : Int := if 0 ≤ lo ∧ lo < hi ∧ hi ≤ n then 0 else 1
def upJn (n : Nat) (lo hi : Int) (Js : List Sp) : List Sp := if 0 ≤ lo ∧ lo < hi ∧ hi ≤ n then Js ++ [(lo, hi)] else Js
theorem pjoin_step (lo hi : Int) (h : LS w0 w b gc n bR gl k F id id) (hn : n ≤ 1000) :
    Calls Try.prog 41 #[.pointer (some ⟨b, 0, none⟩), .agg #[.int .i64 lo, .int .i64 hi]] w fun e w' => e = .returned (.int .i64 (erJ n lo hi)) ∧ LS w0 w' b gc n bR gl (k + 1) F id (upJn n lo hi) ∧ SameF w w' F := by
  obtain ⟨base, bs2, R, va, ah, Q, L, J, Js, hS, h1, h2, h3, h4, h5, h6⟩ := h.ex
  refine (join_keeps base b gc n R va ah lo hi w hS.p (by omega)).mono ?_
  rintro e w' ⟨⟨hno, rfl, hC⟩ | ⟨hs, rfl, r, hr, hC⟩, hk⟩
  · obtain ⟨p1, p2, p3, p4⟩ := step_p hS h6 h.low h.far hC ⟨hk.os, hk.tape, hk.output⟩ hk.size (fun _ _ h => h) (fun x hx hb hg _ => hk.block x hx (by simp; exact ⟨hb, hg⟩))
    simp only [id] at h5
    refine ⟨by unfold erJ; rw [if_neg hno], ⟨⟨base, bs2, R, va, ah, Q, L, J, Js, p1, h1, ?_, h3, by omega, by unfold upJn; rw [if_neg hno]; omega, p2⟩, p3, h.far⟩, p4⟩
    unfold upJn
    rw [if_neg hno]
    exact h2
  · obtain ⟨j, rfl⟩ := Int.eq_ofNat_of_zero_le hs.1
    rw [Int.toNat_natCast] at hr hC
    obtain ⟨p1, p2, p3, p4⟩ := step_p hS h6 h.low h.far hC ⟨hk.os, hk.tape, hk.output⟩ hk.size (rowB_set hr (.inl rfl) (fun x _ hx2 => .inr ⟨j, r, hr, hx2⟩)) (fun x hx hb hg _ => hk.block x hx (by simp; exact ⟨hb, hg⟩))
    have hil := (List.getElem?_eq_some_iff.1 hr).1
    refine ⟨by unfold erJ; rw [if_pos hs], ⟨⟨base, bs2, _, va, ah, Q, L, J, Js, p1, ?_, ?_, ?_, ?_, ?_, p2⟩, p3, h.far⟩, p4⟩
    · have hl0 : L[j]? = some _ := h1.2 j r hr
      have := h1.set hr (r.1, max r.2.1 hi, r.2.2) (ah' := ah) (l := []) (l' := (if j = 0 then ah.reverse else []) ++ r.2.2) rfl (fun _ => rfl)
      simp only [id] at this ⊢
      rw [set_same hl0] at this
      exact this
    · unfold upJn
      rw [if_pos hs]
      exact h2.join hr hs.2.1 hs.2.2
    · intro i s hs9
      by_cases e : j = i
      · subst e
        rw [List.getElem?_set_self hil] at hs9
        obtain rfl := Option.some.inj hs9
        exact Int.max_le.2 ⟨h3 _ _ hr, hs.2.2⟩
      · rw [List.getElem?_set_ne e] at hs9
        exact h3 i s hs9
    · have h7 := lenR_setC R j hr (r.1, max r.2.1 hi, r.2.2)
      simp only at h7
      omega
    · unfold upJn
      rw [if_pos hs, List.length_append]
      simp only [id] at h5
      simp
      exact h5
theorem rjoin_step (lo hi : Int) (h : LS w0 w b gc n bR gl k F id (upJn n lo hi)) (hk : k ≤ 1000) :
    Calls Try.prog 42 #[.pointer (some ⟨bR, 0, none⟩), .agg #[.int .i64 lo, .int .i64 hi]] w fun e w' => e = .returned (.int .i64 (erJ n lo hi)) ∧ LS w0 w' b gc n bR gl k F id id ∧ SameF w w' F := by
  obtain ⟨base, bs2, R, va, ah, Q, L, J, Js, hS, h1, h2, h3, h4, h5, h6⟩ := h.ex
  have hjl : Js.length ≤ k := by
    unfold upJn at h5
    split at h5
    · rw [List.length_append] at h5; simp at h5; omega
    · exact h5
  refine (rcJoin_any bs2 bR gl n Q L J Js lo hi w hS.q hS.j (by omega)).mono ?_
  rintro e w' ⟨⟨hno, rfl, hC, hJ⟩ | ⟨hs, rfl, J', hC, hJ⟩, hk9⟩
  · obtain ⟨p1, p2, p3, p4⟩ := step_r hS h6 h.low h.far hC hJ (fun _ _ h => h) (hk9.moreS (by simp))
    unfold upJn at h2 h5
    rw [if_neg hno] at h2 h5
    exact ⟨by unfold erJ; rw [if_neg hno], ⟨⟨base, bs2, R, va, ah, Q, L, J, Js, p1, h1, h2, h3, h4, h5, p2⟩, p3, h.far⟩, p4⟩
  · obtain ⟨p1, p2, p3, p4⟩ := step_r hS h6 h.low h.far hC hJ (fun _ _ h => h) (hk9.moreS (by simp))
    unfold upJn at h2 h5
    rw [if_pos hs] at h2 h5
    exact ⟨by unfold erJ; rw [if_pos hs], ⟨⟨base, bs2, R, va, ah, Q, L, J', _, p1, h1, h2, h3, h4, h5, p2⟩, p3, h.far⟩, p4⟩
end
end Go.Proofs.Ytcbiaeeifclieaa
/- naskhlaw12's do: a call of both. -/
namespace Go.Proofs.Ytcbiaeeifclieaa
open Go.RowKit

section
variable {w0 w w' : World} {b gc n bR gl k : Nat} {F : List Nat}
theorem own_heapF {w w' : World} {base : Nat} {e : TypeId} {size n : Nat} {v : Value} {xs : List Value} (h : w.ownsRow base e size v n xs) {F : List Nat} (hF : ∀ g, v.ownBlock = some g → g ∈ F) (hs : SameF w w' F) : w'.ownsRow base e size v n xs := own_heap h fun g hg => hs g (hF g hg)
end
theorem box5 {W : World} {g : Nat} {x0 x1 x2 x3 x4 : Value} {t : TypeId} (h : W.heap[g]? = some (.cells #[x0, x1, x2, x3, x4] t (0, 0))) : W.cell? ⟨g, 0, none⟩ = some x0 ∧ W.cell? ⟨g, 1, none⟩ = some x1 ∧ W.cell? ⟨g, 2, none⟩ = some x2 ∧ W.cell? ⟨g, 3, none⟩ = some x3 ∧ W.cell? ⟨g, 4, none⟩ = some x4 :=
  ⟨hp_cell h rfl, hp_cell h rfl, hp_cell h rfl, hp_cell h rfl, hp_cell h rfl⟩
def doVal (op at_ : Int) (A : Option Addr) (q c : Nat) (lo hi : Int) : Array Value := #[.int .i64 op, .int .i64 at_, .slice A q c, .int .i64 lo, .int .i64 hi]
set_option maxRecDepth 100000 in
set_option maxHeartbeats 4000000 in
theorem do_any (op at_ lo hi : Int) (A : Option Addr) (q c b gc n bR gl k : Nat) (codes : List Int) (F : List Nat) (w0 w : World) (h : LS w0 w b gc n bR gl k F id id) (hn : n ≤ 1000) (hk : k ≤ 90) (hr : Rd w0 1 A q (codes.map (Value.int .i64))) (hq : q ≤ 4) :
    Calls Try.prog 11 #[.pointer (some ⟨b, 0, none⟩), .pointer (some ⟨bR, 0, none⟩), .agg #[.int .i64 op, .int .i64 at_, .slice A q c, .int .i64 lo, .int .i64 hi]] w fun e w' => e = .returned (.bool true) ∧ LS w0 w' b gc n bR gl (k + 1) F id id ∧ SameF w w' F := by
  have hlen : codes.length = q := by simpa using hr.len1
  have hb1 := below_new w (.cells #[.int .i64 op, .int .i64 at_, .slice A q c, .int .i64 lo, .int .i64 hi] 35)
  have hbx := heap_alloc_new w (.cells #[.int .i64 op, .int .i64 at_, .slice A q c, .int .i64 lo, .int .i64 hi] 35)
  have HFL := Lib.hid (show ∀ x ∈ F, x < w.heap.size from fun x hx => by
    obtain ⟨_, _, _, _, _, _, _, _, _, _, _, _, _, _, _, h6⟩ := h.ex
    exact (h6 x hx).1)
  have HL1 := Lib.hid (h.add hb1 (G := [w.heap.size]) (by simp))
  have HSF1 := Lib.hid (h.lower hb1).2
  obtain ⟨W1, hW1⟩ : ∃ W1, w.alloc (.cells #[.int .i64 op, .int .i64 at_, .slice A q c, .int .i64 lo, .int .i64 hi] 35) = W1 := ⟨_, rfl⟩
  rw [hW1] at hb1 hbx HL1 HSF1
  obtain ⟨bx, hbxe⟩ : ∃ bx, w.heap.size = bx := ⟨_, rfl⟩
  rw [hbxe] at hbx HL1 HFL
  obtain ⟨a0, a1, a2, a3, a4⟩ := box5 hbx
  have HBX := Lib.hid hbx
  have HR := Lib.hid hr
  have HB1 := Lib.hid hb1
  have HCL := Lib.hid (cloneInt_any A q c (codes.map (Value.int .i64)) W1 (hr.below HL1.out.low) (oneInts _ _) (by omega))
  clear h hr hbx hb1 hlen
  go_enter Try.func11, Try.ntmps11
  go_upto_block 0 with (first
    | (go_at_call 35; with_reducible refine HCL.out.mono ?_; rintro e W2 ⟨v, rfl, hown, hb2⟩; have d0 := cell_below hb2 a0; have d1 := cell_below hb2 a1; have d2 := cell_below hb2 a2; have d3 := cell_below hb2 a3; have d4 := cell_below hb2 a4; have HO2 := Lib.hid hown; have HB2 := Lib.hid hb2; clear hown hb2 a0 a1 a2 a3 a4)
    | fail)
  obtain ⟨G, cg, rfl, hcg⟩ := own_form HO2.out
  obtain ⟨FG, hFG⟩ : ∃ FG : List Nat, ∀ g, (Value.slice G q cg).ownBlock = some g ↔ g ∈ FG := by
    rcases (Value.slice G q cg).ownBlock with _ | g
    · exact ⟨[], by simp⟩
    · exact ⟨[g], by simp [eq_comm]⟩
  have HFG := Lib.hid hFG
  have HL2 := Lib.hid (HL1.out.add HB2.out (G := FG) (fun x hx => HO2.out.lt x ((hFG x).2 hx)))
  have HSF2 := Lib.hid (show SameF w W2 F from HSF1.out.trans ((HL1.out.lower HB2.out).2.sub (fun x hx => List.mem_cons_of_mem _ hx)))
  have HBX2 := Lib.hid ((HB2.out.block _ (hp_lt HBX.out)).trans HBX.out)
  have HRG := Lib.hid (Rd.of_own HO2.out)
  have HGA := Lib.hid (show ∀ ad, G = some ad → 0 < q → ad.block ∈ FG ++ ([bx] ++ F) from fun ad e _ => List.mem_append_left _ ((hFG ad.block).1 (by rw [e]; rfl)))
  have HBI := Lib.hid (show bx ∈ FG ++ ([bx] ++ F) by simp)
  obtain ⟨FF, hFF⟩ : ∃ FF, FG ++ ([bx] ++ F) = FF := ⟨_, rfl⟩
  have HFF := Lib.hid hFF
  rw [hFF] at HL2 HGA HBI
  clear hFG hFF HCL
  have hws := HB1.out.size
  go_cut [8] (fun s wx => s = .bool true ∧ LS w0 wx b gc n bR gl (k + 1) FF id id ∧ SameF W2 wx FF)
  case first =>
    by_cases h0 : op = 0
    · subst h0
      have HP := Lib.hid (fun W (hb : Below W2.heap.size W2 W) => pset_step (w := W) at_ G q cg codes (HL2.out.lower hb).1 hn (HRG.out.below hb) hq)
      have HQ := Lib.hid (fun W (h : LS w0 W b gc n bR gl (k + 1) FF (upSt n at_ codes) id) => rset_step at_ A q c codes h hn (HR.out.below h.low) hq)
      obtain ⟨er, her⟩ : ∃ er, erS n at_ = er := ⟨_, rfl⟩
      rw [her] at HP HQ
      have geq : (er == er) = true := by simp
      clear her
      go_upto_region 9 with fail
      go_region_law (first
        | (go_simp; go_at_call 34; refine (HP.out _ (by first | exact Below.refl _ _ | exact (Below.refl _ _).drew)).mono ?_; rintro e W4 ⟨rfl, hLS4, hSF4⟩; have hx4 := (hSF4 bx HBI.out).trans HBX2.out; obtain ⟨y0, y1, y2, y3, y4⟩ := box5 hx4)
        | (go_simp; go_at_call 36; refine (HQ.out _ (by first | exact hLS4 | exact (hLS4.lower (Below.refl _ _).drew).1)).mono ?_; rintro e W5 ⟨rfl, hLS5, hSF5⟩; have hx5 := (hSF5 bx HBI.out).trans hx4; obtain ⟨z0, z1, z2, z3, z4⟩ := box5 hx5)
        | fail)
      all_goals (
        have HLS5 := Lib.hid hLS5
        have HSF5 := Lib.hid (show SameF W2 W5 FF from SameF.trans hSF4 hSF5)
        clear hLS4 hSF4 hLS5 hSF5 hx4 hx5 y0 y1 y2 y3 y4 z0 z1 z2 z3 z4
        go_wp2_with fail
        rename_i hJ
        refine Met.intro (hJ _ _ ?_)
        (repeat apply Exists.intro)
        refine ⟨?_, rfl⟩)
      all_goals exact ⟨rfl, HLS5.out, HSF5.out⟩
    have g0 : (op == 0) = false := by simp [h0]
    by_cases h1 : op = 1
    · subst h1
      clear h0 g0
      have HP := Lib.hid (fun W (hb : Below W2.heap.size W2 W) => pset_step (w := W) at_ G q cg codes (HL2.out.lower hb).1 hn (HRG.out.below hb) hq)
      have HQ := Lib.hid (fun W (h : LS w0 W b gc n bR gl (k + 1) FF (upSt n at_ codes) id) => rset_step at_ A q c codes h hn (HR.out.below h.low) hq)
      obtain ⟨er, her⟩ : ∃ er, erS n at_ = er := ⟨_, rfl⟩
      rw [her] at HP HQ
      have geq : (er == er) = true := by simp
      clear her
      go_upto_region 9 with fail
      go_region_law (first
        | (go_simp; go_at_call 34; refine (HP.out _ (by first | exact Below.refl _ _ | exact (Below.refl _ _).drew)).mono ?_; rintro e W4 ⟨rfl, hLS4, hSF4⟩; have hx4 := (hSF4 bx HBI.out).trans HBX2.out; obtain ⟨y0, y1, y2, y3, y4⟩ := box5 hx4)
        | (go_simp; go_at_call 36; refine (HQ.out _ (by first | exact hLS4 | exact (hLS4.lower (Below.refl _ _).drew).1)).mono ?_; rintro e W5 ⟨rfl, hLS5, hSF5⟩; have hx5 := (hSF5 bx HBI.out).trans hx4; obtain ⟨z0, z1, z2, z3, z4⟩ := box5 hx5)
        | fail)
      all_goals (
        have HLS5 := Lib.hid hLS5
        have HSF5 := Lib.hid (show SameF W2 W5 FF from SameF.trans hSF4 hSF5)
        clear hLS4 hSF4 hLS5 hSF5 hx4 hx5 y0 y1 y2 y3 y4 z0 z1 z2 z3 z4
        go_wp2_with fail
        rename_i hJ
        refine Met.intro (hJ _ _ ?_)
        (repeat apply Exists.intro)
        refine ⟨?_, rfl⟩)
      all_goals exact ⟨rfl, HLS5.out, HSF5.out⟩
    have g1 : (op == 1) = false := by simp [h1]
    by_cases h2 : op = 2
    · subst h2
      clear h0 g0 h1 g1
      have HP := Lib.hid (fun W (hb : Below W2.heap.size W2 W) => pset_step (w := W) at_ G q cg codes (HL2.out.lower hb).1 hn (HRG.out.below hb) hq)
      have HQ := Lib.hid (fun W (h : LS w0 W b gc n bR gl (k + 1) FF (upSt n at_ codes) id) => rset_step at_ A q c codes h hn (HR.out.below h.low) hq)
      obtain ⟨er, her⟩ : ∃ er, erS n at_ = er := ⟨_, rfl⟩
      rw [her] at HP HQ
      have geq : (er == er) = true := by simp
      clear her
      go_upto_region 9 with fail
      go_region_law (first
        | (go_simp; go_at_call 34; refine (HP.out _ (by first | exact Below.refl _ _ | exact (Below.refl _ _).drew)).mono ?_; rintro e W4 ⟨rfl, hLS4, hSF4⟩; have hx4 := (hSF4 bx HBI.out).trans HBX2.out; obtain ⟨y0, y1, y2, y3, y4⟩ := box5 hx4)
        | (go_simp; go_at_call 36; refine (HQ.out _ (by first | exact hLS4 | exact (hLS4.lower (Below.refl _ _).drew).1)).mono ?_; rintro e W5 ⟨rfl, hLS5, hSF5⟩; have hx5 := (hSF5 bx HBI.out).trans hx4; obtain ⟨z0, z1, z2, z3, z4⟩ := box5 hx5)
        | fail)
      all_goals (
        have HLS5 := Lib.hid hLS5
        have HSF5 := Lib.hid (show SameF W2 W5 FF from SameF.trans hSF4 hSF5)
        clear hLS4 hSF4 hLS5 hSF5 hx4 hx5 y0 y1 y2 y3 y4 z0 z1 z2 z3 z4
        go_wp2_with fail
        rename_i hJ
        refine Met.intro (hJ _ _ ?_)
        (repeat apply Exists.intro)
        refine ⟨?_, rfl⟩)
      all_goals exact ⟨rfl, HLS5.out, HSF5.out⟩
    have g2 : (op == 2) = false := by simp [h2]
    by_cases h3 : op = 3
    · subst h3
      clear h0 g0 h1 g1 h2 g2
      have HP := Lib.hid (fun W (hb : Below W2.heap.size W2 W) => pset_step (w := W) at_ G q cg codes (HL2.out.lower hb).1 hn (HRG.out.below hb) hq)
      have HQ := Lib.hid (fun W (h : LS w0 W b gc n bR gl (k + 1) FF (upSt n at_ codes) id) => rset_step at_ A q c codes h hn (HR.out.below h.low) hq)
      obtain ⟨er, her⟩ : ∃ er, erS n at_ = er := ⟨_, rfl⟩
      rw [her] at HP HQ
      have geq : (er == er) = true := by simp
      clear her
      go_upto_region 9 with fail
      go_region_law (first
        | (go_simp; go_at_call 34; refine (HP.out _ (by first | exact Below.refl _ _ | exact (Below.refl _ _).drew)).mono ?_; rintro e W4 ⟨rfl, hLS4, hSF4⟩; have hx4 := (hSF4 bx HBI.out).trans HBX2.out; obtain ⟨y0, y1, y2, y3, y4⟩ := box5 hx4)
        | (go_simp; go_at_call 36; refine (HQ.out _ (by first | exact hLS4 | exact (hLS4.lower (Below.refl _ _).drew).1)).mono ?_; rintro e W5 ⟨rfl, hLS5, hSF5⟩; have hx5 := (hSF5 bx HBI.out).trans hx4; obtain ⟨z0, z1, z2, z3, z4⟩ := box5 hx5)
        | fail)
      all_goals (
        have HLS5 := Lib.hid hLS5
        have HSF5 := Lib.hid (show SameF W2 W5 FF from SameF.trans hSF4 hSF5)
        clear hLS4 hSF4 hLS5 hSF5 hx4 hx5 y0 y1 y2 y3 y4 z0 z1 z2 z3 z4
        go_wp2_with fail
        rename_i hJ
        refine Met.intro (hJ _ _ ?_)
        (repeat apply Exists.intro)
        refine ⟨?_, rfl⟩)
      all_goals exact ⟨rfl, HLS5.out, HSF5.out⟩
    have g3 : (op == 3) = false := by simp [h3]
    by_cases h4 : op = 4
    · subst h4
      clear h0 g0 h1 g1 h2 g2 h3 g3
      have HP := Lib.hid (fun W (hb : Below W2.heap.size W2 W) => pahead_step (w := W) G q cg codes (HL2.out.lower hb).1 hn (by omega) (HRG.out.below hb) hq HGA.out)
      have HQ := Lib.hid (fun W (h : LS w0 W b gc n bR gl (k + 1) FF (upAh codes) id) => rahead_step A q c codes h hn (by omega) (HR.out.below h.low) hq)
      obtain ⟨er, her⟩ : ∃ er, erN n = er := ⟨_, rfl⟩
      rw [her] at HP HQ
      have geq : (er == er) = true := by simp
      clear her
      go_upto_region 11 with fail
      go_region_law (first
        | (go_simp; go_at_call 37; refine (HP.out _ (by first | exact Below.refl _ _ | exact (Below.refl _ _).drew)).mono ?_; rintro e W4 ⟨rfl, hLS4, hSF4⟩; have hx4 := (hSF4 bx HBI.out).trans HBX2.out; obtain ⟨y0, y1, y2, y3, y4⟩ := box5 hx4)
        | (go_simp; go_at_call 38; refine (HQ.out _ (by first | exact hLS4 | exact (hLS4.lower (Below.refl _ _).drew).1)).mono ?_; rintro e W5 ⟨rfl, hLS5, hSF5⟩; have hx5 := (hSF5 bx HBI.out).trans hx4; obtain ⟨z0, z1, z2, z3, z4⟩ := box5 hx5)
        | fail)
      all_goals (
        have HLS5 := Lib.hid hLS5
        have HSF5 := Lib.hid (show SameF W2 W5 FF from SameF.trans hSF4 hSF5)
        clear hLS4 hSF4 hLS5 hSF5 hx4 hx5 y0 y1 y2 y3 y4 z0 z1 z2 z3 z4
        go_wp2_with fail
        rename_i hJ
        refine Met.intro (hJ _ _ ?_)
        (repeat apply Exists.intro)
        refine ⟨?_, rfl⟩)
      all_goals exact ⟨rfl, HLS5.out, HSF5.out⟩
    have g4 : (op == 4) = false := by simp [h4]
    by_cases h5 : op = 5
    · subst h5
      clear h0 g0 h1 g1 h2 g2 h3 g3 h4 g4
      have HP := Lib.hid (fun W (hb : Below W2.heap.size W2 W) => pbehind_step (w := W) G q cg codes (HL2.out.lower hb).1 hn (by omega) (HRG.out.below hb) hq)
      have HQ := Lib.hid (fun W (h : LS w0 W b gc n bR gl (k + 1) FF (upBh codes) id) => rbehind_step A q c codes h hn (by omega) (HR.out.below h.low) hq)
      obtain ⟨er, her⟩ : ∃ er, erN n = er := ⟨_, rfl⟩
      rw [her] at HP HQ
      have geq : (er == er) = true := by simp
      clear her
      go_upto_region 13 with fail
      go_region_law (first
        | (go_simp; go_at_call 39; refine (HP.out _ (by first | exact Below.refl _ _ | exact (Below.refl _ _).drew)).mono ?_; rintro e W4 ⟨rfl, hLS4, hSF4⟩; have hx4 := (hSF4 bx HBI.out).trans HBX2.out; obtain ⟨y0, y1, y2, y3, y4⟩ := box5 hx4)
        | (go_simp; go_at_call 40; refine (HQ.out _ (by first | exact hLS4 | exact (hLS4.lower (Below.refl _ _).drew).1)).mono ?_; rintro e W5 ⟨rfl, hLS5, hSF5⟩; have hx5 := (hSF5 bx HBI.out).trans hx4; obtain ⟨z0, z1, z2, z3, z4⟩ := box5 hx5)
        | fail)
      all_goals (
        have HLS5 := Lib.hid hLS5
        have HSF5 := Lib.hid (show SameF W2 W5 FF from SameF.trans hSF4 hSF5)
        clear hLS4 hSF4 hLS5 hSF5 hx4 hx5 y0 y1 y2 y3 y4 z0 z1 z2 z3 z4
        go_wp2_with fail
        rename_i hJ
        refine Met.intro (hJ _ _ ?_)
        (repeat apply Exists.intro)
        refine ⟨?_, rfl⟩)
      all_goals exact ⟨rfl, HLS5.out, HSF5.out⟩
    have g5 : (op == 5) = false := by simp [h5]
    clear h0 h1 h2 h3 h4 h5
    have HP := Lib.hid (fun W (hb : Below W2.heap.size W2 W) => pjoin_step (w := W) lo hi (HL2.out.lower hb).1 hn)
    have HQ := Lib.hid (fun W (h : LS w0 W b gc n bR gl (k + 1) FF id (upJn n lo hi)) => rjoin_step lo hi h (by omega))
    obtain ⟨er, her⟩ : ∃ er, erJ n lo hi = er := ⟨_, rfl⟩
    rw [her] at HP HQ
    have geq : (er == er) = true := by simp
    clear her
    go_upto_region 4 with fail
    go_region_law (first
      | (go_simp; go_at_call 41; refine (HP.out _ (by first | exact Below.refl _ _ | exact (Below.refl _ _).drew)).mono ?_; rintro e W4 ⟨rfl, hLS4, hSF4⟩; have hx4 := (hSF4 bx HBI.out).trans HBX2.out; obtain ⟨y0, y1, y2, y3, y4⟩ := box5 hx4)
      | (go_simp; go_at_call 42; refine (HQ.out _ (by first | exact hLS4 | exact (hLS4.lower (Below.refl _ _).drew).1)).mono ?_; rintro e W5 ⟨rfl, hLS5, hSF5⟩; have hx5 := (hSF5 bx HBI.out).trans hx4; obtain ⟨z0, z1, z2, z3, z4⟩ := box5 hx5)
      | fail)
    all_goals (
      have HLS5 := Lib.hid hLS5
      have HSF5 := Lib.hid (show SameF W2 W5 FF from SameF.trans hSF4 hSF5)
      clear hLS4 hSF4 hLS5 hSF5 hx4 hx5 y0 y1 y2 y3 y4 z0 z1 z2 z3 z4
      go_wp2_with fail
      rename_i hJ
      refine Met.intro (hJ _ _ ?_)
      (repeat apply Exists.intro)
      refine ⟨?_, rfl⟩)
    all_goals exact ⟨rfl, HLS5.out, HSF5.out⟩
  case rest =>
    obtain ⟨hs8, hLc, hSc⟩ := hcut
    subst hs8
    have HOC := Lib.hid (own_heapF HO2.out (fun g hg => by rw [← HFF.out]; exact List.mem_append_left _ ((HFG.out g).1 hg)) hSc)
    have HLC := Lib.hid hLc
    have HSC := Lib.hid (show SameF W2 wc F from hSc.sub (fun x hx => by rw [← HFF.out]; simp; exact .inr (.inr hx)))
    have hbl := hp_lt HBX.out
    clear hLc hSc
    rcases Nat.eq_zero_or_pos q with hq0 | hq0
    · subst hq0
      go_wp2_with fail
      go_loopw [63] (fun i ws => i = .int .i64 0 ∧ ws = wc) (fun _ _ => 0)
      case atStart => exact ⟨rfl, rfl⟩
      case round =>
        obtain ⟨rfl, rfl⟩ := hrel
        go_wp2_with fail
        go_ret
        exact ⟨rfl, HLC.out.sub (fun x hx => by rw [← HFF.out]; simp; exact .inr (.inr hx)), SameF.trans HSF2.out HSC.out⟩
    · obtain ⟨g, cg', hv, _, _, hgb, _⟩ := own_at HOC.out hq0
      simp only [Value.slice.injEq] at hv
      obtain ⟨rfl, _, rfl⟩ := hv
      have HGF := Lib.hid (show g ∈ FF by rw [← HFF.out]; exact List.mem_append_left _ ((HFG.out g).1 rfl))
      have hw0g : w0.heap.size ≤ g := by
        have := HL1.out.low.size
        omega
      clear HO2
      go_wp2_with fail
      go_loopw [63] (fun i ws => ∃ j : Nat, j ≤ q ∧ i = .int .i64 (j : Int) ∧ (∃ ys, ws.ownsRow W1.heap.size 3 1 (.slice (some ⟨g, 0, none⟩) q cg) q ys) ∧ LS w0 ws b gc n bR gl (k + 1) FF id id ∧ SameF W2 ws F) (fun i _ => q - (intOf i).toNat)
      case atStart => exact ⟨0, Nat.zero_le _, rfl, ⟨_, HOC.out⟩, HLC.out, HSC.out⟩
      case round =>
        obtain ⟨j, hj, rfl, ⟨ys, hown⟩, hL, hS⟩ := hrel
        by_cases hlt : j < q
        · obtain ⟨⟨u, cu⟩, fu⟩ := own_slot hown (j := j) (by omega)
          obtain ⟨cs, hcs⟩ := own_type hown (g := g) rfl
          have HL9 := Lib.hid (hL.set HGF.out hcs hw0g j (.int .i64 (-7)))
          have HO9 := Lib.hid ((hown.stored j (.int .i64 (-7))).1)
          have HS9 := Lib.hid (show SameF W2 (wr.setCell ⟨g, j, none⟩ (.int .i64 (-7))) F from fun x hx => (hp_far (by have := HFL.out x hx; omega) _ _).trans (hS x hx))
          have hj0 : (0 : Int) ≤ (j : Int) := by omega
          have hjq : (j : Int) < (q : Int) := by omega
          clear hown hL hS hcs
          go_wp2_with fail
          go_roundw
          case rel => exact ⟨j + 1, by omega, by go_num, ⟨_, HO9.out⟩, HL9.out, HS9.out⟩
          case measure => simp [intOf]; omega
        · have HLL := Lib.hid hL
          have HSS := Lib.hid hS
          clear hL hS hown
          go_wp2_with fail
          go_ret
          exact ⟨rfl, HLL.out.sub (fun x hx => by rw [← HFF.out]; simp; exact .inr (.inr hx)), SameF.trans HSF2.out HSS.out⟩
end Go.Proofs.Ytcbiaeeifclieaa
/- What both tell of a cell, and of all of them. -/
namespace Go.Proofs.Ytcbiaeeifclieaa
open Go.RowKit

section
variable {w : World} {base b gc n bs2 bR gl : Nat} {R : List RC} {va : Value} {ah : List Int} {Q : List Value} {L : List (List Int)} {J : Value} {Js : List Sp}
theorem noCells_z (hC : CellsAt w base b gc 0 R va ah) : NoCells w (.pointer (some ⟨b, 0, none⟩)) := fun W hW => all_any b (some ⟨gc, 0, none⟩) 0 0 W (cell_below hW (hp_cell (j := 0) hC.hb rfl))
def TxtAns (w w' : World) (T : List Int) (e : Ending) : Prop := (∃ (A : Option Addr) (k : Nat), e = .returned (.slice A T.length k) ∧ Rd w' 1 A T.length (T.map (Value.int .i64))) ∧ Below w.heap.size w w'
theorem txt_p (hC : CellsAt w base b gc n R va ah) (h : RelL R ah L) (hn : n ≤ 1000) (hs : ah.length + lenR R ≤ 100000) :
    Calls Try.prog 13 #[.pointer (some ⟨b, 0, none⟩)] w fun e w' => TxtAns w w' L.flatten e := by
  rcases Nat.eq_zero_or_pos n with rfl | hn0
  · refine (text_none _ w (noCells_z hC)).mono ?_
    rintro e w' ⟨rfl, hb⟩
    rw [h.none hC.len]
    exact ⟨⟨none, 0, rfl, Rd.nil_⟩, hb⟩
  · refine (text_cells base b gc n R va ah w hC hn0 (by omega) (by omega)).mono ?_
    rintro e w' ⟨v, rfl, hown, hb⟩
    rw [h.flat (by rw [hC.len]; exact hn0), hC.len]
    obtain ⟨A, k, rfl, _⟩ := own_form hown
    exact ⟨⟨A, k, rfl, Rd.of_own hown⟩, hb⟩
theorem txt_r (hC : RCAt w bs2 bR gl n Q L J) (h : RelL R ah L) (hn : n ≤ 1000) (hs : ah.length + lenR R ≤ 100000) :
    Calls Try.prog 14 #[.pointer (some ⟨bR, 0, none⟩)] w fun e w' => TxtAns w w' L.flatten e := by
  refine (rcText_any bs2 bR gl n Q L J w hC (by omega) (Nat.le_trans h.small hs)).mono ?_
  rintro e w' ⟨⟨v, rfl, hown⟩, hb⟩
  obtain ⟨A, k, rfl, _⟩ := own_form hown
  exact ⟨⟨A, k, rfl, Rd.of_own hown⟩, hb⟩
def atL (n : Nat) (L : List (List Int)) (i : Int) : List Int := if 0 ≤ i ∧ i < n then (L[i.toNat]?).getD [] else []
theorem at_p (hC : CellsAt w base b gc n R va ah) (h : RelL R ah L) (hn : n ≤ 1000) (hs : ah.length + lenR R ≤ 100000) (i : Int) :
    Calls Try.prog 15 #[.pointer (some ⟨b, 0, none⟩), .int .i64 i] w fun e w' => TxtAns w w' (atL n L i) e := by
  unfold atL
  by_cases hi : 0 ≤ i ∧ i < n
  · rw [if_pos hi]
    obtain ⟨j, rfl⟩ := Int.eq_ofNat_of_zero_le hi.1
    obtain ⟨l, hl⟩ : ∃ l, L[j]? = some l := ⟨_, List.getElem?_eq_getElem (by rw [h.1, hC.len]; omega)⟩
    rw [Int.toNat_natCast, hl, Option.getD_some]
    refine (at_cells base b gc n j R va ah w hC (by omega) (by omega) (by omega)).mono ?_
    rintro e w' ⟨v, rfl, hown, hb⟩
    rw [← (h.told hl).1] at hown
    obtain ⟨A, k, rfl, _⟩ := own_form hown
    exact ⟨⟨A, k, rfl, Rd.of_own hown⟩, hb⟩
  · rw [if_neg hi]
    refine (at_out base b gc n R va ah i w hC hi).mono ?_
    rintro e w' ⟨rfl, hb⟩
    exact ⟨⟨none, 0, rfl, Rd.nil_⟩, hb⟩
theorem getD_len (h : RelL R ah L) (i : Nat) : ((L[i]?).getD []).length ≤ ah.length + lenR R := by
  rcases hl : L[i]? with _ | l
  · simp
  · rw [Option.getD_some, (h.told hl).2]
    exact cntR_le R ah i (i + 1)
theorem at_r (hC : RCAt w bs2 bR gl n Q L J) (i : Int) :
    Calls Try.prog 16 #[.pointer (some ⟨bR, 0, none⟩), .int .i64 i] w fun e w' => TxtAns w w' (atL n L i) e := by
  unfold atL
  by_cases hi : 0 ≤ i ∧ i < n
  · rw [if_pos hi]
    obtain ⟨j, rfl⟩ := Int.eq_ofNat_of_zero_le hi.1
    obtain ⟨l, hl⟩ : ∃ l, L[j]? = some l := ⟨_, List.getElem?_eq_getElem (by rw [hC.len]; omega)⟩
    rw [Int.toNat_natCast, hl, Option.getD_some]
    refine (rcAt_any bs2 bR gl n j Q L J l w hC hl).mono ?_
    rintro e w' ⟨⟨A, k, rfl, hr⟩, hb⟩
    exact ⟨⟨A, k, rfl, hr⟩, hb⟩
  · rw [if_neg hi]
    refine (rcAt_out bs2 bR gl n Q L J i w hC hi).mono ?_
    rintro e w' ⟨rfl, hb⟩
    exact ⟨⟨none, 0, rfl, Rd.nil_⟩, hb⟩
theorem atL_len (h : RelL R ah L) (i : Int) : (atL n L i).length ≤ ah.length + lenR R := by
  unfold atL
  split
  · exact getD_len h _
  · simp
/-- What both tell of the texts, as a fact of any world behind. -/
theorem facts_of {w0 w : World} {b gc n bR gl k : Nat} {F : List Nat} (h : LS w0 w b gc n bR gl k F id id) (hn : n ≤ 1000) (hk : k ≤ 1000) (i : Int) : ∃ T U : List Int, T.length ≤ 100000 ∧ U.length ≤ 100000 ∧
    (∀ W, Below w.heap.size w W → Calls Try.prog 13 #[.pointer (some ⟨b, 0, none⟩)] W fun e w' => TxtAns W w' T e) ∧
    (∀ W, Below w.heap.size w W → Calls Try.prog 14 #[.pointer (some ⟨bR, 0, none⟩)] W fun e w' => TxtAns W w' T e) ∧
    (∀ W, Below w.heap.size w W → Calls Try.prog 15 #[.pointer (some ⟨b, 0, none⟩), .int .i64 i] W fun e w' => TxtAns W w' U e) ∧
    (∀ W, Below w.heap.size w W → Calls Try.prog 16 #[.pointer (some ⟨bR, 0, none⟩), .int .i64 i] W fun e w' => TxtAns W w' U e) := by
  obtain ⟨base, bs2, R, va, ah, Q, L, J, Js, hS, g1, g2, g3, g4, g5, g6⟩ := h.ex
  have hsm : ah.length + lenR R ≤ 100000 := by omega
  exact ⟨L.flatten, atL n L i, Nat.le_trans (RelL.small g1) hsm, Nat.le_trans (atL_len (n := n) g1 i) hsm, fun W hb => txt_p (hS.p.low hb) g1 hn hsm, fun W hb => txt_r (hS.q.low hb) g1 hn hsm, fun W hb => at_p (hS.p.low hb) g1 hn hsm i, fun W hb => at_r (hS.q.low hb) i⟩
theorem links_tot {n : Nat} (R : List RC) (ah : List Int) (h0 : 0 < n) : (linksTo R ah (groupsS (n : Int) (joinedTo R n))).2 = cntR R ah 0 n :=
  (links_go (n := n) (R := R) (ah := ah) (groupsS (n : Int) (joinedTo R n)) 0 ([], 0) (groups_whole (joinedTo R n) (Int.natCast_nonneg n)) (by simp [totR]) ⟨fun x hx => by simp at hx, fun j j0 j1 => by omega⟩).1.trans (if_neg (by omega))
theorem finE_nil : finE 0 0 [] = 0 := by
  unfold finE
  rw [if_neg (by simp [fitB, fitN]), if_neg (by omega), if_neg (by omega), if_pos]
  intro j h0 h1
  omega
/-- The reference's answer beside the finest map, or beside what is wrong. -/
theorem cl_r (hC : RCAt w bs2 bR gl n Q L J) (hJ : w.ownsRow bs2 33 2 J Js.length (cellsS Js)) (h : RelL R ah L) (hti : TightJ n R Js) (hR : R.length = n) (hn0 : 0 < n) (hn : n ≤ 1000) (hjl : Js.length ≤ 100000) (hs : ah.length + lenR R ≤ 100000)
    (l' : List NC) (hok : finE (n : Int) (cntR R ah 0 n : Nat) (linksR n R ah) = 0 → FinIs n (cntR R ah 0 n) (linksR n R ah) l') :
    Calls Try.prog 18 #[.pointer (some ⟨bR, 0, none⟩)] w fun e w' => (∃ (A : Option Addr) (k : Nat), e = .returned (.tuple #[.slice A (if finE (n : Int) (cntR R ah 0 n : Nat) (linksR n R ah) = 0 then l' else []).length k, .int .i64 (finE (n : Int) (cntR R ah 0 n : Nat) (linksR n R ah))]) ∧ Rd w' 4 A (if finE (n : Int) (cntR R ah 0 n : Nat) (linksR n R ah) = 0 then l' else []).length (cellsC ((if finE (n : Int) (cntR R ah 0 n : Nat) (linksR n R ah) = 0 then l' else []).map NC.cl))) ∧ Below w.heap.size w w' := by
  have hg := hti.groups hR
  have htot := links_tot R ah hn0
  rw [← hg] at htot
  have hlk : (linksTo R ah (groupsS (n : Int) Js)).1 = linksR n R ah := by unfold linksR; rw [hg]
  have hml : (linksTo R ah (groupsS (n : Int) Js)).1.length ≤ 1000000 := by
    have h1 := linksTo_len R ah (groupsS (n : Int) Js) (groupsS (n : Int) Js).length
    rw [List.take_length] at h1
    have h2 : (groupsS (n : Int) Js).length ≤ 1000 := groups_len (by omega)
    omega
  have hcl := cntR_le R ah 0 n
  refine (rcClusters_any bs2 bR gl n Q L J Js R ah w hC hJ hjl hn (by omega) (fun k l hl => (h.told hl).2)
    (fun er u W W' => er = finE (n : Int) (cntR R ah 0 n : Nat) (linksR n R ah) ∧ ∃ (A : Option Addr) (k : Nat), u = .slice A (if finE (n : Int) (cntR R ah 0 n : Nat) (linksR n R ah) = 0 then l' else []).length k ∧ Rd W' 4 A (if finE (n : Int) (cntR R ah 0 n : Nat) (linksR n R ah) = 0 then l' else []).length (cellsC ((if finE (n : Int) (cntR R ah 0 n : Nat) (linksR n R ah) = 0 then l' else []).map NC.cl))) _ _ rfl htot (fun A cv W hb hr => ?_)).mono ?_
  · rw [hlk] at hr ⊢
    rw [hlk] at hml
    by_cases hE : finE (n : Int) (cntR R ah 0 n : Nat) (linksR n R ah) = 0
    · have hok' := hok hE
      simp only [hE, if_true]
      have hfit := linksR_fit R ah hn0 (by omega) (show cntR R ah 0 n ≤ 16777216 by omega)
      refine (refFinest_all (n : Int) (cntR R ah 0 n : Nat) _ cv A (linksR n R ah) l' W hr hml hE (by omega) (by omega) hfit (linksR_ok R ah hn0).cov (by rw [Int.toNat_natCast, Int.toNat_natCast]; exact hok')).mono ?_
      rintro e w' ⟨v, rfl, hown, hb2⟩
      obtain ⟨A2, k2, rfl, _⟩ := own_form hown
      exact ⟨_, _, rfl, ⟨rfl, A2, k2, rfl, Rd.of_own hown⟩, hb2⟩
    · simp only [hE, if_false]
      refine (refFinest_no (n : Int) (cntR R ah 0 n : Nat) _ cv A (linksR n R ah) W hr hml (.inl hE)).mono ?_
      rintro e w' ⟨rfl, hb2⟩
      exact ⟨_, _, rfl, ⟨rfl, none, 0, rfl, Rd.nil_⟩, hb2⟩
  · rintro e w' ⟨u, er, W, rfl, hbW, ⟨rfl, A, k, rfl, hr⟩, hb⟩
    exact ⟨⟨A, k, rfl, hr⟩, hb⟩
/-- Of no cells both tell nothing. -/
theorem cl_r0 (hC : RCAt w bs2 bR gl 0 Q L J) (hJ : w.ownsRow bs2 33 2 J Js.length (cellsS Js)) (h : RelL R ah L) (hjl : Js.length ≤ 100000) (hs : ah.length + lenR R ≤ 100000) :
    Calls Try.prog 18 #[.pointer (some ⟨bR, 0, none⟩)] w fun e w' => e = .returned (.tuple #[.slice none 0 0, .int .i64 0]) ∧ Below w.heap.size w w' := by
  have hg : groupsS ((0 : Nat) : Int) Js = [] := by unfold groupsS; simp [groupsGo]
  refine (rcClusters_any bs2 bR gl 0 Q L J Js R ah w hC hJ hjl (by omega) (by omega) (fun k l hl => (h.told hl).2) (fun er u _ _ => er = 0 ∧ u = .slice none 0 0) 0 0 (by rw [hg]; rfl) (by rw [hg]; rfl) (fun A cv W hb hr => ?_)).mono ?_
  · rw [hg] at hr
    refine (refFinest_no 0 0 0 cv A [] W hr (by omega) (.inr rfl)).mono ?_
    rintro e w' ⟨rfl, hb2⟩
    exact ⟨_, _, rfl, ⟨finE_nil, rfl⟩, hb2⟩
  · rintro e w' ⟨u, er, W, rfl, hbW, ⟨rfl, rfl⟩, hb⟩
    exact ⟨rfl, hb⟩
end
end Go.Proofs.Ytcbiaeeifclieaa
/- The reference's New, refused; both new. -/
namespace Go.Proofs.Ytcbiaeeifclieaa
open Go.RowKit

theorem rcNew_no (n : Int) (h : n < 0 ∨ 16777216 < n) (w : World) : Calls Try.prog 10 #[.int .i64 n] w fun e w' => e = .returned (.tuple #[.pointer none, .int .i64 1]) ∧ w = w' := by
  have hc : n < 0 ∨ (0 ≤ n ∧ 16777216 < n) := by omega
  clear h
  rcases hc with h | ⟨h, h'⟩
  all_goals
    go_enter Try.func10, Try.ntmps10
    go_wp2
    exact bodyPost_ret (v := .tuple #[.pointer none, .int .i64 1]) (by simp [results, go_sem]) rfl ⟨rfl, rfl⟩
theorem ls_new {w0 w1 w2 : World} {b gc base n bR gl bs2 : Nat} (hb1 : Below w0.heap.size w0 w1) (hC : CellsAt w1 base b gc n (List.replicate n zRC) (.slice none 0 0) []) (h1 : w0.heap.size ≤ b) (h2 : w0.heap.size ≤ gc) (hb2 : Below w1.heap.size w1 w2) (hQ : RCAt w2 bs2 bR gl n (List.replicate n (.slice none 0 0)) (List.replicate n []) (.slice none 0 0)) (h3 : w1.heap.size ≤ bR) (h4 : w1.heap.size ≤ gl) : LS w0 w2 b gc n bR gl 0 [] id id := by
  have hz := hb1.size
  have hno : ∀ x, ¬ RowB (List.replicate n zRC) (.slice none 0 0) x := fun x hx => by
    rcases hx with hx | ⟨i, r, hi, hx⟩
    · cases hx
    · rw [List.getElem?_replicate] at hi
      split at hi
      · obtain rfl := Option.some.inj hi
        cases hx
      · cases hi
  refine ⟨⟨base, bs2, _, _, _, _, _, _, [], ⟨hC.low hb2, hQ, ⟨rfl, .inl ⟨rfl, rfl⟩⟩, fun x hx => absurd hx (hno x)⟩, RelL.new_ n zRC rfl, TightJ.nil (fun i r hi => ?_), fun i r hi => ?_, ?_, by simp, by simp⟩, hb1.trans (hb2.mono hz), h1, h2, by omega, by omega⟩
  · rw [List.getElem?_replicate] at hi
    split at hi
    · obtain rfl := Option.some.inj hi
      simp [zRC]
    · cases hi
  · rw [List.getElem?_replicate] at hi
    split at hi
    · obtain rfl := Option.some.inj hi
      simp [zRC]
    · cases hi
  · simp [lenR, zRC]
end Go.Proofs.Ytcbiaeeifclieaa
