/- What is held in memory while the table is laid. -/
import Derived.Test.YtcbiaeeifclieaaTrRi
import Derived.Test.YtcbiaeeifclieaaTrM
import Derived.Test.YtcbiaeeifclieaaTrS2
namespace Go.Proofs.Ytcbiaeeifclieaa
open Go.RowKit

/-- The cells of blocks. -/
def cellsK (bl : List (List Int)) : List Value := bl.flatMap fun b => b.map (Value.int .i64)
theorem cellsK_snoc (bl : List (List Int)) (b : List Int) : cellsK (bl ++ [b]) = cellsK bl ++ b.map (Value.int .i64) := by simp [cellsK]
theorem cellsK_len {bl : List (List Int)} (h : ∀ b ∈ bl, b.length = 128) : (cellsK bl).length = bl.length * 128 := by
  induction bl with
  | nil => rfl
  | cons b bl ih =>
    show (b.map (Value.int .i64) ++ cellsK bl).length = _
    rw [List.length_append, ih (fun c hc => h c (by simp [hc])), List.length_map, h b (by simp), List.length_cons]
    omega
theorem cellsK_at {bl : List (List Int)} (h : ∀ b ∈ bl, b.length = 128) {q j : Nat} {b : List Int} (hq : bl[q]? = some b) (hj : j < 128) : (cellsK bl)[q * 128 + j]? = (b[j]?).map (Value.int .i64) := by
  induction bl generalizing q with
  | nil => simp at hq
  | cons a bl ih =>
    have ha := h a (by simp)
    have hc : cellsK (a :: bl) = a.map (Value.int .i64) ++ cellsK bl := rfl
    rw [hc]
    cases q with
    | zero =>
      simp at hq
      subst hq
      rw [List.getElem?_append_left (by rw [List.length_map, ha]; omega), List.getElem?_map, Nat.zero_mul, Nat.zero_add]
    | succ q =>
      rw [List.getElem?_append_right (by rw [List.length_map, ha]; omega), List.length_map, ha, show (q + 1) * 128 + j - 128 = q * 128 + j by omega]
      exact ih (fun c hc => h c (by simp [hc])) (by simpa using hq)
/-- The map tells of each block its place. -/
def MapIs (D : DataW Unit) (bl : List (List Int)) : Prop := Maps.IsMap D ∧ ∀ b kl, keyOf Try.prog 154 (.agg (intsA b)) = some kl →
  (Maps.has D kl = true ↔ b ∈ bl) ∧ ∀ q, bl[q]? = some b → D.atKey kl (.lit (.int .u16 0)) = .lit (.int .u16 (q : Nat))
theorem MapIs.start : MapIs (.map []) [] := ⟨Maps.isMap_empty, fun b kl _ => ⟨by simp [Maps.has], fun q hq => by simp at hq⟩⟩
theorem MapIs.put {D : DataW Unit} {bl : List (List Int)} {b : List Int} {kl : Lit} (h : MapIs D bl) (hk : keyOf Try.prog 154 (.agg (intsA b)) = some kl) (hn : b ∉ bl) : MapIs (D.put kl (.lit (.int .u16 (bl.length : Nat)))) (bl ++ [b]) := by
  have hl := blkKeyed.key hk
  refine ⟨h.1.put _ _, fun b' kl' hk' => ?_⟩
  by_cases e : b' = b
  · subst e
    obtain rfl : kl = kl' := Option.some.inj (hk.symm.trans hk')
    refine ⟨?_, fun q hq => ?_⟩
    · rw [Maps.has_put_same h.1 hl]
      simp
    · rw [Maps.atKey_put_same h.1 hl]
      have hlt := (List.getElem?_eq_some_iff.1 hq).1
      have : q = bl.length := by
        simp at hlt
        rcases Nat.lt_or_ge q bl.length with h' | h'
        · rw [List.getElem?_append_left h'] at hq
          exact absurd (List.mem_of_getElem? hq) hn
        · omega
      rw [this]
  · have hne : kl' ≠ kl := fun e' => e (intsA_inj (blkKeyed.inj (e' ▸ hk') hk))
    obtain ⟨h1, h2⟩ := h.2 b' kl' hk'
    refine ⟨?_, fun q hq => ?_⟩
    · rw [Maps.has_put_other hne, h1]
      simp [e]
    · rw [Maps.atKey_put_other hne]
      apply h2
      have hlt := (List.getElem?_eq_some_iff.1 hq).1
      rcases Nat.lt_or_ge q bl.length with h' | h'
      · rwa [List.getElem?_append_left h'] at hq
      · exfalso
        obtain rfl : q = bl.length := by simp at hlt; omega
        simp at hq
        exact e hq.symm
/-- The struct's cells, k places laid. -/
structure StCells (cs : Array Value) (z : Int) (wh : List Nat) (v : Value) : Prop where
  size : cs.size = 8706
  blocks : cs[8704]? = some v
  none_ : cs[8705]? = some (.int .i64 z)
  which : ∀ (j q : Nat), wh[j]? = some q → cs[j]? = some (.int .u16 q)
  one : cs.all (·.oneCell') = true
theorem all_set {cs : Array Value} {j : Nat} {u : Value} (h : cs.all (·.oneCell') = true) (hu : u.oneCell' = true) : (cs.setIfInBounds j u).all (·.oneCell') = true := by
  rw [Array.all_eq_true_iff_forall_mem] at h ⊢
  intro x hx
  rcases Array.mem_or_eq_of_mem_setIfInBounds hx with hx | rfl
  · exact h x hx
  · exact hu
theorem StCells.lay {cs : Array Value} {z : Int} {wh : List Nat} {v : Value} (h : StCells cs z wh v) (hk : wh.length < 8704) (q : Nat) : StCells (cs.setIfInBounds wh.length (.int .u16 q)) z (wh ++ [q]) v := by
  refine ⟨by simp [h.size], ?_, ?_, fun j q' hj => ?_, all_set h.one rfl⟩
  · rw [Array.getElem?_setIfInBounds_ne (by omega)]; exact h.blocks
  · rw [Array.getElem?_setIfInBounds_ne (by omega)]; exact h.none_
  · by_cases e : j = wh.length
    · subst e
      rw [List.getElem?_append_right (Nat.le_refl _), Nat.sub_self] at hj
      simp at hj
      subst hj
      rw [Array.getElem?_setIfInBounds_self_of_lt (by rw [h.size]; omega)]
    · have hl := (List.getElem?_eq_some_iff.1 hj).1
      simp at hl
      rw [List.getElem?_append_left (by omega)] at hj
      rw [Array.getElem?_setIfInBounds_ne (by omega)]
      exact h.which j q' hj
theorem StCells.grow {cs : Array Value} {z : Int} {wh : List Nat} {v : Value} (h : StCells cs z wh v) (hk : wh.length ≤ 8704) (v' : Value) (hv : v'.oneCell' = true) : StCells (cs.setIfInBounds 8704 v') z wh v' := by
  refine ⟨by simp [h.size], ?_, ?_, fun j q' hj => ?_, all_set h.one hv⟩
  · rw [Array.getElem?_setIfInBounds_self_of_lt (by rw [h.size]; omega)]
  · rw [Array.getElem?_setIfInBounds_ne (by omega)]; exact h.none_
  · have hl := (List.getElem?_eq_some_iff.1 hj).1
    rw [Array.getElem?_setIfInBounds_ne (by omega)]
    exact h.which j q' hj
/-- A block of cells, none frozen, known whole. -/
def CellBlk (w : World) (g : Nat) (cs : Array Value) : Prop := ∃ T, w.heap[g]? = some (.cells cs T (0, 0))
theorem CellBlk.lt {w : World} {g : Nat} {cs : Array Value} (h : CellBlk w g cs) : g < w.heap.size := by
  obtain ⟨T, h⟩ := h
  exact (Array.getElem?_eq_some_iff.1 h).1
theorem CellBlk.cell {w : World} {g : Nat} {cs : Array Value} (h : CellBlk w g cs) {j : Nat} {u : Value} (hj : cs[j]? = some u) : w.cell? ⟨g, j, none⟩ = some u := by
  obtain ⟨T, h⟩ := h
  simp [World.cell?, h, hj]
theorem CellBlk.thaw {w : World} {g : Nat} {cs : Array Value} (h : CellBlk w g cs) (j : Nat) : w.frozen? ⟨g, j, none⟩ = false := by
  obtain ⟨T, h⟩ := h
  simp [World.frozen?, h]
theorem CellBlk.store {w : World} {g : Nat} {cs : Array Value} (h : CellBlk w g cs) (j : Nat) (u : Value) : CellBlk (w.setCell ⟨g, j, none⟩ u) g (cs.setIfInBounds j u) := by
  obtain ⟨T, h⟩ := h
  exact ⟨T, by simp [World.setCell, Array.getElem?_modify, h]⟩
theorem CellBlk.far {w : World} {g g' : Nat} {cs : Array Value} (h : CellBlk w g cs) (hne : g ≠ g') (j : Nat) (u : Value) : CellBlk (w.setCell ⟨g', j, none⟩ u) g cs := by
  obtain ⟨T, h⟩ := h
  exact ⟨T, (Below.heap_setCell w ⟨g', j, none⟩ u g hne).trans h⟩
theorem CellBlk.grown {w w' : World} {g : Nat} {cs : Array Value} {row : Option Nat} (h : CellBlk w g cs) (hg : w.grownBy w' row) (hne : row ≠ some g) : CellBlk w' g cs := by
  obtain ⟨T, h⟩ := h
  exact ⟨T, blk_grown h hg hne⟩
theorem CellBlk.below {w w' : World} {g : Nat} {cs : Array Value} (h : CellBlk w g cs) (hb : Below w.heap.size w w') : CellBlk w' g cs := h.grown (grown_of_below' none hb) (fun e => by cases e)

/-- What is held in memory while the table is laid: the result's block, the struct's, the map's, the blocks' row. -/
structure StMem (w0 : World) (z : Int) (bl : List (List Int)) (wh : List Nat) (wr : World) : Prop where
  res : ∃ Z : Array Value, Z.size = 8706 ∧ CellBlk wr w0.heap.size Z
  st : ∃ cs v, CellBlk wr (w0.heap.size + 1) cs ∧ StCells cs z wh v ∧ wr.ownsRow (w0.heap.size + 3) 154 128 v bl.length (cellsK bl)
  map : ∃ D : DataW Unit, wr.ownsMap Try.prog 154 (plainElem Try.prog 133) (w0.heap.size + 2) bl.length D ∧ MapIs D bl
  below : Below w0.heap.size w0 wr
def StAt (w0 : World) (l0 : List Rg) (z : Int) (n0 : Nat) (s i : Value) (wr : World) : Prop :=
  ∃ (k n c : Nat) (A : Option Addr) (l : List Rg) (bl : List (List Int)) (wh : List Nat), i = .int .i64 k ∧ k ≤ 8704 ∧ s = .slice A n c ∧ n ≤ n0 ∧ n ≤ c ∧ Rd w0 3 A n (cellsG l) ∧ LeftOf l0 z k l ∧ StInv l0 z k bl wh ∧ StMem w0 z bl wh wr
end Go.Proofs.Ytcbiaeeifclieaa
