/- Texts of one claim, one behind the other. -/
import Derived.Great.FillDense
import Derived.Great.BuildSlice
import Derived.Maps.Own
import Derived.Maps.OwnSet
import Derived.Maps.Keyed
import Derived.DeepKeys4
import Derived.LaidMore
import Derived.Stop.Joined
import Derived.BigQuiet
import Derived.Maps.OwnOps
import Derived.Test.YtdgomaoikeffhaaGreatMgAp1
import Derived.Test.YtdgomaoikeffhaaGreatMgAp2
import Derived.Test.YtdgomaoikeffhaaGreatMgAp6
/- The table's struct as it is built; a block as an element of a slice literal, and as a map's key. -/
namespace Go.Proofs.YtdgomaoikeffhaaGreat
open Go.RowKit Go.ChangeShapes Go.WideShapes Go.ChangeAt

set_option maxRecDepth 100000 in
theorem stZero : ∃ Z : Array Value, Z.size = 8706 ∧ Z[8704]? = some (.slice none 0 0) ∧ Z.toList.all (·.oneCell') = true ∧ (Tryz.prog.info? 72).map (fun i => (i.zero, i.size)) = some (some (.agg Z), 8706) :=
  ⟨(Tryz.t72.zero.getD (.bool false)).cells, by kernel_rfl, by kernel_rfl, by kernel_rfl, by kernel_rfl⟩
theorem fill_one (place : Nat → Option (Nat × Nat)) (cells : Array Value) (i : Nat) (v : Value) (off size : Nat) (hp : place i = some (off, size)) (hv : v.cells.size = size) (ho : off + size ≤ cells.size) :
    ∃ r, Instr.fill place cells [(i, v)] = some r ∧ r.size = cells.size ∧ ∀ k, r[k]? = if off ≤ k ∧ k < off + size then v.cells[k - off]? else cells[k]? := by
  obtain ⟨g1, g2⟩ := Great.foldl_set off v.cells.toList 0 cells
  refine ⟨(v.cells.toList.zipIdx 0).foldl (fun cs (x : Value × Nat) => cs.setIfInBounds (off + x.2) x.1) cells, ?_, g1, fun k => ?_⟩
  · rw [Instr.fill, hp]
    simp only [hv]
    rw [if_neg (by simp; omega), Instr.fill]
    congr 1
    rw [← Array.foldl_toList]
    simp
  · rw [g2 k]
    simp only [Nat.add_zero, Array.length_toList, hv]
    by_cases hk : off ≤ k ∧ k < off + size
    · rw [if_pos ⟨hk.1, hk.2, by omega⟩, if_pos hk]
      simp
    · rw [if_neg (by omega), if_neg hk]
set_option maxRecDepth 100000 in
/-- stages{none: z}. -/
theorem stBuilt (z : Int) : ∃ C : Array Value, Tryz.prog.built 72 [(2, .int .i64 z)] = some C ∧ C.size = 8706 ∧ C[8704]? = some (.slice none 0 0) ∧ C[8705]? = some (.int .i64 z) ∧ C.all (·.oneCell') = true := by
  obtain ⟨Z, h1, h2, h3, h4⟩ := stZero
  cases hq : Tryz.prog.info? 72 with
  | none => rw [hq] at h4; simp at h4
  | some it =>
    rw [hq] at h4
    simp only [Option.map_some, Option.some.injEq, Prod.mk.injEq] at h4
    have hpl : ∀ fs, Tryz.prog.underlying 72 = some (.struct fs) → List.mapM (fun f => Option.map (fun i => (f.offset, i.size)) (Tryz.prog.info? f.type)) fs.toList = some [(0, 8704), (8704, 1), (8705, 1)] := by
      intro fs hfs
      rw [Tryz.underlying72] at hfs
      injection hfs with hfs
      injection hfs with hfs
      subst hfs
      kernel_rfl
    obtain ⟨r, hr, hs, hk⟩ := fill_one (fun x => (#[(0, 8704), (8704, 1), (8705, 1)] : Array (Nat × Nat))[x]?) Z 2 (.int .i64 z) 8705 1 rfl rfl (by omega)
    refine ⟨r, ?_, by rw [hs, h1], by rw [hk, if_neg (by omega)]; exact h2, by rw [hk, if_pos (by omega)]; rfl, ?_⟩
    · unfold Program.built
      rw [hq]
      have hu := Tryz.underlying72
      rw [hu]
      simp only
      rw [h4.1, hpl _ hu]
      exact hr
    · rw [Array.all_eq_true_iff_forall_mem]
      intro v hv
      obtain ⟨k, hk1, rfl⟩ := Array.getElem_of_mem hv
      have e := hk k
      rw [Array.getElem?_eq_getElem hk1] at e
      by_cases hc : 8705 ≤ k ∧ k < 8705 + 1
      · rw [if_pos hc] at e
        obtain rfl : k = 8705 := by omega
        have : r[8705] = .int .i64 z := by simpa [Value.cells] using e
        rw [this]; rfl
      · rw [if_neg hc] at e
        have := List.all_eq_true.1 h3 r[k] (by
          have := Array.mem_of_getElem? e.symm
          simpa using this)
        exact this
set_option maxRecDepth 100000 in
/-- Table{s}. -/
theorem tabBuilt (cs : Array Value) (hs : cs.size = 8706) : Tryz.prog.built 75 [(0, .agg cs)] = some cs := by
  have h4 : ∃ Z : Array Value, Z.size = 8706 ∧ (Tryz.prog.info? 75).map (fun i => (i.zero, i.size)) = some (some (.agg Z), 8706) :=
    ⟨(Tryz.t75.zero.getD (.bool false)).cells, by kernel_rfl, by kernel_rfl⟩
  obtain ⟨Z, h1, h4⟩ := h4
  cases hq : Tryz.prog.info? 75 with
  | none => rw [hq] at h4; simp at h4
  | some it =>
    rw [hq] at h4
    simp only [Option.map_some, Option.some.injEq, Prod.mk.injEq] at h4
    have hpl : ∀ fs, Tryz.prog.underlying 75 = some (.struct fs) → List.mapM (fun f => Option.map (fun i => (f.offset, i.size)) (Tryz.prog.info? f.type)) fs.toList = some [(0, 8706)] := by
      intro fs hfs
      rw [Tryz.underlying75] at hfs
      injection hfs with hfs
      injection hfs with hfs
      subst hfs
      kernel_rfl
    obtain ⟨r, hr, hs', hk⟩ := fill_one (fun x => (#[(0, 8706)] : Array (Nat × Nat))[x]?) Z 0 (.agg cs) 0 8706 rfl hs (by omega)
    have e : r = cs := by
      apply Array.ext_getElem?
      intro k
      rw [hk k]
      by_cases hc : 0 ≤ k ∧ k < 0 + 8706
      · rw [if_pos hc]; rfl
      · rw [if_neg hc, Array.getElem?_eq_none (by omega), Array.getElem?_eq_none (by omega)]
    unfold Program.built
    rw [hq]
    have hu := Tryz.underlying75
    rw [hu]
    simp only
    rw [h4.1, hpl _ hu]
    rw [e] at hr
    exact hr

/-- A literal of one block. -/
theorem blkFill (b : List Int) (hb : b.length = 128) (cells : Array Value) (hc : cells.size = 128) : Instr.fill (fun i => some (i * 128, 128)) cells [(0, .agg (intsA b))] = some (intsA b) := by
  have hz : (Value.agg (intsA b)).cells.size = 128 := by show (intsA b).size = 128; rw [intsA_size, hb]
  obtain ⟨r, hr, hs, hk⟩ := fill_one (fun i => some (i * 128, 128)) cells 0 (.agg (intsA b)) 0 128 rfl hz (by omega)
  rw [hr]
  congr 1
  apply Array.ext_getElem?
  intro k
  rw [hk k]
  by_cases h : 0 ≤ k ∧ k < 0 + 128
  · rw [if_pos h]; rfl
  · rw [if_neg h, Array.getElem?_eq_none (by omega), Array.getElem?_eq_none (by rw [intsA_size]; omega)]

theorem laidOutT : laidOutB Tryz.prog = true := by kernel_rfl
theorem blkKeyed : Maps.Keyed Tryz.prog 100 := Maps.Keyed.of_law (deep_law_laid laidOutT (m := 5) (by decide) (of_decide_eq_true (by kernel_rfl)) (by kernel_rfl) (by rw [Tryz.underlying100]))
theorem mapM_some {α β : Type} {f : α → Option β} : ∀ {l : List α}, (∀ x ∈ l, ∃ y, f x = some y) → ∃ ys, l.mapM f = some ys
  | [], _ => ⟨[], rfl⟩
  | x :: l, h => by
    obtain ⟨y, hy⟩ := h x (by simp)
    obtain ⟨ys, hys⟩ := mapM_some (l := l) (fun u hu => h u (by simp [hu]))
    exact ⟨y :: ys, by simp [hy, hys]⟩
def FitI (x : Int) : Prop := -9223372036854775808 ≤ x ∧ x ≤ 9223372036854775807
theorem blkKey (b : List Int) (hb : b.length = 128) (hf : ∀ x ∈ b, FitI x) : ∃ kl, keyOf Tryz.prog 100 (.agg (intsA b)) = some kl := by
  have hu := Tryz.underlying100
  have hk : Tryz.prog.keyType 100 = true := by kernel_rfl
  have hc : Tryz.prog.cellsOf 100 = 128 := by kernel_rfl
  have hc3 : Tryz.prog.cellsOf 3 = 1 := by kernel_rfl
  have hform : (Value.agg (intsA b)).formed Tryz.prog 100 = true := by
    unfold Value.formed
    rw [hu]
    simp [hc, intsA_size, hb]
  have hs0 : decide (0 < Tryz.prog.types.size) = true := by kernel_rfl
  obtain ⟨n, hn⟩ : ∃ n, Tryz.prog.types.size = n + 1 := ⟨Tryz.prog.types.size - 1, by have := of_decide_eq_true hs0; omega⟩
  unfold keyOf
  rw [hu]
  simp only [hk, hform, Bool.and_self, if_true]
  rw [hn]
  unfold Program.keyLits
  rw [hu]
  dsimp only
  rw [if_pos (show (Value.agg (intsA b)).cells.toList.length = Tryz.prog.cellsOf 100 by rw [hc]; show (intsA b).toList.length = 128; simp [intsA, hb])]
  obtain ⟨ys, hys⟩ := mapM_some (f := fun i => Tryz.prog.keyLits (n + 1) 3 (((intsA b).toList.drop (i * Tryz.prog.cellsOf 3)).take (Tryz.prog.cellsOf 3))) (l := List.range 128) (fun i hi => by
    have hi' : i < 128 := by simpa using hi
    have hx : b[i]? = some b[i] := List.getElem?_eq_getElem (by omega)
    have hm : ((intsA b).toList.drop (i * Tryz.prog.cellsOf 3)).take (Tryz.prog.cellsOf 3) = [.int .i64 b[i]] := by
      rw [hc3, Nat.mul_one]
      show ((b.map (Value.int .i64)).toArray.toList.drop i).take 1 = _
      rw [List.drop_eq_getElem_cons (by simp; omega)]
      simp
    rw [hm]
    unfold Program.keyLits
    rw [Tryz.underlying3]
    have hw : (Lit.int .i64 b[i]).wf = true := by
      have := hf b[i] (List.getElem_mem _)
      unfold FitI at this
      simp [Lit.wf, IntKind.min, IntKind.max, IntKind.signed, IntKind.bits]
      omega
    simp [hw])
  rw [show (Value.agg (intsA b)).cells = intsA b from rfl, hys]
  exact ⟨_, rfl⟩
theorem intsA_inj {a b : List Int} (h : Value.agg (intsA a) = Value.agg (intsA b)) : a = b := by
  injection h with h
  unfold intsA at h
  have h' : a.map (Value.int .i64) = b.map (Value.int .i64) := by simpa using h
  have hi : Function.Injective (Value.int .i64) := fun x y e => by injection e
  exact (List.map_inj_right (fun x y e => hi e)).1 h'
end Go.Proofs.YtdgomaoikeffhaaGreat
/- What is held in memory while the table is laid. -/
namespace Go.Proofs.YtdgomaoikeffhaaGreat
open Go.RowKit

/-- The cells of blocks. -/
def cellsK (bl : List (List Int)) : List Value := bl.flatMap fun b => b.map (Value.int .i64)
theorem cellsK_snoc (bl : List (List Int)) (b : List Int) : cellsK (bl ++ [b]) = cellsK bl ++ b.map (Value.int .i64) := by simp [cellsK]
theorem cellsK_len {bl : List (List Int)} (h : ∀ b ∈ bl, b.length = 128) : (cellsK bl).length = bl.length * 128 := by
  induction bl with
  | nil => rfl
  | cons b bl ih =>
    show (b.map (Value.int .i64) ++ cellsK bl).length = _
    rw [List.length_append, ih (fun c hc => h c (by simp [hc])), List.length_map, h b (by simp), List.length_cons]
    omega
theorem cellsK_at {bl : List (List Int)} (h : ∀ b ∈ bl, b.length = 128) {q j : Nat} {b : List Int} (hq : bl[q]? = some b) (hj : j < 128) : (cellsK bl)[q * 128 + j]? = (b[j]?).map (Value.int .i64) := by
  induction bl generalizing q with
  | nil => simp at hq
  | cons a bl ih =>
    have ha := h a (by simp)
    have hc : cellsK (a :: bl) = a.map (Value.int .i64) ++ cellsK bl := rfl
    rw [hc]
    cases q with
    | zero =>
      simp at hq
      subst hq
      rw [List.getElem?_append_left (by rw [List.length_map, ha]; omega), List.getElem?_map, Nat.zero_mul, Nat.zero_add]
    | succ q =>
      rw [List.getElem?_append_right (by rw [List.length_map, ha]; omega), List.length_map, ha, show (q + 1) * 128 + j - 128 = q * 128 + j by omega]
      exact ih (fun c hc => h c (by simp [hc])) (by simpa using hq)
/-- The map tells of each block its place. -/
def MapIs (D : DataW Unit) (bl : List (List Int)) : Prop := Maps.IsMap D ∧ ∀ b kl, keyOf Tryz.prog 100 (.agg (intsA b)) = some kl →
  (Maps.has D kl = true ↔ b ∈ bl) ∧ ∀ q, bl[q]? = some b → D.atKey kl (.lit (.int .u16 0)) = .lit (.int .u16 (q : Nat))
theorem MapIs.start : MapIs (.map []) [] := ⟨Maps.isMap_empty, fun b kl _ => ⟨by simp [Maps.has], fun q hq => by simp at hq⟩⟩
theorem MapIs.put {D : DataW Unit} {bl : List (List Int)} {b : List Int} {kl : Lit} (h : MapIs D bl) (hk : keyOf Tryz.prog 100 (.agg (intsA b)) = some kl) (hn : b ∉ bl) : MapIs (D.put kl (.lit (.int .u16 (bl.length : Nat)))) (bl ++ [b]) := by
  have hl := blkKeyed.key hk
  refine ⟨h.1.put _ _, fun b' kl' hk' => ?_⟩
  by_cases e : b' = b
  · subst e
    obtain rfl : kl = kl' := Option.some.inj (hk.symm.trans hk')
    refine ⟨?_, fun q hq => ?_⟩
    · rw [Maps.has_put_same h.1 hl]
      simp
    · rw [Maps.atKey_put_same h.1 hl]
      have hlt := (List.getElem?_eq_some_iff.1 hq).1
      have : q = bl.length := by
        simp at hlt
        rcases Nat.lt_or_ge q bl.length with h' | h'
        · rw [List.getElem?_append_left h'] at hq
          exact absurd (List.mem_of_getElem? hq) hn
        · omega
      rw [this]
  · have hne : kl' ≠ kl := fun e' => e (intsA_inj (blkKeyed.inj (e' ▸ hk') hk))
    obtain ⟨h1, h2⟩ := h.2 b' kl' hk'
    refine ⟨?_, fun q hq => ?_⟩
    · rw [Maps.has_put_other hne, h1]
      simp [e]
    · rw [Maps.atKey_put_other hne]
      apply h2
      have hlt := (List.getElem?_eq_some_iff.1 hq).1
      rcases Nat.lt_or_ge q bl.length with h' | h'
      · rwa [List.getElem?_append_left h'] at hq
      · exfalso
        obtain rfl : q = bl.length := by simp at hlt; omega
        simp at hq
        exact e hq.symm
/-- The struct's cells, k places laid. -/
structure StCells (cs : Array Value) (z : Int) (wh : List Nat) (v : Value) : Prop where
  size : cs.size = 8706
  blocks : cs[8704]? = some v
  none_ : cs[8705]? = some (.int .i64 z)
  which : ∀ (j q : Nat), wh[j]? = some q → cs[j]? = some (.int .u16 q)
  one : cs.all (·.oneCell') = true
theorem all_set {cs : Array Value} {j : Nat} {u : Value} (h : cs.all (·.oneCell') = true) (hu : u.oneCell' = true) : (cs.setIfInBounds j u).all (·.oneCell') = true := by
  rw [Array.all_eq_true_iff_forall_mem] at h ⊢
  intro x hx
  rcases Array.mem_or_eq_of_mem_setIfInBounds hx with hx | rfl
  · exact h x hx
  · exact hu
theorem StCells.lay {cs : Array Value} {z : Int} {wh : List Nat} {v : Value} (h : StCells cs z wh v) (hk : wh.length < 8704) (q : Nat) : StCells (cs.setIfInBounds wh.length (.int .u16 q)) z (wh ++ [q]) v := by
  refine ⟨by simp [h.size], ?_, ?_, fun j q' hj => ?_, all_set h.one rfl⟩
  · rw [Array.getElem?_setIfInBounds_ne (by omega)]; exact h.blocks
  · rw [Array.getElem?_setIfInBounds_ne (by omega)]; exact h.none_
  · by_cases e : j = wh.length
    · subst e
      rw [List.getElem?_append_right (Nat.le_refl _), Nat.sub_self] at hj
      simp at hj
      subst hj
      rw [Array.getElem?_setIfInBounds_self_of_lt (by rw [h.size]; omega)]
    · have hl := (List.getElem?_eq_some_iff.1 hj).1
      simp at hl
      rw [List.getElem?_append_left (by omega)] at hj
      rw [Array.getElem?_setIfInBounds_ne (by omega)]
      exact h.which j q' hj
theorem StCells.grow {cs : Array Value} {z : Int} {wh : List Nat} {v : Value} (h : StCells cs z wh v) (hk : wh.length ≤ 8704) (v' : Value) (hv : v'.oneCell' = true) : StCells (cs.setIfInBounds 8704 v') z wh v' := by
  refine ⟨by simp [h.size], ?_, ?_, fun j q' hj => ?_, all_set h.one hv⟩
  · rw [Array.getElem?_setIfInBounds_self_of_lt (by rw [h.size]; omega)]
  · rw [Array.getElem?_setIfInBounds_ne (by omega)]; exact h.none_
  · have hl := (List.getElem?_eq_some_iff.1 hj).1
    rw [Array.getElem?_setIfInBounds_ne (by omega)]
    exact h.which j q' hj
/-- A block of cells, none frozen, known whole. -/
def CellBlk (w : World) (g : Nat) (cs : Array Value) : Prop := ∃ T, w.heap[g]? = some (.cells cs T (0, 0))
theorem CellBlk.lt {w : World} {g : Nat} {cs : Array Value} (h : CellBlk w g cs) : g < w.heap.size := by
  obtain ⟨T, h⟩ := h
  exact (Array.getElem?_eq_some_iff.1 h).1
theorem CellBlk.cell {w : World} {g : Nat} {cs : Array Value} (h : CellBlk w g cs) {j : Nat} {u : Value} (hj : cs[j]? = some u) : w.cell? ⟨g, j, none⟩ = some u := by
  obtain ⟨T, h⟩ := h
  simp [World.cell?, h, hj]
theorem CellBlk.thaw {w : World} {g : Nat} {cs : Array Value} (h : CellBlk w g cs) (j : Nat) : w.frozen? ⟨g, j, none⟩ = false := by
  obtain ⟨T, h⟩ := h
  simp [World.frozen?, h]
theorem CellBlk.store {w : World} {g : Nat} {cs : Array Value} (h : CellBlk w g cs) (j : Nat) (u : Value) : CellBlk (w.setCell ⟨g, j, none⟩ u) g (cs.setIfInBounds j u) := by
  obtain ⟨T, h⟩ := h
  exact ⟨T, by simp [World.setCell, Array.getElem?_modify, h]⟩
theorem CellBlk.far {w : World} {g g' : Nat} {cs : Array Value} (h : CellBlk w g cs) (hne : g ≠ g') (j : Nat) (u : Value) : CellBlk (w.setCell ⟨g', j, none⟩ u) g cs := by
  obtain ⟨T, h⟩ := h
  exact ⟨T, (Below.heap_setCell w ⟨g', j, none⟩ u g hne).trans h⟩
theorem CellBlk.grown {w w' : World} {g : Nat} {cs : Array Value} {row : Option Nat} (h : CellBlk w g cs) (hg : w.grownBy w' row) (hne : row ≠ some g) : CellBlk w' g cs := by
  obtain ⟨T, h⟩ := h
  exact ⟨T, blk_grown h hg hne⟩
theorem CellBlk.below {w w' : World} {g : Nat} {cs : Array Value} (h : CellBlk w g cs) (hb : Below w.heap.size w w') : CellBlk w' g cs := h.grown (grown_of_below' none hb) (fun e => by cases e)

/-- What is held in memory while the table is laid: the result's block, the struct's, the map's, the blocks' row. -/
structure StMem (w0 : World) (z : Int) (bl : List (List Int)) (wh : List Nat) (wr : World) : Prop where
  res : ∃ Z : Array Value, Z.size = 8706 ∧ CellBlk wr w0.heap.size Z
  st : ∃ cs v, CellBlk wr (w0.heap.size + 1) cs ∧ StCells cs z wh v ∧ wr.ownsRow (w0.heap.size + 3) 100 128 v bl.length (cellsK bl)
  map : ∃ D : DataW Unit, wr.ownsMap Tryz.prog 100 (plainElem Tryz.prog 68) (w0.heap.size + 2) bl.length D ∧ MapIs D bl
  below : Below w0.heap.size w0 wr
def StAt (w0 : World) (l0 : List Rg) (z : Int) (n0 : Nat) (s i : Value) (wr : World) : Prop :=
  ∃ (k n c : Nat) (A : Option Addr) (l : List Rg) (bl : List (List Int)) (wh : List Nat), i = .int .i64 k ∧ k ≤ 8704 ∧ s = .slice A n c ∧ n ≤ n0 ∧ n ≤ c ∧ Rd w0 3 A n (cellsG l) ∧ LeftOf l0 z k l ∧ StInv l0 z k bl wh ∧ StMem w0 z bl wh wr
end Go.Proofs.YtdgomaoikeffhaaGreat
/- Steps of what is held in memory while the table is laid. -/
namespace Go.Proofs.YtdgomaoikeffhaaGreat
open Go.RowKit

theorem own_ne {w : World} {base : Nat} {e : TypeId} {size n g : Nat} {v : Value} {xs : List Value} (h : w.ownsRow base e size v n xs) (hg : g < base) : v.ownBlock ≠ some g := fun e => by
  have := (h.lt g e).1
  omega
theorem StMem.grown {w0 wr w' : World} {z : Int} {bl : List (List Int)} {wh : List Nat} (h : StMem w0 z bl wh wr) (hg : wr.grownBy w' none) : StMem w0 z bl wh w' := by
  obtain ⟨Z, hZ, hr⟩ := h.res
  obtain ⟨cs, v, h1, h2, h3⟩ := h.st
  obtain ⟨D, h4, h5⟩ := h.map
  exact ⟨⟨Z, hZ, hr.grown hg (by simp)⟩, ⟨cs, v, h1.grown hg (by simp), h2, h3.kept (row := none) hg (by rcases hv : v.ownBlock with _ | g; exact .inl rfl; exact .inr (by simp))⟩, ⟨D, h4.kept hg (by simp), h5⟩,
    h.below.grown hg h.below.size (fun k hk => by cases hk)⟩
theorem StMem.later {w0 wr w' : World} {z : Int} {bl : List (List Int)} {wh : List Nat} (h : StMem w0 z bl wh wr) (hb : Below wr.heap.size wr w') : StMem w0 z bl wh w' := h.grown (grown_of_below' none hb)
/-- A block that was made behind, written whole. -/
theorem StMem.far {w0 wr w' : World} {z : Int} {bl : List (List Int)} {wh : List Nat} (h : StMem w0 z bl wh wr) {b : Nat} (hb : wr.heap.size ≤ b) (hg0 : wr.grownBy w' none) (cs' : Array Value) : StMem w0 z bl wh (w'.setRow b cs') := by
  have hg : w'.grownBy (w'.setRow b cs') (some b) := ⟨rfl, rfl, rfl, by simp, fun i hi hne => by
    have : b ≠ i := fun e => hne (by rw [e])
    simp [World.setRow, Array.getElem?_modify, this]⟩
  obtain ⟨Z, hZ, hr⟩ := h.res
  obtain ⟨cs, v, h1, h2, h3⟩ := h.st
  obtain ⟨D, h4, h5⟩ := h.map
  have l4 := h4.lt
  have hv : v.ownBlock ≠ some b := fun e => by have := (h3.lt b e).2; omega
  have k3 := h3.kept (row := none) hg0 (by rcases hv : v.ownBlock with _ | g; exact .inl rfl; exact .inr (by simp))
  refine ⟨⟨Z, hZ, (hr.grown hg0 (by simp)).grown hg (by simp; omega)⟩, ⟨cs, v, (h1.grown hg0 (by simp)).grown hg (by simp; omega), h2, k3.kept hg (.inr (fun e => hv e))⟩, ⟨D, (h4.kept hg0 (by simp)).kept hg (by simp; omega), h5⟩, ?_⟩
  have b0 := h.below.grown hg0 h.below.size (fun k hk => by cases hk)
  exact b0.grown hg b0.size (fun k hk => by injection hk with hk; omega)
theorem StMem.lay {w0 wr : World} {z : Int} {bl : List (List Int)} {wh : List Nat} (h : StMem w0 z bl wh wr) (hk : wh.length < 8704) (q : Nat) : StMem w0 z bl (wh ++ [q]) (wr.setCell ⟨w0.heap.size + 1, wh.length, none⟩ (.int .u16 q)) := by
  obtain ⟨Z, hZ, hr⟩ := h.res
  obtain ⟨cs, v, h1, h2, h3⟩ := h.st
  obtain ⟨D, h4, h5⟩ := h.map
  exact ⟨⟨Z, hZ, hr.far (by omega) _ _⟩, ⟨_, v, h1.store _ _, h2.lay hk q, own_set_far h3 (own_ne h3 (by omega))⟩, ⟨D, h4.setCell (by simp) _, h5⟩, below_set h.below (by omega) _ _⟩
/-- A block that is new among the unlike ones: in the map, in the row, and the row in the struct. -/
theorem StMem.push {w0 wr w1 w2 w3 : World} {z : Int} {bl : List (List Int)} {wh : List Nat} {b : List Int} {kl : Lit} {D : DataW Unit} {v v' : Value} (h : StMem w0 z bl wh wr) (hwh : wh.length ≤ 8704)
    (hD : MapIs D bl) (hk : keyOf Tryz.prog 100 (.agg (intsA b)) = some kl) (hn : b ∉ bl)
    (h1 : w1.ownsMap Tryz.prog 100 (plainElem Tryz.prog 68) (w0.heap.size + 2) (bl.length + 1) (D.put kl (.lit (.int .u16 (bl.length : Nat))))) (g1 : wr.grownBy w1 (some (w0.heap.size + 2)))
    (g2 : w1.grownBy w2 none) (h2 : w2.ownsRow (w0.heap.size + 3) 100 128 v bl.length (cellsK bl))
    (h3 : w3.ownsRow (w0.heap.size + 3) 100 128 v' (bl.length + 1) (cellsK bl ++ b.map (Value.int .i64))) (g3 : w2.grownBy w3 v.ownBlock) :
    StMem w0 z (bl ++ [b]) wh (w3.setCell ⟨w0.heap.size + 1, 8704, none⟩ v') := by
  obtain ⟨Z, hZ, hr⟩ := h.res
  obtain ⟨cs, _, c1, c2, _⟩ := h.st
  have hv0 : ∀ g, g < w0.heap.size + 3 → v.ownBlock ≠ some g := fun g hg => own_ne h2 hg
  have hrow : ∀ g, g < w0.heap.size + 3 → v'.ownBlock ≠ some g := fun g hg => own_ne h3 hg
  have c1' := ((c1.grown g1 (by simp)).grown g2 (by simp)).grown g3 (hv0 _ (by omega))
  have hone : v'.oneCell' = true := by
    obtain ⟨_, _, rfl, _⟩ := own_form h3
    rfl
  have hlen : (bl ++ [b]).length = bl.length + 1 := by simp
  refine ⟨⟨Z, hZ, (((hr.grown g1 (by simp)).grown g2 (by simp)).grown g3 (hv0 _ (by omega))).far (by omega) _ _⟩, ⟨_, v', c1'.store _ _, c2.grow hwh v' hone, ?_⟩, ⟨_, ?_, hD.put hk hn⟩, ?_⟩
  · rw [hlen, cellsK_snoc]
    exact own_set_far h3 (hrow _ (by omega))
  · rw [hlen]
    exact ((h1.kept g2 (by simp)).kept g3 (fun e => hv0 _ (by omega) e.symm)).setCell (by simp) _
  · refine below_set ?_ (by omega) _ _
    have b1 := h.below.grown g1 h.below.size (fun k hk => by injection hk with hk; omega)
    have b2 := b1.grown g2 b1.size (fun k hk => by cases hk)
    exact b2.grown g3 b2.size (fun k hk => by have := h2.lt k hk; omega)
end Go.Proofs.YtdgomaoikeffhaaGreat
/- Whole blocks loaded from wherever they stand, and compared. -/
namespace Go.Proofs.YtdgomaoikeffhaaGreat
open Go.RowKit

theorem grown_onT {a b c : World} {r : Option Nat} (h : a.grownBy b r) (h' : b.grownBy c none) : a.grownBy c r :=
  ⟨h'.os.trans h.os, h'.tape.trans h.tape, h'.output.trans h.output, Nat.le_trans h.size h'.size, fun i hi hne => (h'.block i (Nat.lt_of_lt_of_le hi h.size) (by simp)).trans (h.block i hi hne)⟩
theorem loadBlkAt {w : World} {a : Addr} {xs : List Int} (h : xs.length = 128) (hc : ∀ j x, xs[j]? = some x → w.cell? (a.add j) = some (.int .i64 x)) :
    (loadVar 100 a).run Tryz.prog w = .ok (.agg (intsA xs)) w ∧ (loadCellsFrom a 0 128 #[]).run Tryz.prog w = .ok (intsA xs) w := by
  have hl : (loadCells a (xs.map (Value.int .i64)).length).run Tryz.prog w = .ok (xs.map (Value.int .i64)).toArray w :=
    run_loadCells_list (P := Tryz.prog) w a (xs.map (Value.int .i64)) (fun j v hv => by
      rw [List.getElem?_map] at hv
      cases hx : xs[j]? with
      | none => rw [hx] at hv; cases hv
      | some x => rw [hx] at hv; cases hv; exact hc j x hx)
  rw [List.length_map, h] at hl
  refine ⟨?_, by simpa [loadCells, intsA] using hl⟩
  have ha := Tryz.isAgg100 w
  simp [loadVar, Sem.run_bind, ha, hl, intsA]
theorem IntBlk.load {w : World} {b : Nat} {xs : List Int} (h : IntBlk w b xs) (hl : xs.length = 128) : (loadVar 100 ⟨b, 0, none⟩).run Tryz.prog w = .ok (.agg (intsA xs)) w ∧ (loadCellsFrom ⟨b, 0, none⟩ 0 128 #[]).run Tryz.prog w = .ok (intsA xs) w :=
  loadBlkAt hl (fun j x hx => by rw [addNew]; exact h.cell hx)
set_option maxRecDepth 100000 in
theorem equalBlk {b d : List Int} {kb kd : Lit} (hb : keyOf Tryz.prog 100 (.agg (intsA b)) = some kb) (hd : keyOf Tryz.prog 100 (.agg (intsA d)) = some kd) (w : World) :
    (Op.equal 100 (.agg (intsA b)) (.agg (intsA d))).run Tryz.prog w = .ok (decide (b = d)) w := by
  obtain ⟨r, hr, hi⟩ := run_equal_deep (P := Tryz.prog) w (m := 5) (by decide) (k := 100) (by kernel_rfl) (by rw [Tryz.underlying100]) hb hd
  rw [hr]
  congr 1
  rw [Bool.eq_iff_iff, hi]
  simp only [decide_eq_true_eq]
  exact ⟨fun e => intsA_inj (blkKeyed.inj hb (e ▸ hd)), fun e => by subst e; exact Option.some.inj (hb.symm.trans hd)⟩
theorem eqlBlk {b d : List Int} {kb kd : Lit} (hb : keyOf Tryz.prog 100 (.agg (intsA b)) = some kb) (hd : keyOf Tryz.prog 100 (.agg (intsA d)) = some kd) (w : World) :
    (binOp .eql 100 (.agg (intsA b)) (.agg (intsA d))).run Tryz.prog w = .ok (.bool (decide (b = d))) w ∧ (Op.equalIn 10000 100 (.agg (intsA b)) (.agg (intsA d))).run Tryz.prog w = .ok (decide (b = d)) w := by
  have h := equalBlk hb hd w
  refine ⟨?_, ?_⟩
  · simp only [binOp]
    simp [h]
  · simpa [Op.equal, Op.maxDepth] using h
/-- The place of a block in the row. -/
theorem own_blk {w : World} {base g n cap q : Nat} {bl : List (List Int)} {b : List Int} (h : w.ownsRow base 100 128 (.slice (some ⟨g, 0, none⟩) n cap) n (cellsK bl)) (hl : ∀ b ∈ bl, b.length = 128) (hq : bl[q]? = some b) :
    ∀ j x, b[j]? = some x → w.cell? ((⟨g, 0, none⟩ : Addr).add (q * 128 + j)) = some (.int .i64 x) := by
  intro j x hx
  have hj := (List.getElem?_eq_some_iff.1 hx).1
  have hb := hl b (List.mem_of_getElem? hq)
  have := h.cells (g := g) rfl (q * 128 + j) (.int .i64 x) (by rw [cellsK_at hl hq (by omega), hx]; rfl)
  exact this
theorem own_some {w : World} {base : Nat} {e : TypeId} {size n : Nat} {v : Value} {xs : List Value} (h : w.ownsRow base e size v n xs) (hn : 0 < n) : ∃ g cap, v = .slice (some ⟨g, 0, none⟩) n cap ∧ n ≤ cap := by
  obtain ⟨g, cap, hv, _, _⟩ := h.form hn
  obtain ⟨A, c, e, hc⟩ := own_form h
  rw [hv] at e
  injection e with e1 e2 e3
  exact ⟨g, cap, hv, by omega⟩
/-- A load of a whole block at a step of a region that only reads. -/
theorem quiet_loadT {C : World → Prop} {a : Act} {o : Oper} {K : Act → Prop} (ty : TypeId) (x : Operand) (ho : o.op = .load ty x) (ad : Addr) (v : Value) (hx : a.eval x = .pointer (some ad)) (hl : ∀ w, C w → (loadVar ty ad).run Tryz.prog w = .ok v w) (hk : K (a.put o.dst v)) : o.quiet Tryz.prog a C K :=
  ⟨v, fun w hw => by
    have : (execOp a.eval o).run Tryz.prog w = .ok (.value v) w := by
      unfold execOp
      simp only [ho, hx, Instr.loadAt, Instr.sureAddr, Sem.run_bind, Sem.run_pure, Result.andThen_ok, hl w hw]
    unfold Oper.quietAt
    rw [this]
    exact ⟨rfl, rfl⟩, hk⟩
/-- == of two blocks at such a step. -/
theorem quiet_eqlT {C : World → Prop} {a : Act} {o : Oper} {K : Act → Prop} (t ty : TypeId) (x y : Operand) (ho : o.op = .binOp .eql t x y ty) (u v : Value) (r : Bool) (hx : a.eval x = u) (hy : a.eval y = v) (hg : ∀ w, (eqGuard .eql t x y u v).run Tryz.prog w = .ok () w) (hl : ∀ w, (binOp .eql t u v).run Tryz.prog w = .ok (.bool r) w) (hk : K (a.put o.dst (.bool r))) : o.quiet Tryz.prog a C K :=
  ⟨.bool r, fun w hw => by
    have : (execOp a.eval o).run Tryz.prog w = .ok (.value (.bool r)) w := by
      unfold execOp
      simp only [ho, hx, hy, Sem.run_bind, Sem.run_pure]
      rw [hg w]
      simp only [Result.andThen_ok, hl w]
    unfold Oper.quietAt
    rw [this]
    exact ⟨rfl, rfl⟩, hk⟩
end Go.Proofs.YtdgomaoikeffhaaGreat
/- The round's two ends: a block that is known, and one that is new. -/
namespace Go.Proofs.YtdgomaoikeffhaaGreat
open Go.RowKit

theorem getG_fit {l : List Rg} {z : Int} (hz : FitI z) (hl : ∀ s ∈ l, FitI s.2.2) (c : Int) : FitI (getG l z c) := by
  induction l with
  | nil => exact hz
  | cons s l ih =>
    rw [getG]
    split
    · exact hl s (by simp)
    · exact ih (fun t ht => hl t (by simp [ht]))
theorem blkAt_fit (l : List Rg) (z : Int) (hz : FitI z) (hl : ∀ s ∈ l, FitI s.2.2) (j : Nat) : ∀ x ∈ blkAt l z j, FitI x := by
  intro x hx
  simp only [blkAt, List.mem_map] at hx
  obtain ⟨t, _, rfl⟩ := hx
  exact getG_fit hz hl _
theorem addOff (g o j : Nat) : (⟨g, o, none⟩ : Addr).add j = ⟨g, o + j, none⟩ := by
  unfold Addr.add
  split
  · rename_i h; subst h; rfl
  · rfl
section
variable {w w2 : World} {l0 rest : List Rg} {z c i : Int} {k n0 n2 c2 : Nat} {A2 : Option Addr} {bl : List (List Int)} {wh : List Nat}
theorem StMem.drewN (h : StMem w z bl wh w2) (nq : Nat) : StMem w z bl wh (w2.drewN nq) := h.grown ⟨rfl, rfl, rfl, Nat.le_refl _, fun _ _ _ => rfl⟩
theorem stAt_old (hL : LeftOf l0 z (k + 1) rest) (hI : StInv l0 z k bl wh) (hk : k < 8704) (hn2 : n2 ≤ n0) (hnc : n2 ≤ c2) (hr : Rd w 3 A2 n2 (cellsG rest)) (hm : StMem w z bl wh w2) {q : Nat} (hq : bl[q]? = some (blkAt l0 z k)) (hc : c = (q : Nat)) (hi : i = (k : Int) + 1) :
    StAt w l0 z n0 (.slice A2 n2 c2) (.int .i64 i) (w2.setCell ⟨w.heap.size + 1, k, none⟩ (.int .u16 c)) := by
  subst hc hi
  have h := hm.lay (by rw [hI.len]; exact hk) q
  rw [hI.len] at h
  exact ⟨k + 1, n2, c2, A2, rest, bl, wh ++ [q], by simp, by omega, rfl, hn2, hnc, hr, hL, hI.old hq, h⟩
theorem stAt_new {w1 w3 w4 : World} {b : List Int} {kl : Lit} {D : DataW Unit} {v v' : Value} (hL : LeftOf l0 z (k + 1) rest) (hI : StInv l0 z k bl wh) (hk : k < 8704) (hn2 : n2 ≤ n0) (hnc : n2 ≤ c2) (hr : Rd w 3 A2 n2 (cellsG rest)) (hm : StMem w z bl wh w2) (hb : b = blkAt l0 z k) (hn : b ∉ bl)
    (hD : MapIs D bl) (hkl : keyOf Tryz.prog 100 (.agg (intsA b)) = some kl)
    (h1 : w1.ownsMap Tryz.prog 100 (plainElem Tryz.prog 68) (w.heap.size + 2) (bl.length + 1) (D.put kl (.lit (.int .u16 (bl.length : Nat))))) (g1 : w2.grownBy w1 (some (w.heap.size + 2)))
    (g2 : w1.grownBy w3 none) (h2 : w3.ownsRow (w.heap.size + 3) 100 128 v bl.length (cellsK bl))
    (h3 : w4.ownsRow (w.heap.size + 3) 100 128 v' (bl.length + 1) (cellsK bl ++ b.map (Value.int .i64))) (g3 : w3.grownBy w4 v.ownBlock) (hc : c = (bl.length : Nat)) (hi : i = (k : Int) + 1) :
    StAt w l0 z n0 (.slice A2 n2 c2) (.int .i64 i) ((w4.setCell ⟨w.heap.size + 1, 8704, none⟩ v').setCell ⟨w.heap.size + 1, k, none⟩ (.int .u16 c)) := by
  have h := StMem.push hm (by rw [hI.len]; omega) hD hkl hn h1 g1 g2 h2 h3 g3
  subst hb hc hi
  have h' := h.lay (by rw [hI.len]; exact hk) bl.length
  rw [hI.len] at h'
  exact ⟨k + 1, n2, c2, A2, rest, bl ++ [blkAt l0 z k], wh ++ [bl.length], by simp, by omega, rfl, hn2, hnc, hr, hL, hI.new_ hn, h'⟩
/-- The cells of the struct that are read and written in a round. -/
theorem StMem.reads (hm : StMem w z bl wh w2) : ∃ (cs : Array Value) (Av : Option Addr) (cv : Nat), CellBlk w2 (w.heap.size + 1) cs ∧ StCells cs z wh (.slice Av bl.length cv) ∧ w2.ownsRow (w.heap.size + 3) 100 128 (.slice Av bl.length cv) bl.length (cellsK bl) := by
  obtain ⟨cs, v, h1, h2, h3⟩ := hm.st
  obtain ⟨A, c, rfl, _⟩ := own_form h3
  exact ⟨cs, A, c, h1, h2, h3⟩
end
theorem blkSlice : SliceOf Tryz.prog 70 100 128 1024 := by
  obtain ⟨Z, hZ, _⟩ := blkZero
  exact .mk_ (z := .agg (intsA (List.replicate 128 0))) Tryz.underlying70 (by kernel_rfl) (by show (intsA _).size = 128; simp [intsA])
end Go.Proofs.YtdgomaoikeffhaaGreat
/- The project's newStages: the unlike blocks, and which of them each block is. -/
namespace Go.Proofs.YtdgomaoikeffhaaGreat
open Go.RowKit
def StPost (w0 : World) (l0 : List Rg) (z : Int) (e : Ending) (w' : World) : Prop :=
  ∃ cs bl wh, e = .returned (.agg cs) ∧ StInv l0 z 8704 bl wh ∧ Below w0.heap.size w0 w' ∧ ∃ v, StCells cs z wh v ∧ w'.ownsRow (w0.heap.size + 3) 100 128 v bl.length (cellsK bl)
set_option maxRecDepth 100000 in
set_option maxHeartbeats 4000000 in
theorem prStages_any (A : Option Addr) (n c : Nat) (z : Int) (l : List Rg) (w : World) (hr : Rd w 3 A n (cellsG l)) (hn : n ≤ maxLen) (hnc : n ≤ c) (hrise : riseB (-1) l = true) (hfz : FitI z) (hfl : ∀ s ∈ l, FitI s.2.2) :
    Calls Tryz.prog 32 #[.slice A n c, .int .i64 z] w (StPost w l z) := by
  obtain ⟨Zb, hZb, hzb⟩ := blkZero
  obtain ⟨Z, h1, h2, h3, h4⟩ := stZero
  have hz := (zero_of_info h4).1
  obtain ⟨C, hCe⟩ : ∃ C, Z.setIfInBounds 8705 (.int .i64 z) = C := ⟨_, rfl⟩
  have hC : StCells C z [] (.slice none 0 0) := by
    rw [← hCe]
    refine ⟨by simp [h1], by rw [Array.getElem?_setIfInBounds_ne (by omega)]; exact h2, by rw [Array.getElem?_setIfInBounds_self_of_lt (by omega)], fun j q hj => by simp at hj, all_set ?_ rfl⟩
    rw [← Array.all_toList]
    exact h3
  have hst : (storeCells ⟨w.heap.size + 1, 0, none⟩ (Z.toList.set 8705 (.int .i64 z)) 0).run Tryz.prog ((w.alloc (.cells Z 72)).alloc (.cells Z 72)) = .ok () ((w.alloc (.cells Z 72)).alloc (.cells C 72)) := by
    have hsz : (w.alloc (.cells Z 72)).heap.size = w.heap.size + 1 := by simp
    have := run_storeCells_new (P := Tryz.prog) (w.alloc (.cells Z 72)) 72 Z C (by rw [hC.size]; kernel_rfl) (by rw [h1, hC.size]) hC.one
    rw [hsz] at this
    rw [show Z.toList.set 8705 (.int .i64 z) = C.toList by rw [← hCe]; simp]
    exact this
  have HS : Hid (StAt w l z n (.slice A n c) (.int .i64 0) (((w.alloc (.cells Z 72)).alloc (.cells C 72)).alloc (.map #[] 0))) := by
    have e2 : ((w.alloc (.cells Z 72)).alloc (.cells C 72)).heap.size = w.heap.size + 2 := by simp
    have e1 : (w.alloc (.cells Z 72)).heap.size = w.heap.size + 1 := by simp
    refine Lib.hid ⟨0, n, c, A, l, [], [], rfl, by omega, rfl, Nat.le_refl _, hnc, hr, ⟨(srt_of_rise hrise).1, fun _ _ => rfl⟩, StInv.start l z, ⟨⟨Z, h1, ⟨72, ?_⟩⟩, ⟨C, _, ⟨72, ?_⟩, hC, ⟨by simp [cellsK], .inl ⟨rfl, rfl⟩⟩⟩, ⟨_, ?_, MapIs.start⟩, ?_⟩⟩
    · rw [heap_alloc_old (h := by simp; omega), heap_alloc_old (h := by simp)]; exact heap_alloc_new w _
    · rw [heap_alloc_old (h := by simp), ← e1]; exact heap_alloc_new _ _
    · rw [← e2]; exact World.ownsMap_made _ _ _ _
    · exact (((Below.refl _ _).alloc (Nat.le_refl _) _).alloc (by simp) _).alloc (by simp; omega) _
  have hmk : ∀ w, (Instr.makeMap 98 none).run Tryz.prog w = .ok (.map (some w.heap.size)) (w.alloc (.map #[] 0)) := fun _ => rfl
  have HCC := Lib.hid hC
  have HZ := Lib.hid hZb
  have HR := Lib.hid hrise
  have HFI := Lib.hid (fun j x hx => blkAt_fit l z hfz hfl j x hx)
  clear h2 h3 h4 hC hZb hCe hr hrise hfl
  unfold maxLen at hn
  go_enter Tryz.func32, Tryz.ntmps32
  go_wp2
  go_loopw [0, 14] (StAt w l z n) (fun _ i _ => 8704 - (intOf i).toNat)
  case atStart => exact HS.out
  case round =>
    clear hst
    obtain ⟨k, n1, c1, A1, l1, bl, wh, rfl, hk, rfl, hn1, hnc1, hr1, hleft, hinv, hmem⟩ := hrel
    have HL := Lib.hid hleft
    have HI := Lib.hid hinv
    have HM := Lib.hid hmem
    have HR1 := Lib.hid hr1
    have HB := Lib.hid hmem.below
    clear hleft hinv hmem hr1
    by_cases hlt : k < 8704
    · obtain ⟨t, ht⟩ : ∃ t, cutB (128 * (k : Int)) l1 (List.replicate 128 z) = t := ⟨_, rfl⟩
      have HT := Lib.hid ht
      clear ht
      go_wp2_with fail
      refine (prCut_any A1 n1 c1 (k * 128) z l1 t (by rw [← HT.out, Int.mul_comm]) w _ ?_ HR1.out (by unfold maxLen; omega) hnc1 (by omega) (by omega)).mono ?_
      · exact HB.out.alloc HB.out.size _
      rintro e w1 ⟨⟨A2, n2, c2, rfl, hn2, hnc2, hr2⟩, ht128, hb1⟩
      obtain ⟨b, rest⟩ := t
      simp only at hr2 ht128
      have hcut := left_cut HL.out
      rw [HT.out] at hcut
      simp only at hcut
      have HBE := Lib.hid hcut.1
      have HLE := Lib.hid hcut.2
      have HR2 := Lib.hid hr2
      have HBL := Lib.hid ht128
      have hga : wr.grownBy w1 none := grown_onT (World.grownBy_alloc wr _ none) (grown_of_below' none hb1)
      have hblk : w1.heap[wr.heap.size]? = some (.cells (intsA (List.replicate 128 0)) 100 (0, 0)) := by
        rw [hb1.block _ (by simp), ← HZ.out]; exact heap_alloc_new wr _
      have hb83 : w.heap.size + 3 ≤ wr.heap.size := by
        obtain ⟨D0, hD0, _⟩ := HM.out.map
        have := hD0.lt
        omega
      have hst := run_storeBlk hblk (by simp) ht128
      have HM2 := Lib.hid (HM.out.far (Nat.le_refl _) hga (intsA b))
      have HI8 : Hid (IntBlk (w1.setRow wr.heap.size (intsA b)) wr.heap.size b) := Lib.hid ⟨100, by
        simp only [World.setRow, Array.getElem?_modify, if_true, hblk]; rfl⟩
      have hs2 := (intsA_size b).trans ht128
      obtain ⟨w2, hw2⟩ : ∃ w2, w1.setRow wr.heap.size (intsA b) = w2 := ⟨_, rfl⟩
      rw [hw2] at hst HM2 HI8
      obtain ⟨b8, hb8⟩ : ∃ b8, wr.heap.size = b8 := ⟨_, rfl⟩
      simp only [hb8] at hst HI8 hb83 ⊢
      have H8 := Lib.hid hb8
      have HW2 := Lib.hid hw2
      clear hw2 hb8 hr2 ht128 hcut hga hblk hb1
      by_cases hk0 : 0 < k
      · obtain ⟨k', rfl⟩ : ∃ k', k = k' + 1 := ⟨k - 1, by omega⟩
        obtain ⟨cs, v, hcs, hsc, hown⟩ := HM2.out.st
        obtain ⟨q, hq1, hq2⟩ := HI.out.at_ k' (by omega)
        have hqn := (List.getElem?_eq_some_iff.1 hq2).1
        have hlens : ∀ x ∈ bl, x.length = 128 := fun x hx => by
          obtain ⟨j, _, rfl⟩ := HI.out.real x hx
          exact blkAt_len _ _ _
        have hfit : ∀ j, ∀ x ∈ blkAt l z j, FitI x := fun j x hx => HFI.out j x hx
        obtain ⟨kb, hkb⟩ := blkKey b HBL.out (by rw [HBE.out]; exact hfit _)
        obtain ⟨kd, hkd⟩ := blkKey (blkAt l z k') (blkAt_len _ _ _) (hfit _)
        obtain ⟨g, cap, rfl, hcap⟩ := own_some hown (by omega)
        have e1 := hcs.cell (hsc.which k' q hq1)
        have e2 := hcs.cell hsc.blocks
        have l1 := fun N => ((HI8.out.drewN N).load HBL.out)
        have l2 := fun N => (loadBlkAt (w := w2.drewN N) (a := ⟨g, q * 128, none⟩) (blkAt_len l z k') (fun j x hx => by
          have := own_blk hown hlens hq2 j x hx
          rw [addNew] at this
          rw [addOff]
          exact this))
        obtain ⟨u3, e3⟩ : ∃ u, w2.cell? ⟨w.heap.size + 1, k' + 1, none⟩ = some u := ⟨_, hcs.cell (Array.getElem?_eq_getElem (by rw [hsc.size]; omega))⟩
        have f3 := hcs.thaw (k' + 1)
        have HN : Hid (b = blkAt l z k' → ∀ nq, StAt w l z n (.slice A2 n2 c2) (.int .i64 ((k' : Int) + 1 + 1)) ((w2.drewN nq).setCell ⟨w.heap.size + 1, k' + 1, none⟩ (.int .u16 q))) := Lib.hid (fun hE nq => by
          have hm := (HM2.out.grown (w' := w2.drewN nq) ⟨rfl, rfl, rfl, Nat.le_refl _, fun _ _ _ => rfl⟩).lay (by rw [HI.out.len]; exact hlt) q
          rw [HI.out.len] at hm
          exact ⟨k' + 1 + 1, n2, c2, A2, rest, bl, wh ++ [q], by simp, by omega, rfl, by omega, hnc2, HR2.out, HLE.out, HI.out.old (by rw [hq2, ← hE, HBE.out]), hm⟩)
        have L1 := Lib.hid l1
        have L2 := Lib.hid l2
        have KB := Lib.hid hkb
        have KD := Lib.hid hkd
        clear l1 l2 hkb hkd hfit hlens hcs hsc hown hq1 hq2
        go_wp2
        refine wp_region_quiet_lit (by kernel_rfl) (by kernel_rfl) ?_
        go_big_quiet_step (fail)
        go_big_quiet_step (fail)
        go_big_quiet_step (fail)
        go_big_quiet_want
        refine quiet_loadT 100 _ (by rfl) ⟨b8, 0, none⟩ (.agg (intsA b)) (by rfl) (fun w' hw' => by obtain ⟨N, rfl⟩ := hw'; exact (L1.out N).1) ?_
        go_simp
        go_big_quiet_on
        go_big_quiet_step (fail)
        go_big_quiet_step (fail)
        go_big_quiet_step (fail)
        go_big_quiet_step (fail)
        go_big_quiet_step (fail)
        go_big_quiet_step (fail)
        go_big_quiet_step (fail)
        go_big_quiet_step (fail)
        go_big_quiet_want
        refine quiet_loadT 100 _ (by rfl) ⟨g, q * 128, none⟩ (.agg (intsA (blkAt l z k'))) (by rfl) (fun w' hw' => by obtain ⟨N, rfl⟩ := hw'; exact (L2.out N).1) ?_
        go_simp
        go_big_quiet_on
        go_big_quiet_want
        refine quiet_eqlT 100 _ _ _ (by rfl) (.agg (intsA b)) (.agg (intsA (blkAt l z k'))) (decide (b = blkAt l z k')) (by rfl) (by rfl) (fun w' => by simp [go_sem, Tryz.eqGuardType100]) (fun w' => (eqlBlk KB.out KD.out w').1) ?_
        go_simp
        go_big_quiet_on
        by_cases hbe : b = blkAt l z k'
        · have HE := Lib.hid hbe
          rw [decide_eq_true hbe]
          clear hbe
          go_big_quiet_step (fail)
          refine wpQuiet_nil ?_
          intro _ hw'
          obtain ⟨nq, hw''⟩ := hw'
          subst hw''
          go_wp2
          go_roundw
          case rel => exact HN.out HE.out nq
          case measure => simp [intOf]; omega
        · rw [decide_eq_false hbe]
          clear hbe
          go_big_quiet_step (fail)
          refine wpQuiet_nil ?_
          intro _ hw'
          obtain ⟨nq, hw''⟩ := hw'
          subst hw''
          obtain ⟨T8, hg8⟩ := (HI8.out.drewN nq).cells
          have hsz := blkSize HBL.out
          obtain ⟨D, hmap, hMD⟩ := (HM2.out.drewN nq).map
          have HMD := Lib.hid hMD
          clear hMD
          have hzu : (zeroValue 68).run Tryz.prog (w2.drewN nq) = .ok (.int .u16 0) (w2.drewN nq) := by simp [go_sem]
          obtain ⟨csk, Av, cv, hcsk, hsck, hownk⟩ := (HM2.out.drewN nq).reads
          have e2k : w2.cell? ⟨w.heap.size + 1, 8704, none⟩ = some (.slice Av bl.length cv) := hcsk.cell hsck.blocks
          obtain ⟨u3k, e3k⟩ : ∃ u, w2.cell? ⟨w.heap.size + 1, k' + 1, none⟩ = some u := ⟨_, hcsk.cell (Array.getElem?_eq_getElem (by rw [hsck.size]; omega))⟩
          have f3k : w2.frozen? ⟨w.heap.size + 1, k' + 1, none⟩ = false := hcsk.thaw (k' + 1)
          have HCK := Lib.hid hcsk
          have HSK := Lib.hid hsck
          have HOK := Lib.hid hownk
          have hfew := HI.out.few
          clear hcsk hsck hownk
          have hi3 : ∀ c1 : Int, D.atKey kb (DataW.lit (Lit.int IntKind.u16 0)) = DataW.lit (Lit.int IntKind.u16 c1) → ∀ qo : Nat, bl[qo]? = some b → c1 = (qo : Int) := fun c1 hat qo hqo => by
            have := hat.symm.trans ((HMD.out.2 b kb KB.out).2 qo hqo)
            simpa using this
          have HI3 := Lib.hid hi3
          clear hi3
          by_cases hin : b ∈ bl
          · have hhas : Maps.has D kb = true := ((HMD.out.2 b kb KB.out).1).2 hin
            obtain ⟨qo, hqo⟩ := List.getElem?_of_mem hin
            have HQO := Lib.hid hqo
            clear hqo hin
            go_wp2_with (first
              | ((with_reducible refine wpList_load_row rfl 100 _ rfl b8 ?_ _ _ (0, 0) _ hg8 Tryz.underlying100 rfl hsz ?_); rfl)
              | (at_lookup; refine wpList_lookup_own_ok_int _ rfl _ _ 98 rfl 100 68 .u16 blkKeyed Tryz.underlying98 Tryz.underlying68 hzu (w.heap.size + 2) bl.length D rfl hmap _ kb rfl KB.out ?_; intro cq hat hwc)
              | fail)
            exact ⟨stAt_old (k := (k' + 1)) HLE.out HI.out hlt (by omega) hnc2 HR2.out (HM2.out.drewN nq) (q := qo) (by rw [HQO.out, HBE.out]) (HI3.out cq hat qo HQO.out) (by simp), by simp [intOf]; omega⟩
          · have hhas : Maps.has D kb = false := by
              rw [Bool.eq_false_iff]
              exact fun h => hin (((HMD.out.2 b kb KB.out).1).1 h)
            have HIN := Lib.hid hin
            clear hin
            have hval : plainElem (H := Unit) Tryz.prog 68 (.int .u16 (bl.length : Nat)) = some (.lit (.int .u16 (bl.length : Nat)), []) := plainElem_int Tryz.underlying68 (by simp [Lit.wf, IntKind.min, IntKind.max, IntKind.signed, IntKind.bits]; omega)
            have HVAL := Lib.hid hval
            clear hval
            obtain ⟨_, ie, ze, hie, hze, hes, _, hzes⟩ := blkSlice
            have HES := Lib.hid hes
            clear hes hzes
            have hlk : bl.length ≤ 8704 := by omega
            go_wp2_with (first
              | ((with_reducible refine wpList_load_row rfl 100 _ rfl b8 ?_ _ _ (0, 0) _ hg8 Tryz.underlying100 rfl hsz ?_); rfl)
              | ((with_reducible refine wpList_load_row rfl 100 _ rfl b8 ?_ _ _ (0, 0) _ hg9 Tryz.underlying100 rfl hsz ?_); rfl)
              | (at_lookup; refine wpList_lookup_own_ok_int _ rfl _ _ 98 rfl 100 68 .u16 blkKeyed Tryz.underlying98 Tryz.underlying68 hzu (w.heap.size + 2) bl.length D rfl hmap _ kb rfl KB.out ?_; intro cq hat hwc)
              | (at_mapUpdate; refine wpList_mapUpdate_own _ rfl _ _ _ 98 rfl 100 68 blkKeyed Tryz.underlying98 _ (w.heap.size + 2) bl.length D rfl hmap (by unfold maxLen; omega) _ _ kb rfl rfl KB.out (.lit (.int .u16 (bl.length : Nat))) [] HVAL.out ?_; intro w3 hmap3 hg3; have hck3 := HCK.out.grown (w' := w3) (row := some (w.heap.size + 2)) hg3 (by simp); have e23 := hck3.cell HSK.out.blocks; have HI83 := Lib.hid ((HI8.out.drewN nq).grown (w' := w3) (row := some (w.heap.size + 2)) hg3 (by simp; omega)); obtain ⟨T9, hg9⟩ := HI83.out.cells; have HOK3 := Lib.hid (HOK.out.kept (w' := w3) (row := some (w.heap.size + 2)) hg3 (.inr (fun e => own_ne HOK.out (by omega) e))); have HCK3 := Lib.hid hck3; have HM3 := Lib.hid hmap3; have HG3 := Lib.hid hg3; clear hck3 hmap3 hg3 hg8)
              | ((with_reducible refine wpList_buildSlice rfl 70 100 1 #[(0, .tmp 65)] rfl (intsA b) ie ze Tryz.underlying70 hie hze ?_ ?_ ?_ ?_); (rw [HES.out]; decide); (rw [HES.out]; decide); (rw [HES.out, Array.toList_map]; refine blkFill b HBL.out _ ?_; simp); (have HOK4 := Lib.hid (HOK3.out.alloc (.cells (intsA b) 100))); (have HNEW := Lib.hid (rd_blk (w := w3.alloc (.cells (intsA b) 100)) (m := 1) (cs := b.map (Value.int .i64)) (t := 100) 128 (heap_alloc_new w3 _) (by simp [HBL.out]))))
              | (at_builtin; refine wpList_appR rfl _ _ 70 rfl blkSlice (by decide) (.slice Av bl.length cv) bl.length (cellsK bl) rfl HOK4.out (some ⟨w3.heap.size, 0, none⟩) 1 1 (b.map (Value.int .i64)) rfl HNEW.out (oneInts _ _) (by omega) (by unfold maxLen; omega) (by have := HCK3.out.lt; have := HM3.out.lt; simp; omega) ?_; intro v' w5 h5 g5 hat5; obtain ⟨g9, c9, rfl, hc9⟩ := own_some h5 (by omega); have hck5 := (HCK3.out.grown (w' := w3.alloc (.cells (intsA b) 100)) (row := none) (World.grownBy_alloc w3 _ none) (by simp)).grown (w' := w5) g5 (own_ne HOK4.out (by omega)); have e5 := hck5.cell HSK.out.blocks; have f5 := hck5.thaw 8704; have f6 := hck5.thaw (k' + 1); obtain ⟨u6, e6⟩ : ∃ u, w5.cell? ⟨w.heap.size + 1, k' + 1, none⟩ = some u := ⟨_, hck5.cell (Array.getElem?_eq_getElem (by rw [HSK.out.size]; omega))⟩; have H5 := Lib.hid h5; have G5 := Lib.hid g5; clear hck5 h5 g5 hat5)
              | fail)
            exact ⟨stAt_new (k := (k' + 1)) HLE.out HI.out hlt (by omega) hnc2 HR2.out (HM2.out.drewN nq) HBE.out HIN.out HMD.out KB.out HM3.out HG3.out (World.grownBy_alloc w3 _ none) HOK4.out H5.out G5.out rfl (by simp), by simp [intOf]; omega⟩
      · have hk1 : ¬ (0 < (k : Int)) := by omega
        obtain ⟨kb, hkb⟩ := blkKey b HBL.out (by rw [HBE.out]; exact fun x hx => HFI.out k x hx)
        have KB := Lib.hid hkb
        clear hkb
        go_wp2
        go_quiet (fail)
        obtain ⟨T8, hg8⟩ := (HI8.out.drewN nq).cells
        have hsz := blkSize HBL.out
        obtain ⟨D, hmap, hMD⟩ := (HM2.out.drewN nq).map
        have HMD := Lib.hid hMD
        clear hMD
        have hzu : (zeroValue 68).run Tryz.prog (w2.drewN nq) = .ok (.int .u16 0) (w2.drewN nq) := by simp [go_sem]
        obtain ⟨csk, Av, cv, hcsk, hsck, hownk⟩ := (HM2.out.drewN nq).reads
        have e2k : w2.cell? ⟨w.heap.size + 1, 8704, none⟩ = some (.slice Av bl.length cv) := hcsk.cell hsck.blocks
        obtain ⟨u3k, e3k⟩ : ∃ u, w2.cell? ⟨w.heap.size + 1, k, none⟩ = some u := ⟨_, hcsk.cell (Array.getElem?_eq_getElem (by rw [hsck.size]; omega))⟩
        have f3k : w2.frozen? ⟨w.heap.size + 1, k, none⟩ = false := hcsk.thaw (k)
        have HCK := Lib.hid hcsk
        have HSK := Lib.hid hsck
        have HOK := Lib.hid hownk
        have hfew := HI.out.few
        clear hcsk hsck hownk
        have hi3 : ∀ c1 : Int, D.atKey kb (DataW.lit (Lit.int IntKind.u16 0)) = DataW.lit (Lit.int IntKind.u16 c1) → ∀ qo : Nat, bl[qo]? = some b → c1 = (qo : Int) := fun c1 hat qo hqo => by
          have := hat.symm.trans ((HMD.out.2 b kb KB.out).2 qo hqo)
          simpa using this
        have HI3 := Lib.hid hi3
        clear hi3
        by_cases hin : b ∈ bl
        · have hhas : Maps.has D kb = true := ((HMD.out.2 b kb KB.out).1).2 hin
          obtain ⟨qo, hqo⟩ := List.getElem?_of_mem hin
          have HQO := Lib.hid hqo
          clear hqo hin
          go_wp2_with (first
            | ((with_reducible refine wpList_load_row rfl 100 _ rfl b8 ?_ _ _ (0, 0) _ hg8 Tryz.underlying100 rfl hsz ?_); rfl)
            | (at_lookup; refine wpList_lookup_own_ok_int _ rfl _ _ 98 rfl 100 68 .u16 blkKeyed Tryz.underlying98 Tryz.underlying68 hzu (w.heap.size + 2) bl.length D rfl hmap _ kb rfl KB.out ?_; intro cq hat hwc)
            | fail)
          exact ⟨stAt_old (k := k) HLE.out HI.out hlt (by omega) hnc2 HR2.out (HM2.out.drewN nq) (q := qo) (by rw [HQO.out, HBE.out]) (HI3.out cq hat qo HQO.out) (by simp), by simp [intOf]; omega⟩
        · have hhas : Maps.has D kb = false := by
            rw [Bool.eq_false_iff]
            exact fun h => hin (((HMD.out.2 b kb KB.out).1).1 h)
          have HIN := Lib.hid hin
          clear hin
          have hval : plainElem (H := Unit) Tryz.prog 68 (.int .u16 (bl.length : Nat)) = some (.lit (.int .u16 (bl.length : Nat)), []) := plainElem_int Tryz.underlying68 (by simp [Lit.wf, IntKind.min, IntKind.max, IntKind.signed, IntKind.bits]; omega)
          have HVAL := Lib.hid hval
          clear hval
          obtain ⟨_, ie, ze, hie, hze, hes, _, hzes⟩ := blkSlice
          have HES := Lib.hid hes
          clear hes hzes
          have hlk : bl.length ≤ 8704 := by omega
          go_wp2_with (first
            | ((with_reducible refine wpList_load_row rfl 100 _ rfl b8 ?_ _ _ (0, 0) _ hg8 Tryz.underlying100 rfl hsz ?_); rfl)
            | ((with_reducible refine wpList_load_row rfl 100 _ rfl b8 ?_ _ _ (0, 0) _ hg9 Tryz.underlying100 rfl hsz ?_); rfl)
            | (at_lookup; refine wpList_lookup_own_ok_int _ rfl _ _ 98 rfl 100 68 .u16 blkKeyed Tryz.underlying98 Tryz.underlying68 hzu (w.heap.size + 2) bl.length D rfl hmap _ kb rfl KB.out ?_; intro cq hat hwc)
            | (at_mapUpdate; refine wpList_mapUpdate_own _ rfl _ _ _ 98 rfl 100 68 blkKeyed Tryz.underlying98 _ (w.heap.size + 2) bl.length D rfl hmap (by unfold maxLen; omega) _ _ kb rfl rfl KB.out (.lit (.int .u16 (bl.length : Nat))) [] HVAL.out ?_; intro w3 hmap3 hg3; have hck3 := HCK.out.grown (w' := w3) (row := some (w.heap.size + 2)) hg3 (by simp); have e23 := hck3.cell HSK.out.blocks; have HI83 := Lib.hid ((HI8.out.drewN nq).grown (w' := w3) (row := some (w.heap.size + 2)) hg3 (by simp; omega)); obtain ⟨T9, hg9⟩ := HI83.out.cells; have HOK3 := Lib.hid (HOK.out.kept (w' := w3) (row := some (w.heap.size + 2)) hg3 (.inr (fun e => own_ne HOK.out (by omega) e))); have HCK3 := Lib.hid hck3; have HM3 := Lib.hid hmap3; have HG3 := Lib.hid hg3; clear hck3 hmap3 hg3 hg8)
            | ((with_reducible refine wpList_buildSlice rfl 70 100 1 #[(0, .tmp 65)] rfl (intsA b) ie ze Tryz.underlying70 hie hze ?_ ?_ ?_ ?_); (rw [HES.out]; decide); (rw [HES.out]; decide); (rw [HES.out, Array.toList_map]; refine blkFill b HBL.out _ ?_; simp); (have HOK4 := Lib.hid (HOK3.out.alloc (.cells (intsA b) 100))); (have HNEW := Lib.hid (rd_blk (w := w3.alloc (.cells (intsA b) 100)) (m := 1) (cs := b.map (Value.int .i64)) (t := 100) 128 (heap_alloc_new w3 _) (by simp [HBL.out]))))
            | (at_builtin; refine wpList_appR rfl _ _ 70 rfl blkSlice (by decide) (.slice Av bl.length cv) bl.length (cellsK bl) rfl HOK4.out (some ⟨w3.heap.size, 0, none⟩) 1 1 (b.map (Value.int .i64)) rfl HNEW.out (oneInts _ _) (by omega) (by unfold maxLen; omega) (by have := HCK3.out.lt; have := HM3.out.lt; simp; omega) ?_; intro v' w5 h5 g5 hat5; obtain ⟨g9, c9, rfl, hc9⟩ := own_some h5 (by omega); have hck5 := (HCK3.out.grown (w' := w3.alloc (.cells (intsA b) 100)) (row := none) (World.grownBy_alloc w3 _ none) (by simp)).grown (w' := w5) g5 (own_ne HOK4.out (by omega)); have e5 := hck5.cell HSK.out.blocks; have f5 := hck5.thaw 8704; have f6 := hck5.thaw (k); obtain ⟨u6, e6⟩ : ∃ u, w5.cell? ⟨w.heap.size + 1, k, none⟩ = some u := ⟨_, hck5.cell (Array.getElem?_eq_getElem (by rw [HSK.out.size]; omega))⟩; have H5 := Lib.hid h5; have G5 := Lib.hid g5; clear hck5 h5 g5 hat5)
            | fail)
          exact ⟨stAt_new (k := k) HLE.out HI.out hlt (by omega) hnc2 HR2.out (HM2.out.drewN nq) HBE.out HIN.out HMD.out KB.out HM3.out HG3.out (World.grownBy_alloc w3 _ none) HOK4.out H5.out G5.out rfl (by simp), by simp [intOf]; omega⟩
    · obtain rfl : k = 8704 := by omega
      obtain ⟨Zr, hZr, Tr, hgr⟩ := HM.out.res
      obtain ⟨cs, v, ⟨Ts, hgs⟩, hsc, hown⟩ := HM.out.st
      have hsz : (Tryz.prog.info? 72).map (·.size) = some cs.size := by rw [hsc.size]; kernel_rfl
      have hgw : wr.grownBy (wr.setRow w.heap.size cs) (some w.heap.size) := ⟨rfl, rfl, rfl, by simp, fun i hi hne => by
        have : w.heap.size ≠ i := fun e => hne (by rw [e])
        simp [World.setRow, Array.getElem?_modify, this]⟩
      have HE1 := Lib.hid (HM.out.below.grown hgw HM.out.below.size (fun k hk => by injection hk with hk; omega))
      have HE2 := Lib.hid (hown.kept hgw (.inr (fun e => own_ne hown (by omega) e)))
      have HE3 : Hid ((wr.setRow w.heap.size cs).heap[w.heap.size]? = some (.cells cs Tr (0, 0))) := Lib.hid (by simp [World.setRow, Array.getElem?_modify, hgr])
      have HSC := Lib.hid hsc
      have HSO := Lib.hid (hZr.trans hsc.size.symm)
      clear hgw hown hsc hZr
      go_wp2_with (first
        | ((with_reducible refine wpList_load_row rfl 72 _ rfl (w.heap.size + 1) ?_ _ _ (0, 0) _ hgs Tryz.underlying72 rfl hsz ?_); rfl)
        | ((with_reducible refine wpList_store_row rfl 72 _ _ rfl w.heap.size cs ?_ ?_ _ _ hgr hsz HSO.out HSC.out.one ?_); rfl; rfl)
        | fail)
      (try simp only [Exit.inBlock, Exit.then])
      refine bodyPost_ret (v := .agg cs) (results_cell_row rfl _ _ w.heap.size Tr cs (0, 0) _ rfl HE3.out Tryz.underlying72 rfl hsz) rfl ?_
      exact ⟨cs, bl, wh, rfl, HI.out, HE1.out, v, HSC.out, HE2.out⟩
end Go.Proofs.YtdgomaoikeffhaaGreat
/- A table in memory: Build, made, value, Get. -/
namespace Go.Proofs.YtdgomaoikeffhaaGreat
open Go.RowKit

/-- Block b is a table of the ranges l, with z for all else; it keeps nb blocks. -/
def TabAt (w : World) (b : Nat) (l : List Rg) (z : Int) (nb : Nat) : Prop := ∃ (cs : Array Value) (bl : List (List Int)) (wh : List Nat) (g cap : Nat),
  CellBlk w b cs ∧ cs.size = 8706 ∧ cs[8704]? = some (.slice (some ⟨g, 0, none⟩) bl.length cap) ∧ cs[8705]? = some (.int .i64 z) ∧ (∀ j q : Nat, wh[j]? = some q → cs[j]? = some (.int .u16 q)) ∧ StInv l z 8704 bl wh ∧
  Rd w 128 (some ⟨g, 0, none⟩) bl.length (cellsK bl) ∧ bl.length ≤ cap ∧ nb = bl.length
theorem TabAt.below {w w' : World} {b nb : Nat} {l : List Rg} {z : Int} (h : TabAt w b l z nb) (hb : Below w.heap.size w w') : TabAt w' b l z nb := by
  obtain ⟨cs, bl, wh, g, cap, h1, h2, h3, h4, h5, h6, h7, h8, h9⟩ := h
  exact ⟨cs, bl, wh, g, cap, h1.below hb, h2, h3, h4, h5, h6, h7.below hb, h8, h9⟩
theorem StInv.some_ {l : List Rg} {z : Int} {bl : List (List Int)} {wh : List Nat} (h : StInv l z 8704 bl wh) : 0 < bl.length := by
  obtain ⟨q, _, hq⟩ := h.at_ 0 (by omega)
  have := (List.getElem?_eq_some_iff.1 hq).1
  omega
def BuildPost (w : World) (l : List Rg) (z : Int) (e : Ending) (w' : World) : Prop :=
  ((errG l = 0 ∧ ∃ b nb, e = .returned (.tuple #[.pointer (some ⟨b, 0, none⟩), .int .i64 0]) ∧ TabAt w' b l z nb) ∨ (errG l ≠ 0 ∧ e = .returned (.tuple #[.pointer none, .int .i64 (errG l)]))) ∧ Below w.heap.size w w'
set_option maxRecDepth 100000 in
set_option maxHeartbeats 1000000 in
theorem prBuild_any (A : Option Addr) (n c : Nat) (z : Int) (l : List Rg) (w : World) (hr : Rd w 3 A n (cellsG l)) (hn : n ≤ maxLen) (hnc : n ≤ c) (hfz : FitI z) (hfl : ∀ s ∈ l, FitI s.2.2) :
    Calls Tryz.prog 17 #[.slice A n c, .int .i64 z] w (BuildPost w l z) := by
  have HL := Lib.hid hr.lenG
  have HR := Lib.hid hr
  have HN := Lib.hid hn
  have HFL := Lib.hid hfl
  clear hr hfl
  unfold maxLen at hn
  by_cases hbig : 4096 < n
  · have HF := Lib.hid (show errG l = 6 by unfold errG; rw [HL.out]; exact if_pos hbig)
    go_enter Tryz.func17, Tryz.ntmps17
    go_wp2
    go_ret2
    exact ⟨.inr ⟨by rw [HF.out]; decide, by rw [HF.out]; rfl⟩, Below.refl _ _⟩
  · have HE := Lib.hid (show errG l = if riseB (-1) l = true then 0 else 10 by unfold errG; rw [HL.out]; exact if_neg hbig)
    have hsm : n ≤ 4096 := by omega
    clear hbig
    go_enter Tryz.func17, Tryz.ntmps17
    go_wp2_with fail
    refine (prRise_any A n c l w HR.out HN.out).mono ?_
    rintro e w1 ⟨rfl, hb1⟩
    cases hrise : riseB (-1) l with
    | false =>
      have HF := Lib.hid (show errG l = 10 by rw [HE.out, hrise]; rfl)
      clear hrise
      go_wp2
      go_ret2
      exact ⟨.inr ⟨by rw [HF.out]; decide, by rw [HF.out]; rfl⟩, hb1⟩
    | true =>
      have HF := Lib.hid (show errG l = 0 by rw [HE.out, hrise]; rfl)
      have HRI := Lib.hid hrise
      clear hrise
      go_wp2_with fail
      refine (prStages_any A n c z l w1 (HR.out.below hb1) HN.out hnc HRI.out hfz HFL.out).mono ?_
      rintro e w2 ⟨cs, bl, wh, rfl, hinv, hb2, v, hsc, hown⟩
      obtain ⟨g, cap, rfl, hcap⟩ := own_some hown hinv.some_
      have HBT := Lib.hid (tabBuilt cs hsc.size)
      have hb3 := below_self hb1 hb2
      have hb4 := hb3.alloc hb3.size (.cells cs 75)
      have HT : Hid (TabAt (w2.alloc (.cells cs 75)) w2.heap.size l z bl.length) := Lib.hid ⟨cs, bl, wh, g, cap, ⟨_, heap_alloc_new w2 _⟩, hsc.size, hsc.blocks, hsc.none_, hsc.which, hinv, (Rd.of_own hown).alloc _, hcap, rfl⟩
      clear hinv hb2 hsc hown hb3
      go_wp2_with (first
        | ((with_reducible refine wpList_buildTo rfl 75 #[(0, .tmp 16)] rfl (some 17) rfl cs ?_ ?_); (rw [Array.toList_map]; exact HBT.out))
        | fail)
      go_ret2
      exact ⟨.inl ⟨HF.out, _, _, rfl, HT.out⟩, hb4⟩

set_option maxRecDepth 100000 in
theorem prMade_any (b nb : Nat) (l : List Rg) (z : Int) (w : World) (hT : TabAt w b l z nb) :
    Calls Tryz.prog 79 #[.pointer (some ⟨b, 0, none⟩)] w fun e w' => e = .returned (.bool true) ∧ w = w' := by
  obtain ⟨cs, bl, wh, g, cap, h1, h2, h3, h4, h5, h6, h7, h8, h9⟩ := hT
  have e1 := h1.cell h3
  have hp := h6.some_
  clear h1 h2 h3 h4 h5 h6 h7 h9
  go_enter Tryz.func79, Tryz.ntmps79
  go_wp2
  go_ret
  exact ⟨rfl, rfl⟩
theorem prMade_nil (w : World) : Calls Tryz.prog 79 #[.pointer none] w fun e w' => e = .returned (.bool false) ∧ w = w' := by
  go_enter Tryz.func79, Tryz.ntmps79
  go_wp2
  go_ret
  exact ⟨rfl, rfl⟩
theorem prMade_zero (b : Nat) (w : World) (h : w.cell? ⟨b, 8704, none⟩ = some (.slice none 0 0)) : Calls Tryz.prog 79 #[.pointer (some ⟨b, 0, none⟩)] w fun e w' => e = .returned (.bool false) ∧ w = w' := by
  go_enter Tryz.func79, Tryz.ntmps79
  go_wp2
  go_ret
  exact ⟨rfl, rfl⟩
/-- Where a code's value stands. -/
theorem TabAt.place {w : World} {b nb : Nat} {l : List Rg} {z c : Int} (h : TabAt w b l z nb) (h0 : 0 ≤ c) (h1 : c ≤ 1114111) : ∃ (j t q g cap n : Nat), c.tdiv 128 = (j : Int) ∧ c.tmod 128 = (t : Int) ∧ j < 8704 ∧ t < 128 ∧ q < n ∧ n ≤ cap ∧
    w.cell? ⟨b, 8704, none⟩ = some (.slice (some ⟨g, 0, none⟩) n cap) ∧ w.cell? ⟨b, j, none⟩ = some (.int .u16 q) ∧ w.cell? ⟨g, q * 128 + t, none⟩ = some (.int .i64 (getG l z c)) := by
  obtain ⟨cs, bl, wh, g, cap, h1', h2, h3, h4, h5, h6, h7, h8, h9⟩ := h
  have hd : c.tdiv 128 = c / 128 := Int.tdiv_eq_ediv_of_nonneg h0
  have hm : c.tmod 128 = c % 128 := Int.tmod_eq_emod_of_nonneg h0
  obtain ⟨j, hj⟩ : ∃ j : Nat, c / 128 = j := ⟨(c / 128).toNat, by omega⟩
  obtain ⟨t, ht⟩ : ∃ t : Nat, c % 128 = t := ⟨(c % 128).toNat, by omega⟩
  obtain ⟨q, hq1, hq2⟩ := h6.at_ j (by omega)
  have hlens : ∀ x ∈ bl, x.length = 128 := fun x hx => by
    obtain ⟨j, _, rfl⟩ := h6.real x hx
    exact blkAt_len _ _ _
  refine ⟨j, t, q, g, cap, bl.length, hd.trans hj, hm.trans ht, by omega, by omega, (List.getElem?_eq_some_iff.1 hq2).1, h8, h1'.cell h3, h1'.cell (h5 j q hq1), ?_⟩
  obtain ⟨ad, e, _, hc⟩ := h7.2 h6.some_
  injection e with e
  subst e
  have := hc (q * 128 + t) (.int .i64 (getG l z c)) (by
    rw [cellsK_at hlens hq2 (by omega), blkAt_at _ _ _ _ (by omega)]
    simp only [Option.map_some]
    congr 3
    omega)
  rwa [addNew] at this
set_option maxRecDepth 100000 in
set_option maxHeartbeats 1000000 in
theorem prValue_any (b nb : Nat) (l : List Rg) (z c : Int) (w : World) (hT : TabAt w b l z nb) (h0 : 0 ≤ c) (h1 : c ≤ 1114111) :
    Calls Tryz.prog 80 #[.pointer (some ⟨b, 0, none⟩), .int .i64 c] w fun e w' => e = .returned (.int .i64 (getG l z c)) ∧ Below w.heap.size w w' := by
  obtain ⟨j, t, q, g, cap, n, hd, hm, hj, ht, hq, hn, e1, e2, e3⟩ := hT.place h0 h1
  obtain ⟨v, hv⟩ : ∃ v, getG l z c = v := ⟨_, rfl⟩
  rw [hv] at e3 ⊢
  clear hv hT
  go_enter Tryz.func80, Tryz.ntmps80
  go_wp2
  go_quiet (fail)
  go_wp2
  go_ret
  exact ⟨rfl, drewBelow _⟩
theorem getG_none {l : List Rg} {z c : Int} (hl : ∀ s ∈ l, -1 < s.1 ∧ s.2.1 ≤ 1114111) (h : c < 0 ∨ 1114111 < c) : getG l z c = z := by
  induction l with
  | nil => rfl
  | cons s l ih =>
    have := hl s (by simp)
    rw [getG, if_neg (by omega)]
    exact ih fun t ht => hl t (by simp [ht])
set_option maxRecDepth 100000 in
set_option maxHeartbeats 1000000 in
theorem prGet_any (b nb : Nat) (l : List Rg) (z c : Int) (w : World) (hT : TabAt w b l z nb) (hl : riseB (-1) l = true) :
    Calls Tryz.prog 49 #[.pointer (some ⟨b, 0, none⟩), .int .i64 c] w fun e w' => e = .returned (.int .i64 (getG l z c)) ∧ Below w.heap.size w w' := by
  have HT := Lib.hid hT
  have hz : w.cell? ⟨b, 8705, none⟩ = some (.int .i64 z) := by
    obtain ⟨cs, bl, wh, g, cap, h1, h2, h3, h4, _⟩ := hT
    exact h1.cell h4
  have HG := Lib.hid (fun h => getG_none (z := z) (c := c) (srt_of_rise hl).2 h)
  clear hT hl
  have hc : c < 0 ∨ (0 ≤ c ∧ 1114111 < c) ∨ (0 ≤ c ∧ c ≤ 1114111) := by omega
  go_enter Tryz.func49, Tryz.ntmps49
  go_wp2_with fail
  refine (prMade_any b nb l z w HT.out).mono ?_
  rintro e w1 ⟨rfl, rfl⟩
  rcases hc with h | ⟨h, h'⟩ | ⟨h, h'⟩
  · have HF := Lib.hid (HG.out (.inl h))
    go_wp2
    go_ret
    exact ⟨retI HF.out.symm, Below.refl _ _⟩
  · have HF := Lib.hid (HG.out (.inr h'))
    go_wp2
    go_ret
    exact ⟨retI HF.out.symm, Below.refl _ _⟩
  · go_wp2_with fail
    refine (prValue_any b nb l z c _ HT.out h h').mono ?_
    rintro e w2 ⟨rfl, hb⟩
    go_wp2
    go_ret
    exact ⟨rfl, hb⟩
end Go.Proofs.YtdgomaoikeffhaaGreat
