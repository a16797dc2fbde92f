/- The table's struct as it is built; a block as an element of a slice literal, and as a map's key. -/
import Derived.Test.YtcbiaeeifclieaaTrS
import Derived.Test.YtcbiaeeifclieaaMem3
import Derived.Great.FillDense
import Derived.Great.BuildSlice
import Derived.Maps.Own
import Derived.Maps.OwnSet
import Derived.Maps.Keyed
import Derived.DeepKeys4
import Derived.LaidMore
import Derived.Stop.Joined
namespace Go.Proofs.Ytcbiaeeifclieaa
open Go.RowKit Go.ChangeShapes Go.WideShapes Go.ChangeAt

set_option maxRecDepth 100000 in
theorem stZero : ∃ Z : Array Value, Z.size = 8706 ∧ Z[8704]? = some (.slice none 0 0) ∧ Z.toList.all (·.oneCell') = true ∧ (Try.prog.info? 137).map (fun i => (i.zero, i.size)) = some (some (.agg Z), 8706) :=
  ⟨(Try.t137.zero.getD (.bool false)).cells, by kernel_rfl, by kernel_rfl, by kernel_rfl, by kernel_rfl⟩
theorem fill_one (place : Nat → Option (Nat × Nat)) (cells : Array Value) (i : Nat) (v : Value) (off size : Nat) (hp : place i = some (off, size)) (hv : v.cells.size = size) (ho : off + size ≤ cells.size) :
    ∃ r, Instr.fill place cells [(i, v)] = some r ∧ r.size = cells.size ∧ ∀ k, r[k]? = if off ≤ k ∧ k < off + size then v.cells[k - off]? else cells[k]? := by
  obtain ⟨g1, g2⟩ := Great.foldl_set off v.cells.toList 0 cells
  refine ⟨(v.cells.toList.zipIdx 0).foldl (fun cs (x : Value × Nat) => cs.setIfInBounds (off + x.2) x.1) cells, ?_, g1, fun k => ?_⟩
  · rw [Instr.fill, hp]
    simp only [hv]
    rw [if_neg (by simp; omega), Instr.fill]
    congr 1
    rw [← Array.foldl_toList]
    simp
  · rw [g2 k]
    simp only [Nat.add_zero, Array.length_toList, hv]
    by_cases hk : off ≤ k ∧ k < off + size
    · rw [if_pos ⟨hk.1, hk.2, by omega⟩, if_pos hk]
      simp
    · rw [if_neg (by omega), if_neg hk]
set_option maxRecDepth 100000 in
/-- stages{none: z}. -/
theorem stBuilt (z : Int) : ∃ C : Array Value, Try.prog.built 137 [(2, .int .i64 z)] = some C ∧ C.size = 8706 ∧ C[8704]? = some (.slice none 0 0) ∧ C[8705]? = some (.int .i64 z) ∧ C.all (·.oneCell') = true := by
  obtain ⟨Z, h1, h2, h3, h4⟩ := stZero
  cases hq : Try.prog.info? 137 with
  | none => rw [hq] at h4; simp at h4
  | some it =>
    rw [hq] at h4
    simp only [Option.map_some, Option.some.injEq, Prod.mk.injEq] at h4
    have hpl : ∀ fs, Try.prog.underlying 137 = some (.struct fs) → List.mapM (fun f => Option.map (fun i => (f.offset, i.size)) (Try.prog.info? f.type)) fs.toList = some [(0, 8704), (8704, 1), (8705, 1)] := by
      intro fs hfs
      rw [Try.underlying137] at hfs
      injection hfs with hfs
      injection hfs with hfs
      subst hfs
      kernel_rfl
    obtain ⟨r, hr, hs, hk⟩ := fill_one (fun x => (#[(0, 8704), (8704, 1), (8705, 1)] : Array (Nat × Nat))[x]?) Z 2 (.int .i64 z) 8705 1 rfl rfl (by omega)
    refine ⟨r, ?_, by rw [hs, h1], by rw [hk, if_neg (by omega)]; exact h2, by rw [hk, if_pos (by omega)]; rfl, ?_⟩
    · unfold Program.built
      rw [hq]
      have hu := Try.underlying137
      rw [hu]
      simp only
      rw [h4.1, hpl _ hu]
      exact hr
    · rw [Array.all_eq_true_iff_forall_mem]
      intro v hv
      obtain ⟨k, hk1, rfl⟩ := Array.getElem_of_mem hv
      have e := hk k
      rw [Array.getElem?_eq_getElem hk1] at e
      by_cases hc : 8705 ≤ k ∧ k < 8705 + 1
      · rw [if_pos hc] at e
        obtain rfl : k = 8705 := by omega
        have : r[8705] = .int .i64 z := by simpa [Value.cells] using e
        rw [this]; rfl
      · rw [if_neg hc] at e
        have := List.all_eq_true.1 h3 r[k] (by
          have := Array.mem_of_getElem? e.symm
          simpa using this)
        exact this
set_option maxRecDepth 100000 in
/-- Table{s}. -/
theorem tabBuilt (cs : Array Value) (hs : cs.size = 8706) : Try.prog.built 140 [(0, .agg cs)] = some cs := by
  have h4 : ∃ Z : Array Value, Z.size = 8706 ∧ (Try.prog.info? 140).map (fun i => (i.zero, i.size)) = some (some (.agg Z), 8706) :=
    ⟨(Try.t140.zero.getD (.bool false)).cells, by kernel_rfl, by kernel_rfl⟩
  obtain ⟨Z, h1, h4⟩ := h4
  cases hq : Try.prog.info? 140 with
  | none => rw [hq] at h4; simp at h4
  | some it =>
    rw [hq] at h4
    simp only [Option.map_some, Option.some.injEq, Prod.mk.injEq] at h4
    have hpl : ∀ fs, Try.prog.underlying 140 = some (.struct fs) → List.mapM (fun f => Option.map (fun i => (f.offset, i.size)) (Try.prog.info? f.type)) fs.toList = some [(0, 8706)] := by
      intro fs hfs
      rw [Try.underlying140] at hfs
      injection hfs with hfs
      injection hfs with hfs
      subst hfs
      kernel_rfl
    obtain ⟨r, hr, hs', hk⟩ := fill_one (fun x => (#[(0, 8706)] : Array (Nat × Nat))[x]?) Z 0 (.agg cs) 0 8706 rfl hs (by omega)
    have e : r = cs := by
      apply Array.ext_getElem?
      intro k
      rw [hk k]
      by_cases hc : 0 ≤ k ∧ k < 0 + 8706
      · rw [if_pos hc]; rfl
      · rw [if_neg hc, Array.getElem?_eq_none (by omega), Array.getElem?_eq_none (by omega)]
    unfold Program.built
    rw [hq]
    have hu := Try.underlying140
    rw [hu]
    simp only
    rw [h4.1, hpl _ hu]
    rw [e] at hr
    exact hr

/-- A literal of one block. -/
theorem blkFill (b : List Int) (hb : b.length = 128) (cells : Array Value) (hc : cells.size = 128) : Instr.fill (fun i => some (i * 128, 128)) cells [(0, .agg (intsA b))] = some (intsA b) := by
  have hz : (Value.agg (intsA b)).cells.size = 128 := by show (intsA b).size = 128; rw [intsA_size, hb]
  obtain ⟨r, hr, hs, hk⟩ := fill_one (fun i => some (i * 128, 128)) cells 0 (.agg (intsA b)) 0 128 rfl hz (by omega)
  rw [hr]
  congr 1
  apply Array.ext_getElem?
  intro k
  rw [hk k]
  by_cases h : 0 ≤ k ∧ k < 0 + 128
  · rw [if_pos h]; rfl
  · rw [if_neg h, Array.getElem?_eq_none (by omega), Array.getElem?_eq_none (by rw [intsA_size]; omega)]

theorem laidOutT : laidOutB Try.prog = true := by kernel_rfl
theorem blkKeyed : Maps.Keyed Try.prog 154 := Maps.Keyed.of_law (deep_law_laid laidOutT (m := 5) (by decide) (of_decide_eq_true (by kernel_rfl)) (by kernel_rfl) (by rw [Try.underlying154]))
theorem mapM_some {α β : Type} {f : α → Option β} : ∀ {l : List α}, (∀ x ∈ l, ∃ y, f x = some y) → ∃ ys, l.mapM f = some ys
  | [], _ => ⟨[], rfl⟩
  | x :: l, h => by
    obtain ⟨y, hy⟩ := h x (by simp)
    obtain ⟨ys, hys⟩ := mapM_some (l := l) (fun u hu => h u (by simp [hu]))
    exact ⟨y :: ys, by simp [hy, hys]⟩
def FitI (x : Int) : Prop := -9223372036854775808 ≤ x ∧ x ≤ 9223372036854775807
theorem blkKey (b : List Int) (hb : b.length = 128) (hf : ∀ x ∈ b, FitI x) : ∃ kl, keyOf Try.prog 154 (.agg (intsA b)) = some kl := by
  have hu := Try.underlying154
  have hk : Try.prog.keyType 154 = true := by kernel_rfl
  have hc : Try.prog.cellsOf 154 = 128 := by kernel_rfl
  have hc3 : Try.prog.cellsOf 3 = 1 := by kernel_rfl
  have hform : (Value.agg (intsA b)).formed Try.prog 154 = true := by
    unfold Value.formed
    rw [hu]
    simp [hc, intsA_size, hb]
  have hs0 : decide (0 < Try.prog.types.size) = true := by kernel_rfl
  obtain ⟨n, hn⟩ : ∃ n, Try.prog.types.size = n + 1 := ⟨Try.prog.types.size - 1, by have := of_decide_eq_true hs0; omega⟩
  unfold keyOf
  rw [hu]
  simp only [hk, hform, Bool.and_self, if_true]
  rw [hn]
  unfold Program.keyLits
  rw [hu]
  dsimp only
  rw [if_pos (show (Value.agg (intsA b)).cells.toList.length = Try.prog.cellsOf 154 by rw [hc]; show (intsA b).toList.length = 128; simp [intsA, hb])]
  obtain ⟨ys, hys⟩ := mapM_some (f := fun i => Try.prog.keyLits (n + 1) 3 (((intsA b).toList.drop (i * Try.prog.cellsOf 3)).take (Try.prog.cellsOf 3))) (l := List.range 128) (fun i hi => by
    have hi' : i < 128 := by simpa using hi
    have hx : b[i]? = some b[i] := List.getElem?_eq_getElem (by omega)
    have hm : ((intsA b).toList.drop (i * Try.prog.cellsOf 3)).take (Try.prog.cellsOf 3) = [.int .i64 b[i]] := by
      rw [hc3, Nat.mul_one]
      show ((b.map (Value.int .i64)).toArray.toList.drop i).take 1 = _
      rw [List.drop_eq_getElem_cons (by simp; omega)]
      simp
    rw [hm]
    unfold Program.keyLits
    rw [Try.underlying3]
    have hw : (Lit.int .i64 b[i]).wf = true := by
      have := hf b[i] (List.getElem_mem _)
      unfold FitI at this
      simp [Lit.wf, IntKind.min, IntKind.max, IntKind.signed, IntKind.bits]
      omega
    simp [hw])
  rw [show (Value.agg (intsA b)).cells = intsA b from rfl, hys]
  exact ⟨_, rfl⟩
theorem intsA_inj {a b : List Int} (h : Value.agg (intsA a) = Value.agg (intsA b)) : a = b := by
  injection h with h
  unfold intsA at h
  have h' : a.map (Value.int .i64) = b.map (Value.int .i64) := by simpa using h
  have hi : Function.Injective (Value.int .i64) := fun x y e => by injection e
  exact (List.map_inj_right (fun x y e => hi e)).1 h'
end Go.Proofs.Ytcbiaeeifclieaa
