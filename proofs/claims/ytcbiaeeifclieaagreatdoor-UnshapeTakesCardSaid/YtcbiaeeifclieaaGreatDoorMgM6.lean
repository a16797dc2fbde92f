/- Texts of one claim, one behind the other. -/
import Derived.Great.FillDense
import Derived.Great.BuildSlice
import Derived.Great.Walk
import Derived.KernelRfl
import Derived.BigRegion
import Derived.Shelf.Abstract
import Derived.Maps.OwnSet
import Derived.Maps.Views
import Derived.Test.YtcbiaeeifclieaaGreatDoorMgM1
import Derived.Test.YtcbiaeeifclieaaGreatDoorMgM3
import Derived.Test.YtcbiaeeifclieaaGreatDoorMgM4
/- Long slice literals of ranges (structs of three whole numbers), without a step for each element. -/
namespace Go.Proofs.YtcbiaeeifclieaaGreatDoor
open Go.RowKit

/-- Whether each operation builds its range, into slots from i on. -/
def chkB (T : TypeId) : List Oper → Nat → List Rg → Bool
  | [], _, [] => true
  | o :: os, i, r :: l => (match o with
      | ⟨some d, .build t ⟨[(0, .const (.int .i64 a)), (1, .const (.int .i64 b)), (2, .const (.int .i64 v))]⟩, _, _, _, none⟩ => d == i && t == T && a == r.1 && b == r.2.1 && v == r.2.2
      | _ => false) && chkB T os (i + 1) l
  | _, _, _ => false
theorem chkB_cons {T : TypeId} {o : Oper} {os : List Oper} {i : Nat} {r : Rg} {l : List Rg} (h : chkB T (o :: os) i (r :: l) = true) :
    (o.dst = some i ∧ o.guard = none ∧ o.op = .build T #[(0, .const (.int .i64 r.1)), (1, .const (.int .i64 r.2.1)), (2, .const (.int .i64 r.2.2))]) ∧ chkB T os (i + 1) l = true := by
  unfold chkB at h
  rw [Bool.and_eq_true] at h
  refine ⟨?_, h.2⟩
  have h1 := h.1
  split at h1
  · simp only [Bool.and_eq_true, beq_iff_eq] at h1
    obtain ⟨⟨⟨⟨rfl, rfl⟩, rfl⟩, rfl⟩, rfl⟩ := h1
    exact ⟨rfl, rfl, rfl⟩
  · cases h1
def aggG (r : Rg) : Value := .agg (encG r).toArray
section
variable {P : Program} {ops : Array Oper} {Q : Exit → Act → World → Prop} {w : World} {T : TypeId}
theorem put_size (a : Act) (i : Nat) (v : Value) : (a.put (some i) v).tmps.size = a.tmps.size := by simp [Act.put]
theorem put_same (a : Act) (i : Nat) (v : Value) (h : i < a.tmps.size) : (a.put (some i) v).tmps[i]? = some v := by simp [Act.put, h]
theorem put_ne (a : Act) (i j : Nat) (v : Value) (h : j ≠ i) : (a.put (some i) v).tmps[j]? = a.tmps[j]? := by
  simp only [Act.put]
  rw [Array.getElem?_setIfInBounds_ne (by omega)]
theorem wpList_blds (hT : ∀ a b v : Int, P.built T [(0, .int .i64 a), (1, .int .i64 b), (2, .int .i64 v)] = some #[.int .i64 a, .int .i64 b, .int .i64 v]) :
    ∀ (os : List Oper) (l : List Rg) (s : Nat) (a : Act) (rest : List Oper), chkB T os s l = true → s + l.length ≤ a.tmps.size →
    (∀ a' : Act, a'.defers = a.defers → a'.tmps.size = a.tmps.size → (∀ (k : Nat) (r : Rg), l[k]? = some r → a'.tmps[s + k]? = some (aggG r)) → (∀ j, j < s → a'.tmps[j]? = a.tmps[j]?) → wpList P ops Q rest a' w) → wpList P ops Q (os ++ rest) a w
  | [], [], s, a, rest, _, _, h => h a rfl rfl (fun k r hk => by simp at hk) (fun _ _ => rfl)
  | [], _ :: _, _, _, _, hc, _, _ => by simp [chkB] at hc
  | _ :: _, [], _, _, _, hc, _, _ => by simp [chkB] at hc
  | o :: os, r :: l, s, a, rest, hc, hs, h => by
    obtain ⟨⟨hd, hg, ho⟩, hc'⟩ := chkB_cons hc
    simp only [List.length_cons] at hs
    refine wpList_buildTo hg T _ ho (some s) hd #[.int .i64 r.1, .int .i64 r.2.1, .int .i64 r.2.2] ?_ ?_
    · rw [Array.toList_map]
      exact hT r.1 r.2.1 r.2.2
    · refine wpList_blds hT os l (s + 1) _ rest hc' (by rw [put_size]; omega) fun a' hd' hs' hv hj => ?_
      refine h a' hd' (by rw [hs', put_size]) (fun k r' hk => ?_) (fun j hjs => ?_)
      · cases k with
        | zero =>
          simp at hk
          subst hk
          rw [Nat.add_zero, hj s (by omega), put_same _ _ _ (by omega)]
          rfl
        | succ k =>
          have := hv k r' (by simpa using hk)
          rwa [show s + (k + 1) = s + 1 + k by omega]
      · rw [hj j (by omega), put_ne _ _ _ _ (by omega)]
/-- The literal: N builds from slot 1 on, the slice into slot N + 1, that into slot 0. -/
theorem wpList_lit {S : TypeId} (hT : ∀ a b v : Int, P.built T [(0, .int .i64 a), (1, .int .i64 b), (2, .int .i64 v)] = some #[.int .i64 a, .int .i64 b, .int .i64 v])
    (hS : SliceOf P S T 3 24) (l : List Rg) (os : List Oper) (oB oA : Oper) (parts : Array (Nat × Operand)) (a : Act) (hc : chkB T os 1 l = true) (h0 : 0 < l.length) (hN : l.length ≤ 100000) (hsz : a.tmps.size = l.length + 2)
    (hgB : oB.guard = none) (hdB : oB.dst = some (l.length + 1)) (hoB : oB.op = .buildSlice S l.length parts) (hp : parts.toList = (List.range l.length).map fun k => (k, Operand.tmp (k + 1)))
    (hgA : oA.guard = none) (hdA : oA.dst = some 0) (hoA : oA.op = .assign (.tmp (l.length + 1)))
    (h : ∀ a' : Act, a'.defers = a.defers → a'.tmps[0]? = some (.slice (some ⟨w.heap.size, 0, none⟩) l.length l.length) → Q .normal a' (w.alloc (.cells (cellsG l).toArray T))) :
    wpList P ops Q (os ++ [oB, oA]) a w := by
  refine wpList_blds hT os l 1 a [oB, oA] hc (by omega) fun a1 hd1 hs1 hv1 _ => ?_
  obtain ⟨hu, ie, z, hie, hz, hes, _, hzs⟩ := hS
  have hvs : ∀ v ∈ l.map aggG, v.cells.size = 3 := by
    intro v hv
    simp only [List.mem_map] at hv
    obtain ⟨r, _, rfl⟩ := hv
    rfl
  obtain ⟨cs, hfill, hcs, hk⟩ := Great.fill_dense (s := 3) (by decide) (l.map aggG) 0 ((Array.range (l.length * 3)).map (z.cells[· % z.cells.size]!)) hvs (by simp)
  have hcells : cs = (cellsG l).toArray := by
    apply Array.ext_getElem?
    intro k
    rw [hk k]
    by_cases hkl : k < l.length * 3
    · rw [if_pos (by simp; omega)]
      obtain ⟨r, hr⟩ : ∃ r, l[k / 3]? = some r := ⟨_, List.getElem?_eq_getElem (by omega)⟩
      obtain ⟨e0, e1, e2⟩ := cellsG_at hr
      rw [Nat.sub_zero, List.getElem?_map, hr]
      simp only [Option.map_some, Option.bind_some, List.getElem?_toArray]
      have hm : k % 3 = 0 ∨ k % 3 = 1 ∨ k % 3 = 2 := by omega
      rcases hm with hm | hm | hm
      · rw [hm, show k = k / 3 * 3 by omega, e0]; simp [aggG, encG, Value.cells]
      · rw [hm]; rw [show (cellsG l)[k]? = (cellsG l)[k / 3 * 3 + 1]? by congr 1; omega, e1]; rfl
      · rw [hm]; rw [show (cellsG l)[k]? = (cellsG l)[k / 3 * 3 + 2]? by congr 1; omega, e2]; rfl
    · rw [if_neg (by simp; omega), Array.getElem?_eq_none (by simp; omega), List.getElem?_toArray, List.getElem?_eq_none (by rw [cellsG_len]; omega)]
  have hparts : (parts.map fun (i, x) => (i, a1.eval x)).toList = ((l.map aggG).zipIdx 0).map fun x => (x.2, x.1) := by
    rw [Array.toList_map, hp, List.map_map]
    apply List.ext_getElem?
    intro k
    simp only [List.getElem?_map, List.getElem?_zipIdx]
    by_cases hkl : k < l.length
    · obtain ⟨r, hr⟩ : ∃ r, l[k]? = some r := ⟨_, List.getElem?_eq_getElem hkl⟩
      have hv := hv1 k r hr
      rw [List.getElem?_range hkl, hr]
      simp only [Option.map_some, Function.comp, Nat.zero_add]
      have : a1.eval (.tmp (k + 1)) = aggG r := by
        simp only [Act.eval]
        rw [Array.getD_eq_getD_getElem?, show k + 1 = 1 + k by omega, hv]
        rfl
      rw [this]
    · rw [List.getElem?_eq_none (by simp; omega), List.getElem?_eq_none (l := l) (by omega)]
      rfl
  refine wpList_buildSlice hgB S T l.length parts hoB (cellsG l).toArray ie z hu hie hz (by rw [hes]; omega) (by rw [hes]; omega) ?_ ?_
  · rw [hes, hparts, hfill, hcells]
  · rw [hdB]
    refine Great.wpList_readTo hgA (some 0) hdA (.slice (some ⟨w.heap.size, 0, none⟩) l.length l.length) ?_ ?_
    · rw [BigFrame.run_assign _ hoA]
      congr 2
      simp only [Act.eval]
      rw [Array.getD_eq_getD_getElem?, put_same _ _ _ (by omega)]
      rfl
    · refine wpList_nil (h _ ?_ ?_)
      · exact hd1
      · rw [put_same _ _ _ (by rw [put_size]; omega)]
end
end Go.Proofs.YtcbiaeeifclieaaGreatDoor
/- Long slice literals of any structs of whole numbers: the slice of all that was built, without a step for each element; letters (a struct with an array within). -/
namespace Go.Proofs.YtcbiaeeifclieaaGreatDoor
open Go.RowKit

theorem flat_len {α : Type} {enc : α → List Value} {s : Nat} (hs : ∀ x, (enc x).length = s) : ∀ l : List α, (l.flatMap enc).length = l.length * s
  | [] => by simp
  | x :: l => by rw [List.flatMap_cons, List.length_append, hs, flat_len hs l, List.length_cons, Nat.succ_mul, Nat.add_comm]
theorem flat_at {α : Type} {enc : α → List Value} {s : Nat} (hs : ∀ x, (enc x).length = s) : ∀ {l : List α} {q r : Nat} {x : α}, l[q]? = some x → r < s → (l.flatMap enc)[q * s + r]? = (enc x)[r]?
  | [], q, _, _, h, _ => by simp at h
  | y :: l, 0, r, x, h, hr => by
    simp at h
    subst h
    rw [List.flatMap_cons, Nat.zero_mul, Nat.zero_add, List.getElem?_append_left (by rw [hs]; exact hr)]
  | y :: l, q + 1, r, x, h, hr => by
    rw [List.flatMap_cons, List.getElem?_append_right (by rw [hs, Nat.succ_mul]; omega), hs, show (q + 1) * s + r - s = q * s + r by rw [Nat.succ_mul]; omega]
    exact flat_at hs (by simpa using h) hr
section
variable {P : Program} {ops : Array Oper} {Q : Exit → Act → World → Prop} {w : World} {T : TypeId}
/-- What was built stands in slots; the slice of all into slot d, that into slot 0. -/
theorem wpList_sliceG {α : Type} (enc : α → List Value) (s bytes : Nat) (hs : ∀ x, (enc x).length = s) (hs0 : 0 < s) {S : TypeId} (hS : SliceOf P S T s bytes) (l : List α) (slot : Nat → Nat) (d : Nat) (oB oA : Oper) (parts : Array (Nat × Operand)) (a : Act)
    (hsl : ∀ k x, l[k]? = some x → a.tmps[slot k]? = some (.agg (enc x).toArray)) (h0 : 0 < l.length) (hN : l.length * s ≤ 1000000) (hd : d < a.tmps.size)
    (hgB : oB.guard = none) (hdB : oB.dst = some d) (hoB : oB.op = .buildSlice S l.length parts) (hp : parts.toList = (List.range l.length).map fun k => (k, Operand.tmp (slot k)))
    (hgA : oA.guard = none) (hdA : oA.dst = some 0) (hoA : oA.op = .assign (.tmp d))
    (h : ∀ a' : Act, a'.defers = a.defers → a'.tmps[0]? = some (.slice (some ⟨w.heap.size, 0, none⟩) l.length l.length) → Q .normal a' (w.alloc (.cells (l.flatMap enc).toArray T))) :
    wpList P ops Q [oB, oA] a w := by
  obtain ⟨hu, ie, z, hie, hz, hes, _, hzs⟩ := hS
  have hvs : ∀ v ∈ l.map fun x => Value.agg (enc x).toArray, v.cells.size = s := by
    intro v hv
    simp only [List.mem_map] at hv
    obtain ⟨r, _, rfl⟩ := hv
    simp [Value.cells, hs]
  obtain ⟨cs, hfill, hcs, hk⟩ := Great.fill_dense (s := s) hs0 (l.map fun x => Value.agg (enc x).toArray) 0 ((Array.range (l.length * s)).map (z.cells[· % z.cells.size]!)) hvs (by simp)
  have hcells : cs = (l.flatMap enc).toArray := by
    apply Array.ext_getElem?
    intro k
    rw [hk k]
    by_cases hkl : k < l.length * s
    · rw [if_pos (by simp; omega)]
      have hq : k / s < l.length := Nat.div_lt_of_lt_mul (by rw [Nat.mul_comm]; exact hkl)
      obtain ⟨r, hr⟩ : ∃ r, l[k / s]? = some r := ⟨_, List.getElem?_eq_getElem hq⟩
      rw [Nat.sub_zero, List.getElem?_map, hr]
      simp only [Option.map_some, Option.bind_some, List.getElem?_toArray]
      have e := flat_at hs hr (Nat.mod_lt k hs0)
      rw [show k / s * s + k % s = k by have := Nat.div_add_mod k s; rw [Nat.mul_comm] at this; exact this] at e
      rw [e]
      simp [Value.cells]
    · rw [if_neg (by simp; omega), Array.getElem?_eq_none (by simp; omega), List.getElem?_toArray, List.getElem?_eq_none (by rw [flat_len hs]; omega)]
  have hparts : (parts.map fun (i, x) => (i, a.eval x)).toList = ((l.map fun x => Value.agg (enc x).toArray).zipIdx 0).map fun x => (x.2, x.1) := by
    rw [Array.toList_map, hp, List.map_map]
    apply List.ext_getElem?
    intro k
    simp only [List.getElem?_map, List.getElem?_zipIdx]
    by_cases hkl : k < l.length
    · obtain ⟨r, hr⟩ : ∃ r, l[k]? = some r := ⟨_, List.getElem?_eq_getElem hkl⟩
      have hv := hsl k r hr
      rw [List.getElem?_range hkl, hr]
      simp only [Option.map_some, Function.comp, Nat.zero_add]
      have : a.eval (.tmp (slot k)) = .agg (enc r).toArray := by
        simp only [Act.eval]
        rw [Array.getD_eq_getD_getElem?, hv]
        rfl
      rw [this]
    · rw [List.getElem?_eq_none (by simp; omega), List.getElem?_eq_none (l := l) (by omega)]
      rfl
  refine wpList_buildSlice hgB S T l.length parts hoB (l.flatMap enc).toArray ie z hu hie hz (by rw [hes]; omega) (by rw [hes]; exact Nat.ne_of_gt (Nat.mul_pos h0 hs0)) ?_ ?_
  · rw [hes, hparts, hfill, hcells]
  · rw [hdB]
    refine Great.wpList_readTo hgA (some 0) hdA (.slice (some ⟨w.heap.size, 0, none⟩) l.length l.length) ?_ ?_
    · rw [BigFrame.run_assign _ hoA]
      congr 2
      simp only [Act.eval]
      rw [Array.getD_eq_getD_getElem?, put_same _ _ _ hd]
      rfl
    · refine wpList_nil (h _ ?_ ?_)
      · rfl
      · rw [put_same _ _ _ (by rw [put_size]; omega)]
end

def encL (t : Lt) : List Value := [.int .i64 t.1, .int .i64 t.2.1, .int .i64 t.2.2.1, .int .i64 t.2.2.2.1, .int .i64 t.2.2.2.2]
def cellsL (l : List Lt) : List Value := l.flatMap encL
theorem cellsL_len (l : List Lt) : (cellsL l).length = l.length * 5 := flat_len (enc := encL) (fun _ => rfl) l
/-- Whether each two operations build a letter, into slots from i on. -/
def chkL (A T : TypeId) : List Oper → Nat → List Lt → Bool
  | [], _, [] => true
  | p :: o :: os, i, r :: l => (match p with
      | ⟨some d, .build t ⟨[(0, .const (.int .i64 a)), (1, .const (.int .i64 b)), (2, .const (.int .i64 c)), (3, .const (.int .i64 e))]⟩, _, _, _, none⟩ => d == i && t == A && a == r.2.1 && b == r.2.2.1 && c == r.2.2.2.1 && e == r.2.2.2.2
      | _ => false) && (match o with
      | ⟨some d, .build t ⟨[(0, .const (.int .i64 a)), (1, .tmp k)]⟩, _, _, _, none⟩ => d == i + 1 && t == T && a == r.1 && k == i
      | _ => false) && chkL A T os (i + 2) l
  | _, _, _ => false
theorem chkL_cons {A T : TypeId} {p o : Oper} {os : List Oper} {i : Nat} {r : Lt} {l : List Lt} (h : chkL A T (p :: o :: os) i (r :: l) = true) :
    (p.dst = some i ∧ p.guard = none ∧ p.op = .build A #[(0, .const (.int .i64 r.2.1)), (1, .const (.int .i64 r.2.2.1)), (2, .const (.int .i64 r.2.2.2.1)), (3, .const (.int .i64 r.2.2.2.2))]) ∧
    (o.dst = some (i + 1) ∧ o.guard = none ∧ o.op = .build T #[(0, .const (.int .i64 r.1)), (1, .tmp i)]) ∧ chkL A T os (i + 2) l = true := by
  unfold chkL at h
  rw [Bool.and_eq_true, Bool.and_eq_true] at h
  refine ⟨?_, ?_, h.2⟩
  · have h1 := h.1.1
    split at h1
    · simp only [Bool.and_eq_true, beq_iff_eq] at h1
      obtain ⟨⟨⟨⟨⟨rfl, rfl⟩, rfl⟩, rfl⟩, rfl⟩, rfl⟩ := h1
      exact ⟨rfl, rfl, rfl⟩
    · cases h1
  · have h1 := h.1.2
    split at h1
    · simp only [Bool.and_eq_true, beq_iff_eq] at h1
      obtain ⟨⟨⟨rfl, rfl⟩, rfl⟩, rfl⟩ := h1
      exact ⟨rfl, rfl, rfl⟩
    · cases h1
section
variable {P : Program} {ops : Array Oper} {Q : Exit → Act → World → Prop} {w : World} {A T : TypeId}
theorem wpList_bldsL (hA : ∀ a b c d : Int, P.built A [(0, .int .i64 a), (1, .int .i64 b), (2, .int .i64 c), (3, .int .i64 d)] = some #[.int .i64 a, .int .i64 b, .int .i64 c, .int .i64 d])
    (hT : ∀ x a b c d : Int, P.built T [(0, .int .i64 x), (1, .agg #[.int .i64 a, .int .i64 b, .int .i64 c, .int .i64 d])] = some #[.int .i64 x, .int .i64 a, .int .i64 b, .int .i64 c, .int .i64 d]) :
    ∀ (os : List Oper) (l : List Lt) (s : Nat) (a : Act) (rest : List Oper), chkL A T os s l = true → s + 2 * l.length ≤ a.tmps.size →
    (∀ a' : Act, a'.defers = a.defers → a'.tmps.size = a.tmps.size → (∀ (k : Nat) (r : Lt), l[k]? = some r → a'.tmps[s + 2 * k + 1]? = some (.agg (encL r).toArray)) → (∀ j, j < s → a'.tmps[j]? = a.tmps[j]?) → wpList P ops Q rest a' w) → wpList P ops Q (os ++ rest) a w
  | [], [], s, a, rest, _, _, h => h a rfl rfl (fun k r hk => by simp at hk) (fun _ _ => rfl)
  | [], _ :: _, _, _, _, hc, _, _ => by simp [chkL] at hc
  | [_], _ :: _, _, _, _, hc, _, _ => by simp [chkL] at hc
  | _ :: _, [], _, _, _, hc, _, _ => by simp [chkL] at hc
  | p :: o :: os, r :: l, s, a, rest, hc, hs, h => by
    obtain ⟨⟨pd, pg, po⟩, ⟨hd, hg, ho⟩, hc'⟩ := chkL_cons hc
    simp only [List.length_cons] at hs
    refine wpList_buildTo pg A _ po (some s) pd #[.int .i64 r.2.1, .int .i64 r.2.2.1, .int .i64 r.2.2.2.1, .int .i64 r.2.2.2.2] ?_ ?_
    · rw [Array.toList_map]
      exact hA _ _ _ _
    refine wpList_buildTo hg T _ ho (some (s + 1)) hd (encL r).toArray ?_ ?_
    · rw [Array.toList_map]
      have e : (a.put (some s) (.agg #[.int .i64 r.2.1, .int .i64 r.2.2.1, .int .i64 r.2.2.2.1, .int .i64 r.2.2.2.2])).eval (.tmp s) = .agg #[.int .i64 r.2.1, .int .i64 r.2.2.1, .int .i64 r.2.2.2.1, .int .i64 r.2.2.2.2] := by
        simp only [Act.eval]
        rw [Array.getD_eq_getD_getElem?, put_same _ _ _ (by omega)]
        rfl
      simp only [List.map_cons, List.map_nil]
      rw [e]
      exact hT _ _ _ _ _
    · refine wpList_bldsL hA hT os l (s + 2) _ rest hc' (by rw [put_size, put_size]; omega) fun a' hd' hs' hv hj => ?_
      refine h a' hd' (by rw [hs', put_size, put_size]) (fun k r' hk => ?_) (fun j hjs => ?_)
      · cases k with
        | zero =>
          simp at hk
          subst hk
          rw [hj _ (by omega), Nat.mul_zero, Nat.add_zero, put_same _ _ _ (by rw [put_size]; omega)]
        | succ k =>
          have := hv k r' (by simpa using hk)
          rwa [show s + 2 * (k + 1) + 1 = s + 2 + 2 * k + 1 by omega]
      · rw [hj j (by omega), put_ne _ _ _ _ (by omega), put_ne _ _ _ _ (by omega)]
end
/-- The parts of the slice. -/
def chkPL : List (Nat × Operand) → Nat → Nat → Bool
  | [], i, n => i == n
  | p :: r, i, n => (match p with
      | (k, .tmp t) => k == i && t == 2 * i + 2
      | _ => false) && chkPL r (i + 1) n
theorem chkPL_is : ∀ {ps : List (Nat × Operand)} {i n : Nat}, chkPL ps i n = true → i + ps.length = n ∧ ps = (List.range' i ps.length).map fun k => (k, Operand.tmp (2 * k + 2))
  | [], i, n, h => by
    simp [chkPL] at h
    exact ⟨by simp [h], rfl⟩
  | p :: r, i, n, h => by
    unfold chkPL at h
    rw [Bool.and_eq_true] at h
    obtain ⟨h1, h2⟩ := chkPL_is h.2
    have hp : p = (i, .tmp (2 * i + 2)) := by
      have h3 := h.1
      split at h3
      · simp only [Bool.and_eq_true, beq_iff_eq] at h3
        obtain ⟨rfl, rfl⟩ := h3
        rfl
      · cases h3
    refine ⟨by simp only [List.length_cons]; omega, ?_⟩
    rw [List.length_cons, List.range'_succ, List.map_cons, ← h2, hp]
def chkEL (S : TypeId) (N : Nat) : List Oper → Bool
  | [oB, oA] => (match oB with
      | ⟨some d, .buildSlice t n parts, _, _, _, none⟩ => d == 2 * N + 1 && t == S && n == N && chkPL parts.toList 0 N
      | _ => false) && (match oA with
      | ⟨some d, .assign (.tmp k), _, _, _, none⟩ => d == 0 && k == 2 * N + 1
      | _ => false)
  | _ => false
theorem chkEL_is {S : TypeId} {N : Nat} {l : List Oper} (h : chkEL S N l = true) : ∃ (oB oA : Oper) (parts : Array (Nat × Operand)), l = [oB, oA] ∧ oB.guard = none ∧ oB.dst = some (2 * N + 1) ∧ oB.op = .buildSlice S N parts ∧ parts.toList = ((List.range N).map fun k => (k, Operand.tmp (2 * k + 2))) ∧
    oA.guard = none ∧ oA.dst = some 0 ∧ oA.op = .assign (.tmp (2 * N + 1)) := by
  unfold chkEL at h
  split at h
  · rename_i oB oA
    rw [Bool.and_eq_true] at h
    obtain ⟨h1, h2⟩ := h
    split at h1
    · rename_i d t n parts _ _ _
      simp only [Bool.and_eq_true, beq_iff_eq] at h1
      obtain ⟨⟨⟨rfl, rfl⟩, rfl⟩, hp⟩ := h1
      split at h2
      · simp only [Bool.and_eq_true, beq_iff_eq] at h2
        obtain ⟨rfl, rfl⟩ := h2
        obtain ⟨p1, p2⟩ := chkPL_is hp
        refine ⟨_, _, parts, rfl, rfl, rfl, rfl, ?_, rfl, rfl, rfl⟩
        rw [Nat.zero_add] at p1
        rw [p1] at p2
        rw [p2, List.range_eq_range']
      · cases h2
    · cases h1
  · cases h
theorem wpList_litL {P : Program} {ops : Array Oper} {Q : Exit → Act → World → Prop} {w : World} {A T S : TypeId} {lst : List Oper} (N : Nat) (hA : ∀ a b c d : Int, P.built A [(0, .int .i64 a), (1, .int .i64 b), (2, .int .i64 c), (3, .int .i64 d)] = some #[.int .i64 a, .int .i64 b, .int .i64 c, .int .i64 d])
    (hT : ∀ x a b c d : Int, P.built T [(0, .int .i64 x), (1, .agg #[.int .i64 a, .int .i64 b, .int .i64 c, .int .i64 d])] = some #[.int .i64 x, .int .i64 a, .int .i64 b, .int .i64 c, .int .i64 d])
    (hS : SliceOf P S T 5 40) (l : List Lt) {a : Act} (he : chkEL S N (lst.drop (2 * N)) = true) (hc : chkL A T (lst.take (2 * N)) 1 l = true) (hl : l.length = N) (h0 : 0 < N) (hN : N ≤ 100000) (hsz : a.tmps.size = 2 * N + 2)
    (h : ∀ a' : Act, a'.defers = a.defers → a'.tmps[0]? = some (.slice (some ⟨w.heap.size, 0, none⟩) N N) → Q .normal a' (w.alloc (.cells (cellsL l).toArray T))) :
    wpList P ops Q lst a w := by
  subst hl
  obtain ⟨oB, oA, parts, hdrop, hgB, hdB, hoB, hp, hgA, hdA, hoA⟩ := chkEL_is he
  rw [← List.take_append_drop (2 * l.length) lst, hdrop]
  refine wpList_bldsL hA hT _ l 1 a [oB, oA] hc (by omega) fun a1 hd1 hs1 hv1 _ => ?_
  exact wpList_sliceG encL 5 40 (fun _ => rfl) (by decide) hS l (fun k => 2 * k + 2) (2 * l.length + 1) oB oA parts a1 (fun k x hk => by rw [show 2 * k + 2 = 1 + 2 * k + 1 by omega]; exact hv1 k x hk) h0 (by omega) (by omega) hgB hdB hoB hp hgA hdA hoA (fun a' e1 e2 => h a' (e1.trans hd1) e2)
end Go.Proofs.YtcbiaeeifclieaaGreatDoor
/- The letters that are given, as the project hands them out; a letter in a slice. -/
namespace Go.Proofs.YtcbiaeeifclieaaGreatDoor
open Go.RowKit
theorem letABuilt (a b c d : Int) : Tryz.prog.built 71 [(0, .int .i64 a), (1, .int .i64 b), (2, .int .i64 c), (3, .int .i64 d)] = some #[.int .i64 a, .int .i64 b, .int .i64 c, .int .i64 d] := by kernel_rfl
theorem letBuilt (x a b c d : Int) : Tryz.prog.built 180 [(0, .int .i64 x), (1, .agg #[.int .i64 a, .int .i64 b, .int .i64 c, .int .i64 d])] = some #[.int .i64 x, .int .i64 a, .int .i64 b, .int .i64 c, .int .i64 d] := by kernel_rfl
theorem letSlice : SliceOf Tryz.prog 177 180 5 40 := .mk_ (z := .agg #[.int .i64 0, .int .i64 0, .int .i64 0, .int .i64 0, .int .i64 0]) Tryz.underlying177 (by kernel_rfl) rfl
set_option maxRecDepth 1000000 in
set_option maxHeartbeats 4000000 in
theorem letters_any (w : World) : Calls Tryz.prog 109 #[] w fun e w' => e = .returned (.slice (some ⟨w.heap.size, 0, none⟩) 76 76) ∧ w' = w.alloc (.cells (cellsL letL).toArray 180) := by
  refine calls_of_wp Tryz.func109 rfl ?_
  apply wp_seq_k
  intro K hK
  apply wp_region_lit
  refine Great.wpList_readTo rfl (some 0) rfl (.slice none 0 0) (by rw [BigFrame.run_assign _ rfl]; rfl) ?_
  refine wpList_nil (hK _ _ ?_)
  apply wp_seq_k
  intro K2 hK2
  apply wp_region_lit
  refine wpList_litL 76 letABuilt letBuilt letSlice letL (by kernel_rfl) (by kernel_rfl) rfl (by decide) (by decide) (by simp [Act.put, Tryz.ntmps109]) ?_
  intro a' hd h0
  refine hK2 _ _ ?_
  apply wp_ret
  refine bodyPost_ret (results_tmp rfl _ _ _) hd ⟨?_, rfl⟩
  rw [Array.getD_eq_getD_getElem?, h0]
  rfl
theorem rd_newL (w : World) (l : List Lt) (T : TypeId) : Rd (w.alloc (.cells (cellsL l).toArray T)) 5 (some ⟨w.heap.size, 0, none⟩) l.length (cellsL l) :=
  ⟨cellsL_len l, fun _ => ⟨_, rfl, by simp, cells_new w _ T⟩⟩
/-- A letter in a slice of letters, as the walk spells it; its forms as a slice. -/
theorem Rd.lt_ {w : World} {A : Option Addr} {n k : Nat} {l : List Lt} {t : Lt} (hr : Rd w 5 A n (cellsL l)) (h : l[k]? = some t) : ∃ ad, A = some ad ∧ ad.block < w.heap.size ∧ w.cell? (ad.add (k * 5)) = some (.int .i64 t.1) ∧
    w.cell? ⟨(ad.add (k * 5)).block, (ad.add (k * 5)).off + 1, none⟩ = some (.int .i64 t.2.1) ∧ w.cell? ⟨(ad.add (k * 5)).block, (ad.add (k * 5)).off + 2, none⟩ = some (.int .i64 t.2.2.1) ∧
    w.cell? ⟨(ad.add (k * 5)).block, (ad.add (k * 5)).off + 3, none⟩ = some (.int .i64 t.2.2.2.1) ∧ w.cell? ⟨(ad.add (k * 5)).block, (ad.add (k * 5)).off + 4, none⟩ = some (.int .i64 t.2.2.2.2) := by
  have hlen : l.length * 5 = n * 5 := by rw [← cellsL_len]; exact hr.1
  have hk := (List.getElem?_eq_some_iff.1 h).1
  obtain ⟨ad, rfl, hb, hc⟩ := hr.2 (by omega)
  have e : ∀ j, j < 5 → ∀ u, (encL t)[j]? = some u → w.cell? (ad.add (k * 5 + j)) = some u := fun j hj u hu => hc _ _ (by
    have := flat_at (enc := encL) (s := 5) (fun _ => rfl) h hj
    exact this.trans hu)
  have h0 := e 0 (by omega) _ rfl
  have h1 := e 1 (by omega) _ rfl
  have h2 := e 2 (by omega) _ rfl
  have h3 := e 3 (by omega) _ rfl
  have h4 := e 4 (by omega) _ rfl
  rw [addNext ad (k * 5) 0] at h1
  rw [addNext ad (k * 5) 1] at h2
  rw [addNext ad (k * 5) 2] at h3
  rw [addNext ad (k * 5) 3] at h4
  exact ⟨ad, rfl, hb, h0, h1, h2, h3, h4⟩
theorem Rd.forms {w : World} {n k : Nat} {ad : Addr} {l : List Lt} {t : Lt} (hr : Rd w 5 (some ad) n (cellsL l)) (h : l[k]? = some t) : Rd w 1 (some ⟨(ad.add (k * 5)).block, (ad.add (k * 5)).off + 1, none⟩) 4 ((formsOf t).map (Value.int .i64)) := by
  obtain ⟨ad', e, hb, h0, h1, h2, h3, h4⟩ := hr.lt_ h
  injection e with e
  subst e
  refine ⟨rfl, fun _ => ⟨_, rfl, by rw [blockAdd]; exact hb, fun j u hu => ?_⟩⟩
  have hj : j = 0 ∨ j = 1 ∨ j = 2 ∨ j = 3 := by
    have := (List.getElem?_eq_some_iff.1 hu).1
    simp [formsOf] at this
    omega
  rcases hj with rfl | rfl | rfl | rfl
  · rw [← h1.trans hu]; rfl
  · rw [← h2.trans hu]; rfl
  · rw [← h3.trans hu]; rfl
  · rw [← h4.trans hu]; rfl
end Go.Proofs.YtcbiaeeifclieaaGreatDoor
/- Forms: the given lists; letters in memory. -/
namespace Go.Proofs.YtcbiaeeifclieaaGreatDoor
open Go.RowKit

theorem rd_newS (w : World) (l : List Sp) (T : TypeId) : Rd (w.alloc (.cells (cellsS l).toArray T)) 2 (some ⟨w.heap.size, 0, none⟩) l.length (cellsS l) :=
  ⟨cellsS_len l, fun _ => ⟨_, rfl, by simp, cells_new w _ T⟩⟩
set_option maxRecDepth 1000000 in
set_option maxHeartbeats 4000000 in
theorem accents_any (w : World) : Calls Tryz.prog 114 #[] w fun e w' => (∃ A, e = .returned (.slice A 8 8) ∧ Rd w' 3 A 8 (cellsG accL)) ∧ Below w.heap.size w w' := by
  go_enter Tryz.func114, Tryz.ntmps114
  go_wp2
  go_ret
  exact ⟨⟨_, rfl, rd_newG w accL _⟩, below_new _ _⟩
set_option maxRecDepth 1000000 in
set_option maxHeartbeats 4000000 in
theorem piles_any (w : World) : Calls Tryz.prog 115 #[] w fun e w' => (∃ A, e = .returned (.slice A 6 6) ∧ Rd w' 2 A 6 (cellsS pilL)) ∧ Below w.heap.size w w' := by
  go_enter Tryz.func115, Tryz.ntmps115
  go_wp2
  go_ret
  exact ⟨⟨_, rfl, rd_newS w pilL _⟩, below_new _ _⟩
end Go.Proofs.YtcbiaeeifclieaaGreatDoor
/- Forms: slices.Index, place. -/
namespace Go.Proofs.YtcbiaeeifclieaaGreatDoor
open Go.RowKit
def idx1 (x : Int) : List Int → Nat
  | [] => 0
  | y :: l => if y = x then 1 else match idx1 x l with
    | 0 => 0
    | k + 1 => k + 2
theorem hit_idx (c : Int) (l : List Int) : hitF c l = if c = 0 then 0 else idx1 c l := by
  induction l with
  | nil => simp [hitF, idx1]
  | cons y l ih =>
    rw [hitF, idx1, ih]
    by_cases h : c = 0
    · simp [h]
    · simp only [h, if_false]
      split
      · rfl
      · cases idx1 c l <;> rfl
theorem idx1_none {x : Int} {l : List Int} (h : x ∉ l) : idx1 x l = 0 := by
  induction l with
  | nil => rfl
  | cons y l ih =>
    rw [idx1, if_neg (fun e => h (by simp [e])), ih (fun m => h (by simp [m]))]
theorem idx1_at {x : Int} : ∀ {l : List Int} {k : Nat}, l[k]? = some x → x ∉ l.take k → idx1 x l = k + 1
  | [], _, h, _ => by simp at h
  | y :: l, 0, h, _ => by
    simp at h
    rw [idx1, if_pos h]
  | y :: l, k + 1, h, hn => by
    rw [List.take_succ_cons] at hn
    rw [idx1, if_neg (fun e => hn (by simp [e])), idx1_at (l := l) (k := k) (by simpa using h) (fun m => hn (by simp [m]))]
set_option maxRecDepth 100000 in
theorem indexN_any (A : Option Addr) (n c : Nat) (xs : List Int) (x : Int) (w : World) (hr : Rd w 1 A n (xs.map (Value.int .i64))) (hn : n ≤ 1000) :
    Calls Tryz.prog 116 #[.slice A n c, .int .i64 x] w fun e w' => e = .returned (.int .i64 ((idx1 x xs : Nat) - 1)) ∧ w = w' := by
  have hlen : xs.length = n := by simpa using hr.len1
  have HL := Lib.hid hlen
  clear hlen
  go_enter Tryz.func116, Tryz.ntmps116
  go_wp2
  go_loop [8] (fun i => ∃ k : Nat, k ≤ n ∧ i = .int .i64 k ∧ x ∉ xs.take k) (fun i => n - (intOf i).toNat)
  case atStart => exact ⟨0, Nat.zero_le _, rfl, by simp⟩
  case round =>
    obtain ⟨k, hk, rfl, hno⟩ := hrel
    have HN := Lib.hid hno
    clear hno
    by_cases hlt : k < n
    · obtain ⟨s, hsk⟩ : ∃ s, xs[k]? = some s := ⟨_, List.getElem?_eq_getElem (by rw [HL.out]; exact hlt)⟩
      obtain ⟨ad, rfl, _, hc⟩ := hr.at_ hlt
      have cs : w.cell? (ad.add k) = some (.int .i64 s) := hc _ (by rw [List.getElem?_map, hsk]; rfl)
      have HS := Lib.hid hsk
      clear hsk hc
      by_cases he : x = s
      · have HM := Lib.hid (show (((idx1 x xs : Nat) : Int) - 1) = k by rw [idx1_at (by rw [he]; exact HS.out) HN.out]; omega)
        subst he
        go_wp2
        go_ret
        exact ⟨retI HM.out.symm, rfl⟩
      · have HX := Lib.hid (show x ∉ xs.take (k + 1) by
          rw [List.take_add_one, HS.out]
          simp only [Option.toList_some, List.mem_append, List.mem_singleton, not_or]
          exact ⟨HN.out, he⟩)
        have g1 : (x == s) = false := by simp [he]
        clear he
        go_wp2
        go_round
        case rel => exact ⟨k + 1, by omega, by go_num, HX.out⟩
        case measure => simp [intOf]; omega
    · have HF := Lib.hid (show (((idx1 x xs : Nat) : Int) - 1) = -1 by rw [idx1_none (by have := HN.out; rwa [List.take_of_length_le (by rw [HL.out]; omega)] at this)]; rfl)
      go_wp2
      go_ret
      exact ⟨retI HF.out.symm, rfl⟩
theorem place_any (A : Option Addr) (n d : Nat) (xs : List Int) (c : Int) (h : Nat) (w : World) (hh : hitF c xs = h) (hr : Rd w 1 A n (xs.map (Value.int .i64))) (hn : n ≤ 1000) :
    Calls Tryz.prog 97 #[.int .i64 c, .slice A n d] w fun e w' => (∃ r : Int, e = .returned (.tuple #[.int .i64 r, .bool (decide (h ≠ 0))]) ∧ (h ≠ 0 → r = (h : Int) - 1)) ∧ w = w' := by
  have HC := Lib.hid (indexN_any A n d xs c w hr hn)
  have HH := Lib.hid (hh.symm.trans (hit_idx c xs))
  clear hr hh
  go_enter Tryz.func97, Tryz.ntmps97
  go_wp2_with fail
  refine HC.out.mono ?_
  rintro e w1 ⟨rfl, rfl⟩
  obtain ⟨i, hi⟩ : ∃ i, idx1 c xs = i := ⟨_, rfl⟩
  rw [hi]
  have HI := Lib.hid hi
  clear hi HC
  by_cases h0 : i = 0
  · have HF := Lib.hid (show h = 0 by rw [HH.out, HI.out, h0]; split <;> rfl)
    have HZ : Hid (((i : Nat) : Int) - 1 = -1) := Lib.hid (by omega)
    rw [HZ.out]
    clear h0 HZ HI
    go_wp2
    go_ret2
    exact ⟨⟨_, by rw [HF.out]; rfl, fun h => absurd HF.out h⟩, rfl⟩
  · obtain ⟨j, rfl⟩ : ∃ j, i = j + 1 := ⟨i - 1, by omega⟩
    have HZ : Hid ((((j + 1 : Nat) : Nat) : Int) - 1 = (j : Int)) := Lib.hid (by omega)
    rw [HZ.out]
    clear HZ h0
    by_cases hc : c = 0
    · have HF := Lib.hid (show h = 0 by rw [HH.out, if_pos hc])
      subst hc
      go_wp2
      go_ret2
      exact ⟨⟨_, by rw [HF.out]; rfl, fun h => absurd HF.out h⟩, rfl⟩
    · have HF := Lib.hid (show h = j + 1 by rw [HH.out, if_neg hc, HI.out])
      have g1 : (c != 0) = true := by simp [hc]
      clear hc
      go_wp2
      go_ret2
      exact ⟨⟨_, by rw [HF.out]; rfl, fun _ => by rw [HF.out]; omega⟩, rfl⟩
end Go.Proofs.YtcbiaeeifclieaaGreatDoor
/- The project's Base. -/
namespace Go.Proofs.YtcbiaeeifclieaaGreatDoor
open Go.RowKit
theorem lettersR_any (w : World) : Calls Tryz.prog 109 #[] w fun e w' => (∃ ad, e = .returned (.slice (some ad) 76 76) ∧ Rd w' 5 (some ad) 76 (cellsL letL)) ∧ Below w.heap.size w w' := by
  refine (letters_any w).mono ?_
  rintro e w1 ⟨rfl, rfl⟩
  exact ⟨⟨_, rfl, rd_newL w letL 180⟩, below_new _ _⟩
theorem hit_four (c : Int) (a b d e : Int) : hitF c [a, b, d, e] ≤ 4 := by
  rw [hit_idx]
  split
  · omega
  · simp only [idx1]
    by_cases h1 : a = c <;> by_cases h2 : b = c <;> by_cases h3 : d = c <;> by_cases h4 : e = c <;> simp [h1, h2, h3, h4]
theorem hit_le (c : Int) (t : Lt) : hitF c (formsOf t) ≤ 4 := hit_four c _ _ _ _
set_option maxRecDepth 100000 in
set_option maxHeartbeats 1000000 in
theorem fmBase_any (c x q : Int) (ok : Bool) (hv : baseF c = (x, q, ok)) (w : World) :
    Calls Tryz.prog 94 #[.int .i64 c] w fun e w' => e = .returned (.tuple #[.int .i64 x, .int .i64 q, .bool ok]) ∧ Below w.heap.size w w' := by
  have hfar : c < 64336 ∨ (64336 ≤ c ∧ 65279 < c) ∨ (64336 ≤ c ∧ c ≤ 65279) := by omega
  rcases hfar with h | ⟨h, h'⟩ | ⟨h, h'⟩
  · rw [base_far (.inl h)] at hv
    simp only [Prod.mk.injEq] at hv
    obtain ⟨rfl, rfl, rfl⟩ := hv
    go_enter Tryz.func94, Tryz.ntmps94
    go_wp2
    go_ret3
    exact ⟨rfl, Below.refl _ _⟩
  · rw [base_far (.inr h')] at hv
    simp only [Prod.mk.injEq] at hv
    obtain ⟨rfl, rfl, rfl⟩ := hv
    go_enter Tryz.func94, Tryz.ntmps94
    go_wp2
    go_ret3
    exact ⟨rfl, Below.refl _ _⟩
  · have HL := Lib.hid (show letL.length = 76 by decide +kernel)
    have hv' : baseR c letL = (x, q, ok) := hv
    have HLT := Lib.hid (lettersR_any w)
    clear hv
    obtain ⟨l, hl⟩ : ∃ l, letL = l := ⟨_, rfl⟩
    rw [hl] at hv' HL HLT
    have HV := Lib.hid hv'
    clear hl hv'
    go_enter Tryz.func94, Tryz.ntmps94
    go_wp2_with fail
    refine HLT.out.mono ?_
    rintro e w1 ⟨⟨ad, rfl, hr⟩, hb1⟩
    have HR := Lib.hid hr
    clear hr HLT
    go_wp2
    go_loopw [18] (fun i wr => ∃ k : Nat, k ≤ 76 ∧ i = .int .i64 k ∧ baseR c l = baseR c (l.drop k) ∧ wr = w1) (fun i _ => 76 - (intOf i).toNat)
    case atStart => exact ⟨0, Nat.zero_le _, rfl, rfl, rfl⟩
    case round =>
      obtain ⟨k, hk, rfl, hp, rfl⟩ := hrel
      have HP := Lib.hid hp
      clear hp
      by_cases hlt : k < 76
      · obtain ⟨t, hk2⟩ : ∃ t, l[k]? = some t := ⟨_, List.getElem?_eq_getElem (by rw [HL.out]; exact hlt)⟩
        have HF := Lib.hid (HR.out.forms hk2)
        obtain ⟨ad', e', hab, c0, _, _, _, _⟩ := HR.out.lt_ hk2
        injection e' with e'
        subst e'
        have HD := Lib.hid (dropCons hk2)
        obtain ⟨h, hh⟩ : ∃ h, hitF c (formsOf t) = h := ⟨_, rfl⟩
        have HH := Lib.hid hh
        obtain ⟨y, hy⟩ : ∃ y, t.1 = y := ⟨_, rfl⟩
        rw [hy] at c0
        have HY := Lib.hid hy
        clear hk2 hh hy
        go_wp2_with fail
        refine (place_any _ 4 4 (formsOf t) c h wr HH.out HF.out (by omega)).mono ?_
        rintro e w3 ⟨⟨r, rfl, hr2⟩, rfl⟩
        rcases Nat.eq_zero_or_pos h with h0 | h0
        · have HX := Lib.hid (show baseR c l = baseR c (l.drop (k + 1)) by rw [HP.out, HD.out, baseR, if_pos (by rw [HH.out]; exact h0)])
          subst h0
          clear hr2
          go_wp2
          go_roundw
          case rel => exact ⟨k + 1, by omega, by go_num, HX.out, trivial⟩
          case measure => simp [intOf]; omega
        · have hX := show (x, q, ok) = (y, (h : Int), true) by rw [← HV.out, HP.out, HD.out, baseR, if_neg (by rw [HH.out]; omega), HH.out, HY.out]
          simp only [Prod.mk.injEq] at hX
          obtain ⟨rfl, rfl, rfl⟩ := hX
          have hr3 := hr2 (by omega)
          have hle := Lib.hid (hit_le c t)
          have hh4 : h ≤ 4 := by rw [← HH.out]; exact hle.out
          have hd : decide (h ≠ 0) = true := decide_eq_true (by omega)
          obtain ⟨j, rfl⟩ : ∃ j : Nat, h = j + 1 := ⟨h - 1, by omega⟩
          obtain rfl : r = (j : Int) := by rw [hr3]; omega
          clear hr2 hr3 h0
          go_wp2
          go_ret3
          exact ⟨by rw [show ((j + 1 : Nat) : Int) = 1 + (j : Int) by omega]; rfl, hb1⟩
      · have hX := show (x, q, ok) = (0, 0, false) by rw [← HV.out, HP.out, List.drop_eq_nil_of_le (by rw [HL.out]; omega)]; rfl
        simp only [Prod.mk.injEq] at hX
        obtain ⟨rfl, rfl, rfl⟩ := hX
        go_wp2
        go_ret3
        exact ⟨rfl, hb1⟩
end Go.Proofs.YtcbiaeeifclieaaGreatDoor
/- The project's Ligate, Parted, Accent, Mark, Pile, Unpile. -/
namespace Go.Proofs.YtcbiaeeifclieaaGreatDoor
open Go.RowKit

theorem hit_two_le (c y z : Int) : hitF c [y, z] ≤ 2 := by
  rw [hit_idx]
  split
  · omega
  · simp only [idx1]
    by_cases h1 : y = c <;> by_cases h2 : z = c <;> simp [h1, h2]
set_option maxRecDepth 100000 in
set_option maxHeartbeats 1000000 in
theorem fmParted_any (c x q : Int) (ok : Bool) (hv : parF c = (x, q, ok)) (w : World) :
    Calls Tryz.prog 63 #[.int .i64 c] w fun e w' => e = .returned (.tuple #[.int .i64 x, .int .i64 q, .bool ok]) ∧ Below w.heap.size w w' := by
  rw [parF_eq] at hv
  have HV := Lib.hid hv
  clear hv
  go_enter Tryz.func63, Tryz.ntmps63
  go_wp2_with fail
  refine (ligatures_any _).mono ?_
  rintro e w1 ⟨⟨A, rfl, hr⟩, hb1⟩
  have HL := Lib.hid (show ligL.length = 4 from rfl)
  obtain ⟨l, hl⟩ : ∃ l, ligL = l := ⟨_, rfl⟩
  rw [hl] at HV HL hr
  clear hl
  go_wp2
  go_loopw [11] (fun i wr => ∃ (k : Nat), k ≤ 4 ∧ i = .int .i64 k ∧ parP c l = parP c (l.drop k) ∧ Below w1.heap.size w1 wr) (fun i _ => 4 - (intOf i).toNat)
  case atStart => exact ⟨0, Nat.zero_le _, rfl, rfl, Below.refl _ _⟩
  case round =>
    obtain ⟨k, hk, rfl, hp, hb⟩ := hrel
    have HP := Lib.hid hp
    clear hp
    by_cases hlt : k < 4
    · obtain ⟨s, hsk⟩ : ∃ s, l[k]? = some s := ⟨_, List.getElem?_eq_getElem (by rw [HL.out]; exact hlt)⟩
      obtain ⟨ad, rfl, hab, c1, c2, c3⟩ := (hr.below hb).rg hsk
      have HD := Lib.hid (dropCons hsk)
      clear hsk
      obtain ⟨y, f1, f2⟩ := s
      simp only at c1 c2 c3
      have hbn := below_self hb (below_new wr (.cells #[.int .i64 y, .int .i64 f1, .int .i64 f2] 147))
      have d0 : (wr.alloc (.cells #[.int .i64 y, .int .i64 f1, .int .i64 f2] 147)).cell? ⟨wr.heap.size, 0, none⟩ = some (.int .i64 y) := by rw [World.cell?_alloc_at _ _ _ _ rfl]; rfl
      obtain ⟨h, hh⟩ : ∃ h, hitF c [f1, f2] = h := ⟨_, rfl⟩
      have hh2 : h ≤ 2 := by rw [← hh]; exact hit_two_le c f1 f2
      have HH := Lib.hid hh
      clear hh
      go_wp2_with fail
      refine (place_any (some ⟨wr.heap.size + 1, 0, none⟩) 2 2 [f1, f2] c h _ HH.out (rdNew2b wr _ f1 f2 _) (by omega)).mono ?_
      rintro e w3 ⟨⟨r, rfl, hr2⟩, hw3⟩
      have hbp := below_self hbn (below_new (wr.alloc (.cells #[.int .i64 y, .int .i64 f1, .int .i64 f2] 147)) (.cells #[.int .i64 f1, .int .i64 f2] 3))
      have e0 := cell_below (below_new (wr.alloc (.cells #[.int .i64 y, .int .i64 f1, .int .i64 f2] 147)) (.cells #[.int .i64 f1, .int .i64 f2] 3)) d0
      rw [hw3] at hbp e0
      clear hw3 d0 hbn c1 c2 c3
      rcases Nat.eq_zero_or_pos h with h0 | h0
      · have HX := Lib.hid (show parP c l = parP c (l.drop (k + 1)) by rw [HP.out, HD.out, parP, if_pos (by show hitF c [f1, f2] = 0; rw [HH.out]; exact h0)])
        subst h0
        clear hr2
        go_wp2
        go_roundw
        case rel => exact ⟨k + 1, by omega, by go_num, HX.out, hbp⟩
        case measure => simp [intOf]; omega
      · have hX := show (x, q, ok) = (y, (h : Int), true) by rw [← HV.out, HP.out, HD.out, parP, if_neg (by show ¬ hitF c [f1, f2] = 0; rw [HH.out]; omega)]; show (y, ((hitF c [f1, f2] : Nat) : Int), true) = _; rw [HH.out]
        simp only [Prod.mk.injEq] at hX
        obtain ⟨rfl, rfl, rfl⟩ := hX
        have hr3 := hr2 (by omega)
        obtain ⟨j, rfl⟩ : ∃ j : Nat, h = j + 1 := ⟨h - 1, by omega⟩
        obtain rfl : r = (j : Int) := by rw [hr3]; omega
        clear hr2 hr3 h0
        go_wp2
        go_ret3
        exact ⟨by rw [show ((j + 1 : Nat) : Int) = 1 + (j : Int) by omega]; rfl, below_self hb1 hbp⟩
    · have hX := show (x, q, ok) = (0, 0, false) by rw [← HV.out, HP.out, List.drop_eq_nil_of_le (by rw [HL.out]; omega)]; rfl
      simp only [Prod.mk.injEq] at hX
      obtain ⟨rfl, rfl, rfl⟩ := hX
      go_wp2
      go_ret3
      exact ⟨rfl, below_self hb1 hb⟩
set_option maxRecDepth 100000 in
set_option maxHeartbeats 1000000 in
theorem fmMark_any (c x : Int) (q ok : Bool) (hv : marF c = (x, q, ok)) (w : World) :
    Calls Tryz.prog 95 #[.int .i64 c] w fun e w' => e = .returned (.tuple #[.int .i64 x, .bool q, .bool ok]) ∧ Below w.heap.size w w' := by
  rw [marF_eq] at hv
  have HV := Lib.hid hv
  clear hv
  go_enter Tryz.func95, Tryz.ntmps95
  go_wp2_with fail
  refine (accents_any _).mono ?_
  rintro e w1 ⟨⟨A, rfl, hr⟩, hb1⟩
  have HL := Lib.hid (show accL.length = 8 from rfl)
  obtain ⟨l, hl⟩ : ∃ l, accL = l := ⟨_, rfl⟩
  rw [hl] at HV HL hr
  clear hl
  go_wp2
  go_loopw [11] (fun i wr => ∃ (k : Nat), k ≤ 8 ∧ i = .int .i64 k ∧ marP c l = marP c (l.drop k) ∧ Below w1.heap.size w1 wr) (fun i _ => 8 - (intOf i).toNat)
  case atStart => exact ⟨0, Nat.zero_le _, rfl, rfl, Below.refl _ _⟩
  case round =>
    obtain ⟨k, hk, rfl, hp, hb⟩ := hrel
    have HP := Lib.hid hp
    clear hp
    by_cases hlt : k < 8
    · obtain ⟨s, hsk⟩ : ∃ s, l[k]? = some s := ⟨_, List.getElem?_eq_getElem (by rw [HL.out]; exact hlt)⟩
      obtain ⟨ad, rfl, hab, c1, c2, c3⟩ := (hr.below hb).rg hsk
      have HD := Lib.hid (dropCons hsk)
      clear hsk
      obtain ⟨y, f1, f2⟩ := s
      simp only at c1 c2 c3
      have hbn := below_self hb (below_new wr (.cells #[.int .i64 y, .int .i64 f1, .int .i64 f2] 187))
      have d0 : (wr.alloc (.cells #[.int .i64 y, .int .i64 f1, .int .i64 f2] 187)).cell? ⟨wr.heap.size, 0, none⟩ = some (.int .i64 y) := by rw [World.cell?_alloc_at _ _ _ _ rfl]; rfl
      obtain ⟨h, hh⟩ : ∃ h, hitF c [f1, f2] = h := ⟨_, rfl⟩
      have hh2 : h ≤ 2 := by rw [← hh]; exact hit_two_le c f1 f2
      have HH := Lib.hid hh
      clear hh
      go_wp2_with fail
      refine (place_any (some ⟨wr.heap.size + 1, 0, none⟩) 2 2 [f1, f2] c h _ HH.out (rdNew2b wr _ f1 f2 _) (by omega)).mono ?_
      rintro e w3 ⟨⟨r, rfl, hr2⟩, hw3⟩
      have hbp := below_self hbn (below_new (wr.alloc (.cells #[.int .i64 y, .int .i64 f1, .int .i64 f2] 187)) (.cells #[.int .i64 f1, .int .i64 f2] 3))
      have e0 := cell_below (below_new (wr.alloc (.cells #[.int .i64 y, .int .i64 f1, .int .i64 f2] 187)) (.cells #[.int .i64 f1, .int .i64 f2] 3)) d0
      rw [hw3] at hbp e0
      clear hw3 d0 hbn c1 c2 c3
      rcases Nat.eq_zero_or_pos h with h0 | h0
      · have HX := Lib.hid (show marP c l = marP c (l.drop (k + 1)) by rw [HP.out, HD.out, marP, if_pos (by show hitF c [f1, f2] = 0; rw [HH.out]; exact h0)])
        subst h0
        clear hr2
        go_wp2
        go_roundw
        case rel => exact ⟨k + 1, by omega, by go_num, HX.out, hbp⟩
        case measure => simp [intOf]; omega
      · have hX := show (x, q, ok) = (y, decide (h = 2), true) by rw [← HV.out, HP.out, HD.out, marP, if_neg (by show ¬ hitF c [f1, f2] = 0; rw [HH.out]; omega)]; show (y, decide (hitF c [f1, f2] = 2), true) = _; rw [HH.out]
        simp only [Prod.mk.injEq] at hX
        obtain ⟨rfl, rfl, rfl⟩ := hX
        have hr3 := hr2 (by omega)
        have hcase : h = 1 ∨ h = 2 := by omega
        rcases hcase with rfl | rfl
        · obtain rfl : r = 0 := by rw [hr3]; rfl
          clear hr2 hr3 h0
          go_wp2
          go_ret3
          exact ⟨rfl, below_self hb1 hbp⟩
        · obtain rfl : r = 1 := by rw [hr3]; rfl
          clear hr2 hr3 h0
          go_wp2
          go_ret3
          exact ⟨rfl, below_self hb1 hbp⟩
    · have hX := show (x, q, ok) = (0, false, false) by rw [← HV.out, HP.out, List.drop_eq_nil_of_le (by rw [HL.out]; omega)]; rfl
      simp only [Prod.mk.injEq] at hX
      obtain ⟨rfl, rfl, rfl⟩ := hX
      go_wp2
      go_ret3
      exact ⟨rfl, below_self hb1 hb⟩
end Go.Proofs.YtcbiaeeifclieaaGreatDoor
/- The project's Unpile. -/
namespace Go.Proofs.YtcbiaeeifclieaaGreatDoor
open Go.RowKit
theorem bne_dec (x : Int) : (x != 0) = decide (x ≠ 0) := by by_cases h : x = 0 <;> simp [h]
set_option maxRecDepth 100000 in
set_option maxHeartbeats 1000000 in
theorem fmUnpile_any (c x : Int) (ok : Bool) (hv : unpF c = (x, ok)) (w : World) :
    Calls Tryz.prog 96 #[.int .i64 c] w fun e w' => e = .returned (.tuple #[.int .i64 x, .bool ok]) ∧ Below w.heap.size w w' := by
  have hv' : unpR c pilL = (x, ok) := hv
  have HV := Lib.hid hv'
  clear hv hv'
  go_enter Tryz.func96, Tryz.ntmps96
  go_wp2_with fail
  refine (piles_any _).mono ?_
  rintro e w1 ⟨⟨A, rfl, hr⟩, hb1⟩
  have HL := Lib.hid (show pilL.length = 6 from rfl)
  obtain ⟨l, hl⟩ : ∃ l, pilL = l := ⟨_, rfl⟩
  rw [hl] at HV HL hr
  clear hl
  go_wp2
  go_loopw [8] (fun i wr => ∃ (k : Nat), k ≤ 6 ∧ i = .int .i64 k ∧ unpR c l = unpR c (l.drop k) ∧ Below w1.heap.size w1 wr) (fun i _ => 6 - (intOf i).toNat)
  case atStart => exact ⟨0, Nat.zero_le _, rfl, rfl, Below.refl _ _⟩
  case round =>
    obtain ⟨k, hk, rfl, hp, hb⟩ := hrel
    have HP := Lib.hid hp
    clear hp
    by_cases hlt : k < 6
    · obtain ⟨s, hsk⟩ : ∃ s, l[k]? = some s := ⟨_, List.getElem?_eq_getElem (by rw [HL.out]; exact hlt)⟩
      obtain ⟨ad, rfl, hab, c1, c2⟩ := (hr.below hb).span hsk
      have HD := Lib.hid (dropCons hsk)
      clear hsk
      obtain ⟨y, z⟩ := s
      simp only at c1 c2
      have hbn := below_self hb (below_new wr (.cells #[.int .i64 y, .int .i64 z] 191))
      by_cases h1 : z = c
      · have hX := show (x, ok) = (y, true) by rw [← HV.out, HP.out, HD.out]; exact if_pos h1
        simp only [Prod.mk.injEq] at hX
        obtain ⟨rfl, rfl⟩ := hX
        subst h1
        go_wp2
        go_ret2
        exact ⟨rfl, below_self hb1 hbn⟩
      · have HF := Lib.hid (show unpR c l = unpR c (l.drop (k + 1)) by rw [HP.out, HD.out]; exact if_neg h1)
        have g1 : (z == c) = false := by simp [h1]
        clear h1
        go_wp2
        go_roundw
        case rel => exact ⟨k + 1, by omega, by go_num, HF.out, hbn⟩
        case measure => simp [intOf]; omega
    · have hX := show (x, ok) = (0, false) by rw [← HV.out, HP.out, List.drop_eq_nil_of_le (by rw [HL.out]; omega)]; rfl
      simp only [Prod.mk.injEq] at hX
      obtain ⟨rfl, rfl⟩ := hX
      go_wp2
      go_ret2
      exact ⟨rfl, below_self hb1 hb⟩
end Go.Proofs.YtcbiaeeifclieaaGreatDoor
/- unshape's small functions, walked: what a code is made of. -/
namespace Go.Proofs.YtcbiaeeifclieaaGreatDoor
open Go.RowKit

/-- A slice of the call's own, whole in its block. -/
def MadeL (w w' : World) (l : List Int) (v : Value) : Prop := ∃ g, w.heap.size ≤ g ∧ v = .slice (some ⟨g, 0, none⟩) l.length l.length ∧ w'.heap[g]? = some (.cells (intsZ l).toArray 3 (0, 0)) ∧ Below w.heap.size w w'
theorem MadeL.new_ {w w1 : World} (hb : Below w.heap.size w w1) (l : List Int) : MadeL w (w1.alloc (.cells (intsZ l).toArray 3)) l (.slice (some ⟨w1.heap.size, 0, none⟩) l.length l.length) :=
  ⟨_, hb.size, rfl, heap_alloc_new _ _, below_self hb (below_new _ _)⟩
theorem MadeL.of {w0 w w' : World} {l : List Int} {v : Value} (h : MadeL w w' l v) (hb : Below w0.heap.size w0 w) : MadeL w0 w' l v := by
  obtain ⟨g, h1, h2, h3, h4⟩ := h
  exact ⟨g, Nat.le_trans hb.size h1, h2, h3, below_self hb h4⟩
theorem MadeL.drewN {w w' : World} {l : List Int} {v : Value} (h : MadeL w w' l v) (k : Nat) : MadeL w (w'.drewN k) l v := by
  obtain ⟨g, h1, h2, h3, h4⟩ := h
  exact ⟨g, h1, h2, h3, below_drew h4 k⟩
theorem unItself_any (c : Int) (w : World) : Calls Tryz.prog 34 #[.int .i64 c] w fun e w' => ∃ v, e = .returned v ∧ MadeL w w' [c] v := by
  have H := Lib.hid (MadeL.new_ (Below.refl w.heap.size w) [c])
  go_enter Tryz.func34, Tryz.ntmps34
  go_wp2
  go_ret
  exact ⟨_, rfl, H.out⟩
theorem unLig_any (c : Int) (v : Bool) (hv : ligB c = v) (w : World) : Calls Tryz.prog 36 #[.int .i64 c] w fun e w' => e = .returned (.bool v) ∧ Below w.heap.size w w' := by
  obtain ⟨x, q, e0⟩ : ∃ x q, parF c = (x, q, v) := ⟨_, _, by rw [← hv]; rfl⟩
  have H := Lib.hid (fmParted_any c x q v e0 w)
  clear hv e0
  go_enter Tryz.func36, Tryz.ntmps36
  go_wp2_with fail
  refine H.out.mono ?_
  rintro e w1 ⟨rfl, hb⟩
  have HB := Lib.hid hb
  clear hb
  go_wp2
  go_ret
  exact ⟨rfl, HB.out⟩
/-- Whether a code is the form of a mark, or a pile. -/
def accB (c : Int) : Bool := (marF c).2.2 || (unpF c).2
theorem unAccent_any (c : Int) (v : Bool) (hv : accB c = v) (w : World) : Calls Tryz.prog 67 #[.int .i64 c] w fun e w' => e = .returned (.bool v) ∧ Below w.heap.size w w' := by
  obtain ⟨b2, h2⟩ : ∃ b, (marF c).2.2 = b := ⟨_, rfl⟩
  obtain ⟨b3, h3⟩ : ∃ b, (unpF c).2 = b := ⟨_, rfl⟩
  obtain ⟨x2, q2, e2⟩ : ∃ x q, marF c = (x, q, b2) := ⟨_, _, by rw [← h2]⟩
  obtain ⟨x3, e3⟩ : ∃ x, unpF c = (x, b3) := ⟨_, by rw [← h3]⟩
  obtain rfl : (b2 || b3) = v := by rw [← hv, accB, h2, h3]
  have H2 := Lib.hid (fun W => fmMark_any c x2 q2 b2 e2 W)
  have H3 := Lib.hid (fun W => fmUnpile_any c x3 b3 e3 W)
  clear hv h2 h3 e2 e3
  go_enter Tryz.func67, Tryz.ntmps67
  go_wp2_with fail
  refine (H2.out _).mono ?_
  rintro e w1 ⟨rfl, hb1⟩
  go_wp2_with fail
  refine (H3.out _).mono ?_
  rintro e w2 ⟨rfl, hb2⟩
  have HB := Lib.hid (below_self hb1 hb2)
  clear hb1 hb2
  cases b2 <;> cases b3
  all_goals
    go_wp2
    go_ret
    exact ⟨rfl, HB.out⟩
/-- What part answers. -/
def PartAns (w w' : World) (c : Int) (e : Ending) : Prop :=
  (partF c = none ∧ e = .returned (.tuple #[.slice none 0 0, .bool false]) ∧ Below w.heap.size w w') ∨ ∃ l v, partF c = some l ∧ e = .returned (.tuple #[v, .bool true]) ∧ MadeL w w' l v
set_option maxRecDepth 100000 in
set_option maxHeartbeats 1000000 in
theorem unPart_any (c : Int) (w : World) : Calls Tryz.prog 62 #[.int .i64 c] w fun e w' => PartAns w w' c e := by
  obtain ⟨b0, h0⟩ : ∃ b, (baseF c).2.2 = b := ⟨_, rfl⟩
  obtain ⟨b1, h1⟩ : ∃ b, (parF c).2.2 = b := ⟨_, rfl⟩
  obtain ⟨b2, h2⟩ : ∃ b, (marF c).2.2 = b := ⟨_, rfl⟩
  obtain ⟨b3, h3⟩ : ∃ b, (unpF c).2 = b := ⟨_, rfl⟩
  obtain ⟨x0, q0, e0⟩ : ∃ x q, baseF c = (x, q, b0) := ⟨_, _, by rw [← h0]⟩
  obtain ⟨x1, q1, e1⟩ : ∃ x q, parF c = (x, q, b1) := ⟨_, _, by rw [← h1]⟩
  obtain ⟨x2, q2, e2⟩ : ∃ x q, marF c = (x, q, b2) := ⟨_, _, by rw [← h2]⟩
  obtain ⟨x3, e3⟩ : ∃ x, unpF c = (x, b3) := ⟨_, by rw [← h3]⟩
  have H0 := Lib.hid (fun W => fmBase_any c x0 q0 b0 e0 W)
  have H1 := Lib.hid (fun W => fmParted_any c x1 q1 b1 e1 W)
  have H2 := Lib.hid (fun W => fmMark_any c x2 q2 b2 e2 W)
  have H3 := Lib.hid (fun W => fmUnpile_any c x3 b3 e3 W)
  have HP := Lib.hid (show partF c = if b0 = true then some [x0] else if b1 = true then some [1604, x1] else if b2 = true then some [x2] else if b3 = true then some [1617, x3] else none by unfold partF; rw [e0, e1, e2, e3])
  clear h0 h1 h2 h3 e0 e1 e2 e3
  go_enter Tryz.func62, Tryz.ntmps62
  go_wp2_with fail
  refine (H0.out _).mono ?_
  rintro e w1 ⟨rfl, hb1⟩
  cases b0 with
  | true =>
    have H := Lib.hid (MadeL.new_ hb1 [x0])
    clear hb1
    go_wp2_with fail
    refine bodyPost_ret (v := .tuple #[_, .bool true]) (by simp [results, go_sem] <;> rfl) rfl ?_
    exact .inr ⟨[x0], _, HP.out, rfl, H.out⟩
  | false =>
    go_wp2_with fail
    refine (H1.out _).mono ?_
    rintro e w2 ⟨rfl, hb2⟩
    replace hb2 := below_self hb1 hb2
    clear hb1
    cases b1 with
    | true =>
      have H := Lib.hid (MadeL.new_ hb2 [1604, x1])
      clear hb2
      go_wp2_with fail
      refine bodyPost_ret (v := .tuple #[_, .bool true]) (by simp [results, go_sem] <;> rfl) rfl ?_
      exact .inr ⟨[1604, x1], _, HP.out, rfl, H.out⟩
    | false =>
      go_wp2_with fail
      refine (H2.out _).mono ?_
      rintro e w3 ⟨rfl, hb3⟩
      replace hb3 := below_self hb2 hb3
      clear hb2
      cases b2 with
      | true =>
        have H := Lib.hid (MadeL.new_ hb3 [x2])
        clear hb3
        go_wp2_with fail
        refine bodyPost_ret (v := .tuple #[_, .bool true]) (by simp [results, go_sem] <;> rfl) rfl ?_
        exact .inr ⟨[x2], _, HP.out, rfl, H.out⟩
      | false =>
        go_wp2_with fail
        refine (H3.out _).mono ?_
        rintro e w4 ⟨rfl, hb4⟩
        replace hb4 := below_self hb3 hb4
        clear hb3
        cases b3 with
        | true =>
          have H := Lib.hid (MadeL.new_ hb4 [1617, x3])
          clear hb4
          go_wp2_with fail
          refine bodyPost_ret (v := .tuple #[_, .bool true]) (by simp [results, go_sem] <;> rfl) rfl ?_
          exact .inr ⟨[1617, x3], _, HP.out, rfl, H.out⟩
        | false =>
          have H := Lib.hid hb4
          clear hb4
          go_wp2_with fail
          refine bodyPost_ret (v := .tuple #[.slice none 0 0, .bool false]) (by simp [results, go_sem]) rfl ?_
          exact .inl ⟨HP.out, rfl, H.out⟩
end Go.Proofs.YtcbiaeeifclieaaGreatDoor
/- unshape's parts: the forms that were looked up, kept in a map. -/
namespace Go.Proofs.YtcbiaeeifclieaaGreatDoor
open Go.RowKit

def formV (g n : Nat) : Value := .agg #[.slice (some ⟨g, 0, none⟩) n n]
def formD (g n : Nat) : DataW Unit := .agg [.lit (.int .i64 g), .lit (.int .i64 n)]
/-- How what is known of a code reads: where it stands, and how long it is. -/
def formE : Value → Option (DataW Unit × List MemPlace)
  | .agg ⟨[.slice (some ⟨g, 0, none⟩) n c]⟩ => if c = n then some (formD g n, []) else none
  | .agg ⟨[.slice none 0 0]⟩ => some (.agg [], [])
  | _ => none
theorem formE_mk (g n : Nat) : formE (formV g n) = some (formD g n, []) := if_pos rfl
theorem formE_inv {v : Value} {z : DataW Unit × List MemPlace} (h : formE v = some z) : (∃ g n, v = formV g n ∧ z = (formD g n, [])) ∨ (v = .agg #[.slice none 0 0] ∧ z = (.agg [], [])) := by
  unfold formE at h
  split at h
  · rename_i g n c
    split at h
    · rename_i e
      subst e
      exact .inl ⟨g, c, rfl, (Option.some.inj h).symm⟩
    · cases h
  · exact .inr ⟨rfl, (Option.some.inj h).symm⟩
  · cases h
theorem formD_inj {g n g' n' : Nat} (h : formD g n = formD g' n') : g = g' ∧ n = n' := by
  unfold formD at h
  simp only [DataW.agg.injEq, List.cons.injEq, DataW.lit.injEq, Lit.int.injEq, true_and, and_true] at h
  omega
def knD : Option (Nat × Nat) → DataW Unit
  | some x => formD x.1 x.2
  | none => .agg []
def putK (M : Int → Option (Nat × Nat)) (c : Int) (x : Nat × Nat) : Int → Option (Nat × Nat) := fun j => if j = c then some x else M j
def KeyI (c : Int) : Prop := (Lit.int .i64 c).wf = true
/-- Block m is a map that knows these codes. -/
def KnAt (w : World) (m q : Nat) (M : Int → Option (Nat × Nat)) : Prop :=
  ∃ D : DataW Unit, w.ownsMap Tryz.prog 3 formE m q D ∧ ∀ c : Int, KeyI c → Maps.has D (.int .i64 c) = (M c).isSome ∧ D.atKey (.int .i64 c) (.agg []) = knD (M c)
section
variable {w w' : World} {m q : Nat} {M : Int → Option (Nat × Nat)}
theorem KnAt.lt (h : KnAt w m q M) : m < w.heap.size := by obtain ⟨D, h, _⟩ := h; exact h.lt
theorem KnAt.heap (h : KnAt w m q M) (he : w'.heap[m]? = w.heap[m]?) : KnAt w' m q M := by
  obtain ⟨D, ⟨es, clock, h1, h2, h3, h4⟩, h5⟩ := h
  exact ⟨D, ⟨es, clock, he.trans h1, h2, h3, h4⟩, h5⟩
theorem KnAt.kept {S : List Nat} (h : KnAt w m q M) (hk : Kept w w' S) (hs : m ∉ S) : KnAt w' m q M := h.heap (hk.block m h.lt hs)
theorem KnAt.made (w : World) : KnAt (w.alloc (.map #[] 0)) w.heap.size 0 (fun _ => none) := ⟨.map [], World.ownsMap_made w Tryz.prog 3 formE, fun _ _ => ⟨rfl, rfl⟩⟩
theorem knKey : Maps.Keyed Tryz.prog 3 := Maps.int_keyed Tryz.underlying3
theorem knType : Tryz.prog.underlying 123 = some (.map 3 125) := Tryz.underlying123
theorem knZero (w : World) : (zeroValue 125).run Tryz.prog w = .ok (.agg #[.slice none 0 0]) w := Tryz.zeroValue125 w
theorem KnAt.look_some (h : KnAt w m q M) {c : Int} (hc : KeyI c) {g n : Nat} (hM : M c = some (g, n)) : (Instr.lookup 123 (.map (some m)) (.int .i64 c) true).run Tryz.prog w = .ok (.tuple #[formV g n, .bool true]) w := by
  obtain ⟨D, h1, h2⟩ := h
  obtain ⟨v, ps, hrun, hv⟩ := h1.look_ok knKey knType (knZero w) (zd := .agg []) (zp := []) rfl (Maps.keyOf_int_mk Tryz.underlying3 hc)
  rw [(h2 c hc).2, hM] at hv
  rw [(h2 c hc).1, hM] at hrun
  rcases formE_inv hv with ⟨g', n', rfl, hz⟩ | ⟨_, hz⟩
  · obtain ⟨rfl, rfl⟩ := formD_inj (congrArg Prod.fst hz)
    exact hrun
  · have := congrArg Prod.fst hz
    simp [knD, formD] at this
theorem KnAt.look_none (h : KnAt w m q M) {c : Int} (hc : KeyI c) (hM : M c = none) : (Instr.lookup 123 (.map (some m)) (.int .i64 c) true).run Tryz.prog w = .ok (.tuple #[.agg #[.slice none 0 0], .bool false]) w := by
  obtain ⟨D, h1, h2⟩ := h
  obtain ⟨v, ps, hrun, hv⟩ := h1.look_ok knKey knType (knZero w) (zd := .agg []) (zp := []) rfl (Maps.keyOf_int_mk Tryz.underlying3 hc)
  rw [(h2 c hc).2, hM] at hv
  rw [(h2 c hc).1, hM] at hrun
  rcases formE_inv hv with ⟨g', n', rfl, hz⟩ | ⟨rfl, _⟩
  · have := congrArg Prod.fst hz
    simp [knD, formD] at this
  · exact hrun
set_option maxRecDepth 100000 in
theorem KnAt.store (h : KnAt w m q M) {c : Int} (hc : KeyI c) (hq : q < maxLen) (g n : Nat) : ∃ w', (Instr.mapUpdate 123 (.map (some m)) (.int .i64 c) (formV g n)).run Tryz.prog w = .ok () w' ∧ KnAt w' m (q + 1) (putK M c (g, n)) ∧ w.mapTurned w' m := by
  obtain ⟨D, h1, h2⟩ := h
  have hl : WideAt.IsKeyLit (.int .i64 c) := trivial
  obtain ⟨w', hrun, h3, h4⟩ := h1.store knKey knType hq (Maps.keyOf_int_mk Tryz.underlying3 hc) (formE_mk g n)
  refine ⟨w', hrun, ⟨_, h3, fun j hj => ?_⟩, h4⟩
  unfold putK
  by_cases e : j = c
  · subst e
    rw [if_pos rfl]
    exact ⟨Maps.has_put_same h1.isMap hl _, Maps.atKey_put_same h1.isMap hl _ _⟩
  · rw [if_neg e]
    have hne : (Lit.int .i64 j) ≠ .int .i64 c := fun e9 => e (Lit.int.inj e9).2
    exact ⟨(Maps.has_put_other hne _).trans (h2 j hj).1, (Maps.atKey_put_other hne _ _).trans (h2 j hj).2⟩
theorem kn_turned (h : w.mapTurned w' m) : Kept w w' [m] := Kept.of_grown h.grown (List.mem_singleton_self _)
end
/-- What parts' closure keeps: the box of the map, the map, and what each form is made of, in blocks from lo on. -/
structure PkAt (w : World) (s m q lo : Nat) (M : Int → Option (Nat × Nat)) : Prop where
  box : w.heap[s]? = some (.cells #[.map (some m)] 123 (0, 0))
  kn : KnAt w m q M
  row : ∀ c x, M c = some x → ∃ l, partF c = some l ∧ lo ≤ x.1 ∧ x.2 = l.length ∧ w.heap[x.1]? = some (.cells (intsZ l).toArray 3 (0, 0))
theorem PkAt.kept {w w' : World} {s m q lo : Nat} {M : Int → Option (Nat × Nat)} {S : List Nat} (h : PkAt w s m q lo M) (hk : Kept w w' S) (hs : ∀ g ∈ S, g < lo ∧ g ≠ s ∧ g ≠ m) : PkAt w' s m q lo M :=
  ⟨hk.heap h.box (fun hm => (hs s hm).2.1 rfl), h.kn.kept hk (fun hm => (hs m hm).2.2 rfl), fun c x hx => by
    obtain ⟨l, h1, h2, h3, h4⟩ := h.row c x hx
    exact ⟨l, h1, h2, h3, hk.heap h4 (fun hm => by have := (hs _ hm).1; omega)⟩⟩
theorem PkAt.low {w w' : World} {s m q lo : Nat} {M : Int → Option (Nat × Nat)} (h : PkAt w s m q lo M) (hb : Below w.heap.size w w') : PkAt w' s m q lo M := h.kept (Kept.of_below hb []) (by simp)
theorem PkAt.more {w : World} {s m q lo : Nat} {M : Int → Option (Nat × Nat)} (h : PkAt w s m q lo M) {q' : Nat} (hq : q ≤ q') : PkAt w s m q' lo M := by
  obtain ⟨hb, ⟨D, h1, h2⟩, hr⟩ := h
  exact ⟨hb, ⟨D, h1.mono hq, h2⟩, hr⟩
theorem PkAt.put {w1 w' : World} {s m q lo : Nat} {M : Int → Option (Nat × Nat)} (h : PkAt w1 s m q lo M) {c : Int} {g : Nat} {l : List Int} (hk : KnAt w' m (q + 1) (putK M c (g, l.length))) (ht : w1.mapTurned w' m) (hl : partF c = some l) (hg : lo ≤ g)
    (hh : w1.heap[g]? = some (.cells (intsZ l).toArray 3 (0, 0))) (hm : m < lo) (hsm : s ≠ m) : PkAt w' s m (q + 1) lo (putK M c (g, l.length)) := by
  have hK := kn_turned ht
  refine ⟨hK.heap h.box (by simpa using hsm), hk, fun d x hx => ?_⟩
  unfold putK at hx
  split at hx
  · rename_i e
    subst e
    obtain rfl := Option.some.inj hx
    exact ⟨l, hl, hg, rfl, hK.heap hh (by simp; omega)⟩
  · obtain ⟨l', h1, h2, h3, h4⟩ := h.row d x hx
    exact ⟨l', h1, h2, h3, hK.heap h4 (by simp; omega)⟩
end Go.Proofs.YtcbiaeeifclieaaGreatDoor
/- unshape's parts and becomes, walked: the closures that say what becomes of a code. -/
namespace Go.Proofs.YtcbiaeeifclieaaGreatDoor
open Go.RowKit

/-- A slice that reads as these numbers. -/
def GotL (w' : World) (l : List Int) (e : Ending) : Prop := ∃ A k, e = .returned (.slice A l.length k) ∧ Rd w' 1 A l.length (l.map (Value.int .i64))
theorem GotL.blk {w' : World} {l : List Int} {g : Nat} (h : w'.heap[g]? = some (.cells (intsZ l).toArray 3 (0, 0))) : GotL w' l (.returned (.slice (some ⟨g, 0, none⟩) l.length l.length)) := by
  refine ⟨_, _, rfl, by simp, fun _ => ⟨_, rfl, hp_lt h, fun j u hu => ?_⟩⟩
  rw [addNew]
  exact hp_cell h (by simpa [intsZ] using hu)
theorem MadeL.got {w w' : World} {l : List Int} {v : Value} (h : MadeL w w' l v) : GotL w' l (.returned v) := by
  obtain ⟨g, _, rfl, h3, _⟩ := h
  exact GotL.blk h3
theorem unParts_any (w : World) : Calls Tryz.prog 33 #[] w fun e w' => e = .returned (.func (.func 61) #[] #[.pointer (some ⟨w.heap.size + 1, 0, none⟩)]) ∧ (∀ lo, PkAt w' (w.heap.size + 1) w.heap.size 0 lo (fun _ => none)) ∧ Below w.heap.size w w' := by
  have hmk : ∀ w, (Instr.makeMap 123 none).run Tryz.prog w = .ok (.map (some w.heap.size)) (w.alloc (.map #[] 0)) := fun _ => rfl
  have hk : KnAt ((w.alloc (.map #[] 0)).alloc (.cells #[.map (some w.heap.size)] 123)) w.heap.size 0 (fun _ => none) := (KnAt.made w).heap (heap_alloc_old _ _ (by simp))
  have hx : ((w.alloc (.map #[] 0)).alloc (.cells #[.map (some w.heap.size)] 123)).heap[w.heap.size + 1]? = some (.cells #[.map (some w.heap.size)] 123 (0, 0)) := by
    have := heap_alloc_new (w.alloc (.map #[] 0)) (.cells #[.map (some w.heap.size)] 123)
    rwa [World.size_alloc] at this
  have HP := Lib.hid (show ∀ lo, PkAt ((w.alloc (.map #[] 0)).alloc (.cells #[.map (some w.heap.size)] 123)) (w.heap.size + 1) w.heap.size 0 lo (fun _ => none) from fun lo => ⟨hx, hk, fun c x h => by cases h⟩)
  have HB := Lib.hid (below_self (below_new w (.map #[] 0)) (below_new _ (.cells #[.map (some w.heap.size)] 123)))
  clear hk hx
  go_enter Tryz.func33, Tryz.ntmps33
  go_wp2
  go_ret
  exact ⟨rfl, HP.out, HB.out⟩
set_option maxRecDepth 100000 in
set_option maxHeartbeats 2000000 in
theorem unPart1_any (c : Int) (hc : KeyI c) (s m q lo : Nat) (M : Int → Option (Nat × Nat)) (w : World) (hP : PkAt w s m q lo M) (hq : q < maxLen) (hlo : lo ≤ w.heap.size) (hm : m < lo) (hsm : s ≠ m) :
    Calls Tryz.prog 61 #[.int .i64 c, .pointer (some ⟨s, 0, none⟩)] w fun e w' => GotL w' (backL c) e ∧ (∃ M', PkAt w' s m (q + 1) lo M') ∧ Kept w w' [m] := by
  have c0 := hp_cell (j := 0) hP.box rfl
  cases hM : M c with
  | some x =>
    obtain ⟨g, n⟩ := x
    obtain ⟨l, h1, h2, h3, h4⟩ := hP.row c _ hM
    simp only at h2 h3 h4
    subst h3
    have hlk := hP.kn.look_some hc hM
    have hbz := below_new w (.cells #[.slice (some ⟨g, 0, none⟩) l.length l.length] 125)
    have HG := Lib.hid (show GotL (w.alloc (.cells #[.slice (some ⟨g, 0, none⟩) l.length l.length] 125)) (backL c) (.returned (.slice (some ⟨g, 0, none⟩) l.length l.length)) by
      have : backL c = l := by unfold backL; rw [h1]; rfl
      rw [this]; exact GotL.blk ((hbz.block _ (hp_lt h4)).trans h4))
    have HP := Lib.hid ((hP.low hbz).more (Nat.le_succ q))
    have HZ := Lib.hid (Kept.of_below hbz [m])
    clear hP h1 h2 h4 hM hbz
    unfold formV at hlk
    go_enter Tryz.func61, Tryz.ntmps61
    go_wp2
    go_ret
    exact ⟨HG.out, ⟨_, HP.out⟩, HZ.out⟩
  | none =>
    have hlk := hP.kn.look_none hc hM
    have HPa := Lib.hid (fun W => unPart_any c W)
    have HIt := Lib.hid (fun W => unItself_any c W)
    have hbz := below_new w (.cells #[.slice none 0 0] 125)
    have HP := Lib.hid (hP.low hbz)
    have HZ := Lib.hid hbz
    have z0 := cell_below hbz c0
    clear hP hbz
    go_enter Tryz.func61, Tryz.ntmps61
    go_wp2_with fail
    refine (HPa.out _).mono ?_
    intro e w1 hA
    rcases hA with ⟨h1, rfl, hb1⟩ | ⟨l, v, h1, rfl, hmade⟩
    · have HB1 := Lib.hid hb1
      have HL := Lib.hid (show backL c = [c] by unfold backL; rw [h1]; rfl)
      clear hb1 h1
      go_wp2_with fail
      refine (HIt.out _).mono ?_
      rintro e w2 ⟨v, rfl, hmade⟩
      have HM := Lib.hid hmade
      obtain ⟨g, _, rfl, _⟩ := hmade
      go_wp2
      go_ret
      refine ⟨?_, ⟨_, (HP.out.low (below_self HB1.out (by obtain ⟨_, _, _, _, h⟩ := HM.out; exact h))).more (Nat.le_succ q)⟩, Kept.of_below (below_self HZ.out (below_self HB1.out (by obtain ⟨_, _, _, _, h⟩ := HM.out; exact h))) _⟩
      rw [HL.out]
      exact HM.out.got
    · have HL := Lib.hid (show backL c = l by unfold backL; rw [h1]; rfl)
      have HPL := Lib.hid h1
      obtain ⟨g, hg, rfl, hh, hb1⟩ := hmade
      have hP1 := HP.out.low hb1
      obtain ⟨w3, hst, hK3, hT3⟩ := hP1.kn.store hc hq g l.length
      have HP3 := Lib.hid (hP1.put hK3 hT3 HPL.out (Nat.le_trans (Nat.le_trans hlo HZ.out.size) hg) hh hm hsm)
      have HK := Lib.hid ((Kept.of_below (below_self HZ.out hb1) [m]).trans (kn_turned hT3))
      have HH := Lib.hid ((kn_turned hT3).heap hh (by have := HZ.out.size; simp; omega))
      have d0 := cell_below hb1 z0
      unfold formV at hst
      clear hP1 hK3 hT3 hh h1 hlk hM hb1
      go_wp2_with fail
      go_ret
      refine ⟨?_, ⟨_, HP3.out⟩, HK.out⟩
      rw [HL.out]
      exact GotL.blk HH.out
end Go.Proofs.YtcbiaeeifclieaaGreatDoor
/- The project's uncut and Back. -/
namespace Go.Proofs.YtcbiaeeifclieaaGreatDoor
open Go.RowKit
set_option maxRecDepth 100000 in
theorem tlUncut_any (a : Int) (w : World) : Calls Tryz.prog 64 #[.int .i64 a] w fun e w' => e = .returned (.tuple #[.int .i64 (uncutF a).1, .bool (uncutF a).2]) ∧ Below w.heap.size w w' := by
  obtain ⟨x, q, k, h1⟩ : ∃ x q k, baseF a = (x, q, k) := ⟨_, _, _, rfl⟩
  obtain ⟨v, hv⟩ : ∃ v, seenB x = v := ⟨_, rfl⟩
  have HB := Lib.hid (fun w => fmBase_any a x q k h1 w)
  have HS := Lib.hid (fun w => tlSeen_of x v hv w)
  have HU : Hid (uncutF a = if v = true ∧ (q = 3 ∨ q = 4) then (x, true) else (0, false)) := Lib.hid (by unfold uncutF; rw [h1, hv])
  clear h1 hv
  by_cases h3 : q = 3
  · subst h3
    cases v
    all_goals
      rw [HU.out]
      go_enter Tryz.func64, Tryz.ntmps64
      go_wp2_with (first
        | (go_at_call 94; with_reducible refine (HB.out _).mono ?_; rintro e w1 ⟨rfl, hb1⟩)
        | (go_at_call 98; with_reducible refine (HS.out _).mono ?_; rintro e w2 ⟨rfl, rfl⟩)
        | fail)
      go_ret2
      exact ⟨rfl, hb1⟩
  · by_cases h4 : q = 4
    · subst h4
      cases v
      all_goals
        rw [HU.out]
        go_enter Tryz.func64, Tryz.ntmps64
        go_wp2_with (first
          | (go_at_call 94; with_reducible refine (HB.out _).mono ?_; rintro e w1 ⟨rfl, hb1⟩)
          | (go_at_call 98; with_reducible refine (HS.out _).mono ?_; rintro e w2 ⟨rfl, rfl⟩)
          | fail)
        go_ret2
        exact ⟨rfl, hb1⟩
    · have HU2 := Lib.hid (show uncutF a = (0, false) by rw [HU.out, if_neg]; rintro ⟨_, h | h⟩; exact h3 h; exact h4 h)
      have g3 : (q != 3) = true := by simp [h3]
      have g4 : (q != 4) = true := by simp [h4]
      clear HU h3 h4
      cases v
      all_goals
        rw [HU2.out]
        go_enter Tryz.func64, Tryz.ntmps64
        go_wp2_with (first
          | (go_at_call 94; with_reducible refine (HB.out _).mono ?_; rintro e w1 ⟨rfl, hb1⟩)
          | (go_at_call 98; with_reducible refine (HS.out _).mono ?_; rintro e w2 ⟨rfl, rfl⟩)
          | fail)
        go_ret2
        exact ⟨rfl, hb1⟩
theorem backF_eq (a b : Int) (s y : Bool) {p q r t : Bool} (hp : decide (b = 65139) = p) (hq : decide (b = 65152) = q) (hr : decide (a = 65263) = r) (ht : decide (a = 65264) = t) :
    backF a b s y = if (s && p) = true then uncutF a else if (y && (q && (r || t))) = true then (1574, true) else (0, false) := by
  unfold backF
  simp only [Bool.and_eq_true, Bool.or_eq_true, ← hp, ← hq, ← hr, ← ht, decide_eq_true_eq]
theorem eq_dec (a b : Int) : (a == b) = decide (a = b) := by by_cases h : a = b <;> simp [h]
set_option maxRecDepth 100000 in
set_option maxHeartbeats 1000000 in
theorem tlBack_any (a b : Int) (s y : Bool) (w : World) : Calls Tryz.prog 37 #[.int .i64 a, .int .i64 b, .bool s, .bool y] w fun e w' => e = .returned (.tuple #[.int .i64 (backF a b s y).1, .bool (backF a b s y).2]) ∧ Below w.heap.size w w' := by
  obtain ⟨p, hp⟩ : ∃ p, decide (b = 65139) = p := ⟨_, rfl⟩
  obtain ⟨q, hq⟩ : ∃ p, decide (b = 65152) = p := ⟨_, rfl⟩
  obtain ⟨r, hr⟩ : ∃ p, decide (a = 65263) = p := ⟨_, rfl⟩
  obtain ⟨t, ht⟩ : ∃ p, decide (a = 65264) = p := ⟨_, rfl⟩
  have HE := Lib.hid (backF_eq a b s y hp hq hr ht)
  have gp : (b == 65139) = p := by rw [eq_dec, hp]
  have gq : (b == 65152) = q := by rw [eq_dec, hq]
  have gr : (a == 65263) = r := by rw [eq_dec, hr]
  have gt : (a == 65264) = t := by rw [eq_dec, ht]
  have HU := Lib.hid (fun w => tlUncut_any a w)
  obtain ⟨u, o, hu⟩ : ∃ u o, uncutF a = (u, o) := ⟨_, _, rfl⟩
  rw [hu] at HU HE
  clear hp hq hr ht hu
  cases s <;> cases p <;> cases y <;> cases q <;> cases r <;> cases t
  all_goals
    rw [HE.out]
    go_enter Tryz.func37, Tryz.ntmps37
    go_wp2_with fail
    first
      | (refine (HU.out _).mono ?_
         rintro e w1 ⟨rfl, hb1⟩
         go_wp2_with fail
         go_ret2
         exact ⟨rfl, hb1⟩)
      | (go_ret2
         exact ⟨rfl, Below.refl _ _⟩)
end Go.Proofs.YtcbiaeeifclieaaGreatDoor
/- The given ranges: what BidiRanges and JoinRanges give. -/
namespace Go.Proofs.YtcbiaeeifclieaaGreatDoor
open Go.RowKit

theorem rangeBuilt (a b v : Int) : Tryz.prog.built 118 [(0, .int .i64 a), (1, .int .i64 b), (2, .int .i64 v)] = some #[.int .i64 a, .int .i64 b, .int .i64 v] := by kernel_rfl
theorem rangeSlice : SliceOf Tryz.prog 69 118 3 24 := .mk_ (z := .agg #[.int .i64 0, .int .i64 0, .int .i64 0]) Tryz.underlying69 (by kernel_rfl) rfl
def chkP : List (Nat × Operand) → Nat → Nat → Bool
  | [], i, n => i == n
  | p :: r, i, n => (match p with
      | (k, .tmp t) => k == i && t == i + 1
      | _ => false) && chkP r (i + 1) n
theorem chkP_is : ∀ {ps : List (Nat × Operand)} {i n : Nat}, chkP ps i n = true → i + ps.length = n ∧ ps = (List.range' i ps.length).map fun k => (k, Operand.tmp (k + 1))
  | [], i, n, h => by
    simp [chkP] at h
    exact ⟨by simp [h], rfl⟩
  | p :: r, i, n, h => by
    unfold chkP at h
    rw [Bool.and_eq_true] at h
    obtain ⟨h1, h2⟩ := chkP_is h.2
    have hp : p = (i, .tmp (i + 1)) := by
      have h3 := h.1
      split at h3
      · simp only [Bool.and_eq_true, beq_iff_eq] at h3
        obtain ⟨rfl, rfl⟩ := h3
        rfl
      · cases h3
    refine ⟨by simp only [List.length_cons]; omega, ?_⟩
    rw [List.length_cons, List.range'_succ, List.map_cons, ← h2, hp]
/-- The last two operations: the slice of all, into slot 0. -/
def chkE (S : TypeId) (N : Nat) : List Oper → Bool
  | [oB, oA] => (match oB with
      | ⟨some d, .buildSlice t n parts, _, _, _, none⟩ => d == N + 1 && t == S && n == N && chkP parts.toList 0 N
      | _ => false) && (match oA with
      | ⟨some d, .assign (.tmp k), _, _, _, none⟩ => d == 0 && k == N + 1
      | _ => false)
  | _ => false
theorem chkE_is {S : TypeId} {N : Nat} {l : List Oper} (h : chkE S N l = true) : ∃ (oB oA : Oper) (parts : Array (Nat × Operand)), l = [oB, oA] ∧ oB.guard = none ∧ oB.dst = some (N + 1) ∧ oB.op = .buildSlice S N parts ∧ parts.toList = ((List.range N).map fun k => (k, Operand.tmp (k + 1))) ∧
    oA.guard = none ∧ oA.dst = some 0 ∧ oA.op = .assign (.tmp (N + 1)) := by
  unfold chkE at h
  split at h
  · rename_i oB oA
    rw [Bool.and_eq_true] at h
    obtain ⟨h1, h2⟩ := h
    split at h1
    · rename_i d t n parts _ _ _
      simp only [Bool.and_eq_true, beq_iff_eq] at h1
      obtain ⟨⟨⟨rfl, rfl⟩, rfl⟩, hp⟩ := h1
      split at h2
      · simp only [Bool.and_eq_true, beq_iff_eq] at h2
        obtain ⟨rfl, rfl⟩ := h2
        obtain ⟨p1, p2⟩ := chkP_is hp
        refine ⟨_, _, parts, rfl, rfl, rfl, rfl, ?_, rfl, rfl, rfl⟩
        rw [Nat.zero_add] at p1
        rw [p1] at p2
        rw [p2, List.range_eq_range']
      · cases h2
    · cases h1
  · cases h
theorem wpList_lit2 {ops : Array Oper} {Q : Exit → Act → World → Prop} {w : World} {T S : TypeId} {lst : List Oper} (N : Nat) (hT : ∀ a b v : Int, Tryz.prog.built T [(0, .int .i64 a), (1, .int .i64 b), (2, .int .i64 v)] = some #[.int .i64 a, .int .i64 b, .int .i64 v])
    (hS : SliceOf Tryz.prog S T 3 24) (l : List Rg) {a : Act} (he : chkE S N (lst.drop N) = true) (hc : chkB T (lst.take N) 1 l = true) (hl : l.length = N) (h0 : 0 < N) (hN : N ≤ 100000) (hsz : a.tmps.size = N + 2)
    (h : ∀ a' : Act, a'.defers = a.defers → a'.tmps[0]? = some (.slice (some ⟨w.heap.size, 0, none⟩) N N) → Q .normal a' (w.alloc (.cells (cellsG l).toArray T))) :
    wpList Tryz.prog ops Q lst a w := by
  subst hl
  obtain ⟨oB, oA, parts, hdrop, hgB, hdB, hoB, hp, hgA, hdA, hoA⟩ := chkE_is he
  rw [← List.take_append_drop l.length lst, hdrop]
  exact wpList_lit hT hS l _ oB oA parts a hc h0 hN hsz hgB hdB hoB hp hgA hdA hoA h

set_option maxRecDepth 1000000 in
set_option maxHeartbeats 4000000 in
theorem bidiRanges_any (w : World) : Calls Tryz.prog 26 #[] w fun e w' => e = .returned (.slice (some ⟨w.heap.size, 0, none⟩) 230 230) ∧ w' = w.alloc (.cells (cellsG bidiL).toArray 118) := by
  refine calls_of_wp Tryz.func26 rfl ?_
  apply wp_seq_k
  intro K hK
  apply wp_region_lit
  refine Great.wpList_readTo rfl (some 0) rfl (.slice none 0 0) (by rw [BigFrame.run_assign _ rfl]; rfl) ?_
  refine wpList_nil (hK _ _ ?_)
  apply wp_seq_k
  intro K2 hK2
  apply wp_region_lit
  refine wpList_lit2 230 rangeBuilt rangeSlice bidiL (by kernel_rfl) (by kernel_rfl) rfl (by decide) (by decide) (by simp [Act.put, Tryz.ntmps26]) ?_
  intro a' hd h0
  refine hK2 _ _ ?_
  apply wp_ret
  refine bodyPost_ret (results_tmp rfl _ _ _) hd ⟨?_, rfl⟩
  rw [Array.getD_eq_getD_getElem?, h0]
  rfl
set_option maxRecDepth 1000000 in
set_option maxHeartbeats 4000000 in
theorem joinRanges_any (w : World) : Calls Tryz.prog 27 #[] w fun e w' => e = .returned (.slice (some ⟨w.heap.size, 0, none⟩) 68 68) ∧ w' = w.alloc (.cells (cellsG joinL).toArray 118) := by
  refine calls_of_wp Tryz.func27 rfl ?_
  apply wp_seq_k
  intro K hK
  apply wp_region_lit
  refine Great.wpList_readTo rfl (some 0) rfl (.slice none 0 0) (by rw [BigFrame.run_assign _ rfl]; rfl) ?_
  refine wpList_nil (hK _ _ ?_)
  apply wp_seq_k
  intro K2 hK2
  apply wp_region_lit
  refine wpList_lit2 68 rangeBuilt rangeSlice joinL (by kernel_rfl) (by kernel_rfl) rfl (by decide) (by decide) (by simp [Act.put, Tryz.ntmps27]) ?_
  intro a' hd h0
  refine hK2 _ _ ?_
  apply wp_ret
  refine bodyPost_ret (results_tmp rfl _ _ _) hd ⟨?_, rfl⟩
  rw [Array.getD_eq_getD_getElem?, h0]
  rfl
end Go.Proofs.YtcbiaeeifclieaaGreatDoor
