/- Texts of one claim, one behind the other. -/
import Derived.Great.FillDense
import Derived.Great.BuildSlice
import Derived.Great.Walk
import Derived.KernelRfl
import Derived.BigRegion
import Derived.Test.YtdgomaoikeffhaaGreatMgAp1
/- Long slice literals of ranges (structs of three whole numbers), without a step for each element. -/
namespace Go.Proofs.YtdgomaoikeffhaaGreat
open Go.RowKit

/-- Whether each operation builds its range, into slots from i on. -/
def chkB (T : TypeId) : List Oper → Nat → List Rg → Bool
  | [], _, [] => true
  | o :: os, i, r :: l => (match o with
      | ⟨some d, .build t ⟨[(0, .const (.int .i64 a)), (1, .const (.int .i64 b)), (2, .const (.int .i64 v))]⟩, _, _, _, none⟩ => d == i && t == T && a == r.1 && b == r.2.1 && v == r.2.2
      | _ => false) && chkB T os (i + 1) l
  | _, _, _ => false
theorem chkB_cons {T : TypeId} {o : Oper} {os : List Oper} {i : Nat} {r : Rg} {l : List Rg} (h : chkB T (o :: os) i (r :: l) = true) :
    (o.dst = some i ∧ o.guard = none ∧ o.op = .build T #[(0, .const (.int .i64 r.1)), (1, .const (.int .i64 r.2.1)), (2, .const (.int .i64 r.2.2))]) ∧ chkB T os (i + 1) l = true := by
  unfold chkB at h
  rw [Bool.and_eq_true] at h
  refine ⟨?_, h.2⟩
  have h1 := h.1
  split at h1
  · simp only [Bool.and_eq_true, beq_iff_eq] at h1
    obtain ⟨⟨⟨⟨rfl, rfl⟩, rfl⟩, rfl⟩, rfl⟩ := h1
    exact ⟨rfl, rfl, rfl⟩
  · cases h1
def aggG (r : Rg) : Value := .agg (encG r).toArray
section
variable {P : Program} {ops : Array Oper} {Q : Exit → Act → World → Prop} {w : World} {T : TypeId}
theorem put_size (a : Act) (i : Nat) (v : Value) : (a.put (some i) v).tmps.size = a.tmps.size := by simp [Act.put]
theorem put_same (a : Act) (i : Nat) (v : Value) (h : i < a.tmps.size) : (a.put (some i) v).tmps[i]? = some v := by simp [Act.put, h]
theorem put_ne (a : Act) (i j : Nat) (v : Value) (h : j ≠ i) : (a.put (some i) v).tmps[j]? = a.tmps[j]? := by
  simp only [Act.put]
  rw [Array.getElem?_setIfInBounds_ne (by omega)]
theorem wpList_blds (hT : ∀ a b v : Int, P.built T [(0, .int .i64 a), (1, .int .i64 b), (2, .int .i64 v)] = some #[.int .i64 a, .int .i64 b, .int .i64 v]) :
    ∀ (os : List Oper) (l : List Rg) (s : Nat) (a : Act) (rest : List Oper), chkB T os s l = true → s + l.length ≤ a.tmps.size →
    (∀ a' : Act, a'.defers = a.defers → a'.tmps.size = a.tmps.size → (∀ (k : Nat) (r : Rg), l[k]? = some r → a'.tmps[s + k]? = some (aggG r)) → (∀ j, j < s → a'.tmps[j]? = a.tmps[j]?) → wpList P ops Q rest a' w) → wpList P ops Q (os ++ rest) a w
  | [], [], s, a, rest, _, _, h => h a rfl rfl (fun k r hk => by simp at hk) (fun _ _ => rfl)
  | [], _ :: _, _, _, _, hc, _, _ => by simp [chkB] at hc
  | _ :: _, [], _, _, _, hc, _, _ => by simp [chkB] at hc
  | o :: os, r :: l, s, a, rest, hc, hs, h => by
    obtain ⟨⟨hd, hg, ho⟩, hc'⟩ := chkB_cons hc
    simp only [List.length_cons] at hs
    refine wpList_buildTo hg T _ ho (some s) hd #[.int .i64 r.1, .int .i64 r.2.1, .int .i64 r.2.2] ?_ ?_
    · rw [Array.toList_map]
      exact hT r.1 r.2.1 r.2.2
    · refine wpList_blds hT os l (s + 1) _ rest hc' (by rw [put_size]; omega) fun a' hd' hs' hv hj => ?_
      refine h a' hd' (by rw [hs', put_size]) (fun k r' hk => ?_) (fun j hjs => ?_)
      · cases k with
        | zero =>
          simp at hk
          subst hk
          rw [Nat.add_zero, hj s (by omega), put_same _ _ _ (by omega)]
          rfl
        | succ k =>
          have := hv k r' (by simpa using hk)
          rwa [show s + (k + 1) = s + 1 + k by omega]
      · rw [hj j (by omega), put_ne _ _ _ _ (by omega)]
/-- The literal: N builds from slot 1 on, the slice into slot N + 1, that into slot 0. -/
theorem wpList_lit {S : TypeId} (hT : ∀ a b v : Int, P.built T [(0, .int .i64 a), (1, .int .i64 b), (2, .int .i64 v)] = some #[.int .i64 a, .int .i64 b, .int .i64 v])
    (hS : SliceOf P S T 3 24) (l : List Rg) (os : List Oper) (oB oA : Oper) (parts : Array (Nat × Operand)) (a : Act) (hc : chkB T os 1 l = true) (h0 : 0 < l.length) (hN : l.length ≤ 100000) (hsz : a.tmps.size = l.length + 2)
    (hgB : oB.guard = none) (hdB : oB.dst = some (l.length + 1)) (hoB : oB.op = .buildSlice S l.length parts) (hp : parts.toList = (List.range l.length).map fun k => (k, Operand.tmp (k + 1)))
    (hgA : oA.guard = none) (hdA : oA.dst = some 0) (hoA : oA.op = .assign (.tmp (l.length + 1)))
    (h : ∀ a' : Act, a'.defers = a.defers → a'.tmps[0]? = some (.slice (some ⟨w.heap.size, 0, none⟩) l.length l.length) → Q .normal a' (w.alloc (.cells (cellsG l).toArray T))) :
    wpList P ops Q (os ++ [oB, oA]) a w := by
  refine wpList_blds hT os l 1 a [oB, oA] hc (by omega) fun a1 hd1 hs1 hv1 _ => ?_
  obtain ⟨hu, ie, z, hie, hz, hes, _, hzs⟩ := hS
  have hvs : ∀ v ∈ l.map aggG, v.cells.size = 3 := by
    intro v hv
    simp only [List.mem_map] at hv
    obtain ⟨r, _, rfl⟩ := hv
    rfl
  obtain ⟨cs, hfill, hcs, hk⟩ := Great.fill_dense (s := 3) (by decide) (l.map aggG) 0 ((Array.range (l.length * 3)).map (z.cells[· % z.cells.size]!)) hvs (by simp)
  have hcells : cs = (cellsG l).toArray := by
    apply Array.ext_getElem?
    intro k
    rw [hk k]
    by_cases hkl : k < l.length * 3
    · rw [if_pos (by simp; omega)]
      obtain ⟨r, hr⟩ : ∃ r, l[k / 3]? = some r := ⟨_, List.getElem?_eq_getElem (by omega)⟩
      obtain ⟨e0, e1, e2⟩ := cellsG_at hr
      rw [Nat.sub_zero, List.getElem?_map, hr]
      simp only [Option.map_some, Option.bind_some, List.getElem?_toArray]
      have hm : k % 3 = 0 ∨ k % 3 = 1 ∨ k % 3 = 2 := by omega
      rcases hm with hm | hm | hm
      · rw [hm, show k = k / 3 * 3 by omega, e0]; simp [aggG, encG, Value.cells]
      · rw [hm]; rw [show (cellsG l)[k]? = (cellsG l)[k / 3 * 3 + 1]? by congr 1; omega, e1]; rfl
      · rw [hm]; rw [show (cellsG l)[k]? = (cellsG l)[k / 3 * 3 + 2]? by congr 1; omega, e2]; rfl
    · rw [if_neg (by simp; omega), Array.getElem?_eq_none (by simp; omega), List.getElem?_toArray, List.getElem?_eq_none (by rw [cellsG_len]; omega)]
  have hparts : (parts.map fun (i, x) => (i, a1.eval x)).toList = ((l.map aggG).zipIdx 0).map fun x => (x.2, x.1) := by
    rw [Array.toList_map, hp, List.map_map]
    apply List.ext_getElem?
    intro k
    simp only [List.getElem?_map, List.getElem?_zipIdx]
    by_cases hkl : k < l.length
    · obtain ⟨r, hr⟩ : ∃ r, l[k]? = some r := ⟨_, List.getElem?_eq_getElem hkl⟩
      have hv := hv1 k r hr
      rw [List.getElem?_range hkl, hr]
      simp only [Option.map_some, Function.comp, Nat.zero_add]
      have : a1.eval (.tmp (k + 1)) = aggG r := by
        simp only [Act.eval]
        rw [Array.getD_eq_getD_getElem?, show k + 1 = 1 + k by omega, hv]
        rfl
      rw [this]
    · rw [List.getElem?_eq_none (by simp; omega), List.getElem?_eq_none (l := l) (by omega)]
      rfl
  refine wpList_buildSlice hgB S T l.length parts hoB (cellsG l).toArray ie z hu hie hz (by rw [hes]; omega) (by rw [hes]; omega) ?_ ?_
  · rw [hes, hparts, hfill, hcells]
  · rw [hdB]
    refine Great.wpList_readTo hgA (some 0) hdA (.slice (some ⟨w.heap.size, 0, none⟩) l.length l.length) ?_ ?_
    · rw [BigFrame.run_assign _ hoA]
      congr 2
      simp only [Act.eval]
      rw [Array.getD_eq_getD_getElem?, put_same _ _ _ (by omega)]
      rfl
    · refine wpList_nil (h _ ?_ ?_)
      · exact hd1
      · rw [put_same _ _ _ (by rw [put_size]; omega)]
end
end Go.Proofs.YtdgomaoikeffhaaGreat
/- Long literals of ranges: what is checked of their operations. -/
namespace Go.Proofs.YtdgomaoikeffhaaGreat
open Go.RowKit
theorem rangeBuilt (a b v : Int) : Tryz.prog.built 77 [(0, .int .i64 a), (1, .int .i64 b), (2, .int .i64 v)] = some #[.int .i64 a, .int .i64 b, .int .i64 v] := by kernel_rfl
theorem rangeSlice : SliceOf Tryz.prog 52 77 3 24 := .mk_ (z := .agg #[.int .i64 0, .int .i64 0, .int .i64 0]) Tryz.underlying52 (by kernel_rfl) rfl
def chkP : List (Nat × Operand) → Nat → Nat → Bool
  | [], i, n => i == n
  | p :: r, i, n => (match p with
      | (k, .tmp t) => k == i && t == i + 1
      | _ => false) && chkP r (i + 1) n
theorem chkP_is : ∀ {ps : List (Nat × Operand)} {i n : Nat}, chkP ps i n = true → i + ps.length = n ∧ ps = (List.range' i ps.length).map fun k => (k, Operand.tmp (k + 1))
  | [], i, n, h => by
    simp [chkP] at h
    exact ⟨by simp [h], rfl⟩
  | p :: r, i, n, h => by
    unfold chkP at h
    rw [Bool.and_eq_true] at h
    obtain ⟨h1, h2⟩ := chkP_is h.2
    have hp : p = (i, .tmp (i + 1)) := by
      have h3 := h.1
      split at h3
      · simp only [Bool.and_eq_true, beq_iff_eq] at h3
        obtain ⟨rfl, rfl⟩ := h3
        rfl
      · cases h3
    refine ⟨by simp only [List.length_cons]; omega, ?_⟩
    rw [List.length_cons, List.range'_succ, List.map_cons, ← h2, hp]
/-- The last two operations: the slice of all, into slot 0. -/
def chkE (S : TypeId) (N : Nat) : List Oper → Bool
  | [oB, oA] => (match oB with
      | ⟨some d, .buildSlice t n parts, _, _, _, none⟩ => d == N + 1 && t == S && n == N && chkP parts.toList 0 N
      | _ => false) && (match oA with
      | ⟨some d, .assign (.tmp k), _, _, _, none⟩ => d == 0 && k == N + 1
      | _ => false)
  | _ => false
theorem chkE_is {S : TypeId} {N : Nat} {l : List Oper} (h : chkE S N l = true) : ∃ (oB oA : Oper) (parts : Array (Nat × Operand)), l = [oB, oA] ∧ oB.guard = none ∧ oB.dst = some (N + 1) ∧ oB.op = .buildSlice S N parts ∧ parts.toList = ((List.range N).map fun k => (k, Operand.tmp (k + 1))) ∧
    oA.guard = none ∧ oA.dst = some 0 ∧ oA.op = .assign (.tmp (N + 1)) := by
  unfold chkE at h
  split at h
  · rename_i oB oA
    rw [Bool.and_eq_true] at h
    obtain ⟨h1, h2⟩ := h
    split at h1
    · rename_i d t n parts _ _ _
      simp only [Bool.and_eq_true, beq_iff_eq] at h1
      obtain ⟨⟨⟨rfl, rfl⟩, rfl⟩, hp⟩ := h1
      split at h2
      · simp only [Bool.and_eq_true, beq_iff_eq] at h2
        obtain ⟨rfl, rfl⟩ := h2
        obtain ⟨p1, p2⟩ := chkP_is hp
        refine ⟨_, _, parts, rfl, rfl, rfl, rfl, ?_, rfl, rfl, rfl⟩
        rw [Nat.zero_add] at p1
        rw [p1] at p2
        rw [p2, List.range_eq_range']
      · cases h2
    · cases h1
  · cases h
theorem wpList_lit2 {ops : Array Oper} {Q : Exit → Act → World → Prop} {w : World} {T S : TypeId} {lst : List Oper} (N : Nat) (hT : ∀ a b v : Int, Tryz.prog.built T [(0, .int .i64 a), (1, .int .i64 b), (2, .int .i64 v)] = some #[.int .i64 a, .int .i64 b, .int .i64 v])
    (hS : SliceOf Tryz.prog S T 3 24) (l : List Rg) {a : Act} (he : chkE S N (lst.drop N) = true) (hc : chkB T (lst.take N) 1 l = true) (hl : l.length = N) (h0 : 0 < N) (hN : N ≤ 100000) (hsz : a.tmps.size = N + 2)
    (h : ∀ a' : Act, a'.defers = a.defers → a'.tmps[0]? = some (.slice (some ⟨w.heap.size, 0, none⟩) N N) → Q .normal a' (w.alloc (.cells (cellsG l).toArray T))) :
    wpList Tryz.prog ops Q lst a w := by
  subst hl
  obtain ⟨oB, oA, parts, hdrop, hgB, hdB, hoB, hp, hgA, hdA, hoA⟩ := chkE_is he
  rw [← List.take_append_drop l.length lst, hdrop]
  exact wpList_lit hT hS l _ oB oA parts a hc h0 hN hsz hgB hdB hoB hp hgA hdA hoA h
end Go.Proofs.YtdgomaoikeffhaaGreat
/- The given ranges: what BidiRanges and JoinRanges give. -/
namespace Go.Proofs.YtdgomaoikeffhaaGreat
open Go.RowKit
set_option maxRecDepth 1000000 in
set_option maxHeartbeats 4000000 in
theorem bidiRanges_any (w : World) : Calls Tryz.prog 18 #[] w fun e w' => e = .returned (.slice (some ⟨w.heap.size, 0, none⟩) 230 230) ∧ w' = w.alloc (.cells (cellsG bidiL).toArray 77) := by
  refine calls_of_wp Tryz.func18 rfl ?_
  apply wp_seq_k
  intro K hK
  apply wp_region_lit
  refine Great.wpList_readTo rfl (some 0) rfl (.slice none 0 0) (by rw [BigFrame.run_assign _ rfl]; rfl) ?_
  refine wpList_nil (hK _ _ ?_)
  apply wp_seq_k
  intro K2 hK2
  apply wp_region_lit
  refine wpList_lit2 230 rangeBuilt rangeSlice bidiL (by kernel_rfl) (by kernel_rfl) rfl (by decide) (by decide) (by simp [Act.put, Tryz.ntmps18]) ?_
  intro a' hd h0
  refine hK2 _ _ ?_
  apply wp_ret
  refine bodyPost_ret (results_tmp rfl _ _ _) hd ⟨?_, rfl⟩
  rw [Array.getD_eq_getD_getElem?, h0]
  rfl
end Go.Proofs.YtdgomaoikeffhaaGreat
/- JoinRanges, walked. -/
namespace Go.Proofs.YtdgomaoikeffhaaGreat
open Go.RowKit

set_option maxRecDepth 1000000 in
set_option maxHeartbeats 4000000 in
theorem joinRanges_any (w : World) : Calls Tryz.prog 19 #[] w fun e w' => e = .returned (.slice (some ⟨w.heap.size, 0, none⟩) 68 68) ∧ w' = w.alloc (.cells (cellsG joinL).toArray 77) := by
  refine calls_of_wp Tryz.func19 rfl ?_
  apply wp_seq_k
  intro K hK
  apply wp_region_lit
  refine Great.wpList_readTo rfl (some 0) rfl (.slice none 0 0) (by rw [BigFrame.run_assign _ rfl]; rfl) ?_
  refine wpList_nil (hK _ _ ?_)
  apply wp_seq_k
  intro K2 hK2
  apply wp_region_lit
  refine wpList_lit2 68 rangeBuilt rangeSlice joinL (by kernel_rfl) (by kernel_rfl) rfl (by decide) (by decide) (by simp [Act.put, Tryz.ntmps19]) ?_
  intro a' hd h0
  refine hK2 _ _ ?_
  apply wp_ret
  refine bodyPost_ret (results_tmp rfl _ _ _) hd ⟨?_, rfl⟩
  rw [Array.getD_eq_getD_getElem?, h0]
  rfl
end Go.Proofs.YtdgomaoikeffhaaGreat
