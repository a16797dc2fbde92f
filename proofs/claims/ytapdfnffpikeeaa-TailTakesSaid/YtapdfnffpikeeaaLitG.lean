/- Long slice literals of any structs of whole numbers: the slice of all that was built, without a step for each element; letters (a struct with an array within). -/
import Derived.Test.YtapdfnffpikeeaaLit
import Derived.Test.YtapdfnffpikeeaaFmL
namespace Go.Proofs.Ytapdfnffpikeeaa
open Go.RowKit

theorem flat_len {α : Type} {enc : α → List Value} {s : Nat} (hs : ∀ x, (enc x).length = s) : ∀ l : List α, (l.flatMap enc).length = l.length * s
  | [] => by simp
  | x :: l => by rw [List.flatMap_cons, List.length_append, hs, flat_len hs l, List.length_cons, Nat.succ_mul, Nat.add_comm]
theorem flat_at {α : Type} {enc : α → List Value} {s : Nat} (hs : ∀ x, (enc x).length = s) : ∀ {l : List α} {q r : Nat} {x : α}, l[q]? = some x → r < s → (l.flatMap enc)[q * s + r]? = (enc x)[r]?
  | [], q, _, _, h, _ => by simp at h
  | y :: l, 0, r, x, h, hr => by
    simp at h
    subst h
    rw [List.flatMap_cons, Nat.zero_mul, Nat.zero_add, List.getElem?_append_left (by rw [hs]; exact hr)]
  | y :: l, q + 1, r, x, h, hr => by
    rw [List.flatMap_cons, List.getElem?_append_right (by rw [hs, Nat.succ_mul]; omega), hs, show (q + 1) * s + r - s = q * s + r by rw [Nat.succ_mul]; omega]
    exact flat_at hs (by simpa using h) hr
section
variable {P : Program} {ops : Array Oper} {Q : Exit → Act → World → Prop} {w : World} {T : TypeId}
/-- What was built stands in slots; the slice of all into slot d, that into slot 0. -/
theorem wpList_sliceG {α : Type} (enc : α → List Value) (s bytes : Nat) (hs : ∀ x, (enc x).length = s) (hs0 : 0 < s) {S : TypeId} (hS : SliceOf P S T s bytes) (l : List α) (slot : Nat → Nat) (d : Nat) (oB oA : Oper) (parts : Array (Nat × Operand)) (a : Act)
    (hsl : ∀ k x, l[k]? = some x → a.tmps[slot k]? = some (.agg (enc x).toArray)) (h0 : 0 < l.length) (hN : l.length * s ≤ 1000000) (hd : d < a.tmps.size)
    (hgB : oB.guard = none) (hdB : oB.dst = some d) (hoB : oB.op = .buildSlice S l.length parts) (hp : parts.toList = (List.range l.length).map fun k => (k, Operand.tmp (slot k)))
    (hgA : oA.guard = none) (hdA : oA.dst = some 0) (hoA : oA.op = .assign (.tmp d))
    (h : ∀ a' : Act, a'.defers = a.defers → a'.tmps[0]? = some (.slice (some ⟨w.heap.size, 0, none⟩) l.length l.length) → Q .normal a' (w.alloc (.cells (l.flatMap enc).toArray T))) :
    wpList P ops Q [oB, oA] a w := by
  obtain ⟨hu, ie, z, hie, hz, hes, _, hzs⟩ := hS
  have hvs : ∀ v ∈ l.map fun x => Value.agg (enc x).toArray, v.cells.size = s := by
    intro v hv
    simp only [List.mem_map] at hv
    obtain ⟨r, _, rfl⟩ := hv
    simp [Value.cells, hs]
  obtain ⟨cs, hfill, hcs, hk⟩ := Great.fill_dense (s := s) hs0 (l.map fun x => Value.agg (enc x).toArray) 0 ((Array.range (l.length * s)).map (z.cells[· % z.cells.size]!)) hvs (by simp)
  have hcells : cs = (l.flatMap enc).toArray := by
    apply Array.ext_getElem?
    intro k
    rw [hk k]
    by_cases hkl : k < l.length * s
    · rw [if_pos (by simp; omega)]
      have hq : k / s < l.length := Nat.div_lt_of_lt_mul (by rw [Nat.mul_comm]; exact hkl)
      obtain ⟨r, hr⟩ : ∃ r, l[k / s]? = some r := ⟨_, List.getElem?_eq_getElem hq⟩
      rw [Nat.sub_zero, List.getElem?_map, hr]
      simp only [Option.map_some, Option.bind_some, List.getElem?_toArray]
      have e := flat_at hs hr (Nat.mod_lt k hs0)
      rw [show k / s * s + k % s = k by have := Nat.div_add_mod k s; rw [Nat.mul_comm] at this; exact this] at e
      rw [e]
      simp [Value.cells]
    · rw [if_neg (by simp; omega), Array.getElem?_eq_none (by simp; omega), List.getElem?_toArray, List.getElem?_eq_none (by rw [flat_len hs]; omega)]
  have hparts : (parts.map fun (i, x) => (i, a.eval x)).toList = ((l.map fun x => Value.agg (enc x).toArray).zipIdx 0).map fun x => (x.2, x.1) := by
    rw [Array.toList_map, hp, List.map_map]
    apply List.ext_getElem?
    intro k
    simp only [List.getElem?_map, List.getElem?_zipIdx]
    by_cases hkl : k < l.length
    · obtain ⟨r, hr⟩ : ∃ r, l[k]? = some r := ⟨_, List.getElem?_eq_getElem hkl⟩
      have hv := hsl k r hr
      rw [List.getElem?_range hkl, hr]
      simp only [Option.map_some, Function.comp, Nat.zero_add]
      have : a.eval (.tmp (slot k)) = .agg (enc r).toArray := by
        simp only [Act.eval]
        rw [Array.getD_eq_getD_getElem?, hv]
        rfl
      rw [this]
    · rw [List.getElem?_eq_none (by simp; omega), List.getElem?_eq_none (l := l) (by omega)]
      rfl
  refine wpList_buildSlice hgB S T l.length parts hoB (l.flatMap enc).toArray ie z hu hie hz (by rw [hes]; omega) (by rw [hes]; exact Nat.ne_of_gt (Nat.mul_pos h0 hs0)) ?_ ?_
  · rw [hes, hparts, hfill, hcells]
  · rw [hdB]
    refine Great.wpList_readTo hgA (some 0) hdA (.slice (some ⟨w.heap.size, 0, none⟩) l.length l.length) ?_ ?_
    · rw [BigFrame.run_assign _ hoA]
      congr 2
      simp only [Act.eval]
      rw [Array.getD_eq_getD_getElem?, put_same _ _ _ hd]
      rfl
    · refine wpList_nil (h _ ?_ ?_)
      · rfl
      · rw [put_same _ _ _ (by rw [put_size]; omega)]
end

def encL (t : Lt) : List Value := [.int .i64 t.1, .int .i64 t.2.1, .int .i64 t.2.2.1, .int .i64 t.2.2.2.1, .int .i64 t.2.2.2.2]
def cellsL (l : List Lt) : List Value := l.flatMap encL
theorem cellsL_len (l : List Lt) : (cellsL l).length = l.length * 5 := flat_len (enc := encL) (fun _ => rfl) l
/-- Whether each two operations build a letter, into slots from i on. -/
def chkL (A T : TypeId) : List Oper → Nat → List Lt → Bool
  | [], _, [] => true
  | p :: o :: os, i, r :: l => (match p with
      | ⟨some d, .build t ⟨[(0, .const (.int .i64 a)), (1, .const (.int .i64 b)), (2, .const (.int .i64 c)), (3, .const (.int .i64 e))]⟩, _, _, _, none⟩ => d == i && t == A && a == r.2.1 && b == r.2.2.1 && c == r.2.2.2.1 && e == r.2.2.2.2
      | _ => false) && (match o with
      | ⟨some d, .build t ⟨[(0, .const (.int .i64 a)), (1, .tmp k)]⟩, _, _, _, none⟩ => d == i + 1 && t == T && a == r.1 && k == i
      | _ => false) && chkL A T os (i + 2) l
  | _, _, _ => false
theorem chkL_cons {A T : TypeId} {p o : Oper} {os : List Oper} {i : Nat} {r : Lt} {l : List Lt} (h : chkL A T (p :: o :: os) i (r :: l) = true) :
    (p.dst = some i ∧ p.guard = none ∧ p.op = .build A #[(0, .const (.int .i64 r.2.1)), (1, .const (.int .i64 r.2.2.1)), (2, .const (.int .i64 r.2.2.2.1)), (3, .const (.int .i64 r.2.2.2.2))]) ∧
    (o.dst = some (i + 1) ∧ o.guard = none ∧ o.op = .build T #[(0, .const (.int .i64 r.1)), (1, .tmp i)]) ∧ chkL A T os (i + 2) l = true := by
  unfold chkL at h
  rw [Bool.and_eq_true, Bool.and_eq_true] at h
  refine ⟨?_, ?_, h.2⟩
  · have h1 := h.1.1
    split at h1
    · simp only [Bool.and_eq_true, beq_iff_eq] at h1
      obtain ⟨⟨⟨⟨⟨rfl, rfl⟩, rfl⟩, rfl⟩, rfl⟩, rfl⟩ := h1
      exact ⟨rfl, rfl, rfl⟩
    · cases h1
  · have h1 := h.1.2
    split at h1
    · simp only [Bool.and_eq_true, beq_iff_eq] at h1
      obtain ⟨⟨⟨rfl, rfl⟩, rfl⟩, rfl⟩ := h1
      exact ⟨rfl, rfl, rfl⟩
    · cases h1
section
variable {P : Program} {ops : Array Oper} {Q : Exit → Act → World → Prop} {w : World} {A T : TypeId}
theorem wpList_bldsL (hA : ∀ a b c d : Int, P.built A [(0, .int .i64 a), (1, .int .i64 b), (2, .int .i64 c), (3, .int .i64 d)] = some #[.int .i64 a, .int .i64 b, .int .i64 c, .int .i64 d])
    (hT : ∀ x a b c d : Int, P.built T [(0, .int .i64 x), (1, .agg #[.int .i64 a, .int .i64 b, .int .i64 c, .int .i64 d])] = some #[.int .i64 x, .int .i64 a, .int .i64 b, .int .i64 c, .int .i64 d]) :
    ∀ (os : List Oper) (l : List Lt) (s : Nat) (a : Act) (rest : List Oper), chkL A T os s l = true → s + 2 * l.length ≤ a.tmps.size →
    (∀ a' : Act, a'.defers = a.defers → a'.tmps.size = a.tmps.size → (∀ (k : Nat) (r : Lt), l[k]? = some r → a'.tmps[s + 2 * k + 1]? = some (.agg (encL r).toArray)) → (∀ j, j < s → a'.tmps[j]? = a.tmps[j]?) → wpList P ops Q rest a' w) → wpList P ops Q (os ++ rest) a w
  | [], [], s, a, rest, _, _, h => h a rfl rfl (fun k r hk => by simp at hk) (fun _ _ => rfl)
  | [], _ :: _, _, _, _, hc, _, _ => by simp [chkL] at hc
  | [_], _ :: _, _, _, _, hc, _, _ => by simp [chkL] at hc
  | _ :: _, [], _, _, _, hc, _, _ => by simp [chkL] at hc
  | p :: o :: os, r :: l, s, a, rest, hc, hs, h => by
    obtain ⟨⟨pd, pg, po⟩, ⟨hd, hg, ho⟩, hc'⟩ := chkL_cons hc
    simp only [List.length_cons] at hs
    refine wpList_buildTo pg A _ po (some s) pd #[.int .i64 r.2.1, .int .i64 r.2.2.1, .int .i64 r.2.2.2.1, .int .i64 r.2.2.2.2] ?_ ?_
    · rw [Array.toList_map]
      exact hA _ _ _ _
    refine wpList_buildTo hg T _ ho (some (s + 1)) hd (encL r).toArray ?_ ?_
    · rw [Array.toList_map]
      have e : (a.put (some s) (.agg #[.int .i64 r.2.1, .int .i64 r.2.2.1, .int .i64 r.2.2.2.1, .int .i64 r.2.2.2.2])).eval (.tmp s) = .agg #[.int .i64 r.2.1, .int .i64 r.2.2.1, .int .i64 r.2.2.2.1, .int .i64 r.2.2.2.2] := by
        simp only [Act.eval]
        rw [Array.getD_eq_getD_getElem?, put_same _ _ _ (by omega)]
        rfl
      simp only [List.map_cons, List.map_nil]
      rw [e]
      exact hT _ _ _ _ _
    · refine wpList_bldsL hA hT os l (s + 2) _ rest hc' (by rw [put_size, put_size]; omega) fun a' hd' hs' hv hj => ?_
      refine h a' hd' (by rw [hs', put_size, put_size]) (fun k r' hk => ?_) (fun j hjs => ?_)
      · cases k with
        | zero =>
          simp at hk
          subst hk
          rw [hj _ (by omega), Nat.mul_zero, Nat.add_zero, put_same _ _ _ (by rw [put_size]; omega)]
        | succ k =>
          have := hv k r' (by simpa using hk)
          rwa [show s + 2 * (k + 1) + 1 = s + 2 + 2 * k + 1 by omega]
      · rw [hj j (by omega), put_ne _ _ _ _ (by omega), put_ne _ _ _ _ (by omega)]
end
/-- The parts of the slice. -/
def chkPL : List (Nat × Operand) → Nat → Nat → Bool
  | [], i, n => i == n
  | p :: r, i, n => (match p with
      | (k, .tmp t) => k == i && t == 2 * i + 2
      | _ => false) && chkPL r (i + 1) n
theorem chkPL_is : ∀ {ps : List (Nat × Operand)} {i n : Nat}, chkPL ps i n = true → i + ps.length = n ∧ ps = (List.range' i ps.length).map fun k => (k, Operand.tmp (2 * k + 2))
  | [], i, n, h => by
    simp [chkPL] at h
    exact ⟨by simp [h], rfl⟩
  | p :: r, i, n, h => by
    unfold chkPL at h
    rw [Bool.and_eq_true] at h
    obtain ⟨h1, h2⟩ := chkPL_is h.2
    have hp : p = (i, .tmp (2 * i + 2)) := by
      have h3 := h.1
      split at h3
      · simp only [Bool.and_eq_true, beq_iff_eq] at h3
        obtain ⟨rfl, rfl⟩ := h3
        rfl
      · cases h3
    refine ⟨by simp only [List.length_cons]; omega, ?_⟩
    rw [List.length_cons, List.range'_succ, List.map_cons, ← h2, hp]
def chkEL (S : TypeId) (N : Nat) : List Oper → Bool
  | [oB, oA] => (match oB with
      | ⟨some d, .buildSlice t n parts, _, _, _, none⟩ => d == 2 * N + 1 && t == S && n == N && chkPL parts.toList 0 N
      | _ => false) && (match oA with
      | ⟨some d, .assign (.tmp k), _, _, _, none⟩ => d == 0 && k == 2 * N + 1
      | _ => false)
  | _ => false
theorem chkEL_is {S : TypeId} {N : Nat} {l : List Oper} (h : chkEL S N l = true) : ∃ (oB oA : Oper) (parts : Array (Nat × Operand)), l = [oB, oA] ∧ oB.guard = none ∧ oB.dst = some (2 * N + 1) ∧ oB.op = .buildSlice S N parts ∧ parts.toList = ((List.range N).map fun k => (k, Operand.tmp (2 * k + 2))) ∧
    oA.guard = none ∧ oA.dst = some 0 ∧ oA.op = .assign (.tmp (2 * N + 1)) := by
  unfold chkEL at h
  split at h
  · rename_i oB oA
    rw [Bool.and_eq_true] at h
    obtain ⟨h1, h2⟩ := h
    split at h1
    · rename_i d t n parts _ _ _
      simp only [Bool.and_eq_true, beq_iff_eq] at h1
      obtain ⟨⟨⟨rfl, rfl⟩, rfl⟩, hp⟩ := h1
      split at h2
      · simp only [Bool.and_eq_true, beq_iff_eq] at h2
        obtain ⟨rfl, rfl⟩ := h2
        obtain ⟨p1, p2⟩ := chkPL_is hp
        refine ⟨_, _, parts, rfl, rfl, rfl, rfl, ?_, rfl, rfl, rfl⟩
        rw [Nat.zero_add] at p1
        rw [p1] at p2
        rw [p2, List.range_eq_range']
      · cases h2
    · cases h1
  · cases h
theorem wpList_litL {P : Program} {ops : Array Oper} {Q : Exit → Act → World → Prop} {w : World} {A T S : TypeId} {lst : List Oper} (N : Nat) (hA : ∀ a b c d : Int, P.built A [(0, .int .i64 a), (1, .int .i64 b), (2, .int .i64 c), (3, .int .i64 d)] = some #[.int .i64 a, .int .i64 b, .int .i64 c, .int .i64 d])
    (hT : ∀ x a b c d : Int, P.built T [(0, .int .i64 x), (1, .agg #[.int .i64 a, .int .i64 b, .int .i64 c, .int .i64 d])] = some #[.int .i64 x, .int .i64 a, .int .i64 b, .int .i64 c, .int .i64 d])
    (hS : SliceOf P S T 5 40) (l : List Lt) {a : Act} (he : chkEL S N (lst.drop (2 * N)) = true) (hc : chkL A T (lst.take (2 * N)) 1 l = true) (hl : l.length = N) (h0 : 0 < N) (hN : N ≤ 100000) (hsz : a.tmps.size = 2 * N + 2)
    (h : ∀ a' : Act, a'.defers = a.defers → a'.tmps[0]? = some (.slice (some ⟨w.heap.size, 0, none⟩) N N) → Q .normal a' (w.alloc (.cells (cellsL l).toArray T))) :
    wpList P ops Q lst a w := by
  subst hl
  obtain ⟨oB, oA, parts, hdrop, hgB, hdB, hoB, hp, hgA, hdA, hoA⟩ := chkEL_is he
  rw [← List.take_append_drop (2 * l.length) lst, hdrop]
  refine wpList_bldsL hA hT _ l 1 a [oB, oA] hc (by omega) fun a1 hd1 hs1 hv1 _ => ?_
  exact wpList_sliceG encL 5 40 (fun _ => rfl) (by decide) hS l (fun k => 2 * k + 2) (2 * l.length + 1) oB oA parts a1 (fun k x hk => by rw [show 2 * k + 2 = 1 + 2 * k + 1 by omega]; exact hv1 k x hk) h0 (by omega) (by omega) hgB hdB hoB hp hgA hdA hoA (fun a' e1 e2 => h a' (e1.trans hd1) e2)
end Go.Proofs.Ytapdfnffpikeeaa
