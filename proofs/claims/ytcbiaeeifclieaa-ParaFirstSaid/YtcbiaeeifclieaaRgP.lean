/- The given ranges: what BidiRanges and JoinRanges give. -/
import Derived.Test.YtcbiaeeifclieaaLit
import Derived.Test.YtcbiaeeifclieaaRgL
namespace Go.Proofs.Ytcbiaeeifclieaa
open Go.RowKit

theorem rangeBuilt (a b v : Int) : Try.prog.built 142 [(0, .int .i64 a), (1, .int .i64 b), (2, .int .i64 v)] = some #[.int .i64 a, .int .i64 b, .int .i64 v] := by kernel_rfl
theorem rangeSlice : SliceOf Try.prog 116 142 3 24 := .mk_ (z := .agg #[.int .i64 0, .int .i64 0, .int .i64 0]) Try.underlying116 (by kernel_rfl) rfl
def chkP : List (Nat × Operand) → Nat → Nat → Bool
  | [], i, n => i == n
  | p :: r, i, n => (match p with
      | (k, .tmp t) => k == i && t == i + 1
      | _ => false) && chkP r (i + 1) n
theorem chkP_is : ∀ {ps : List (Nat × Operand)} {i n : Nat}, chkP ps i n = true → i + ps.length = n ∧ ps = (List.range' i ps.length).map fun k => (k, Operand.tmp (k + 1))
  | [], i, n, h => by
    simp [chkP] at h
    exact ⟨by simp [h], rfl⟩
  | p :: r, i, n, h => by
    unfold chkP at h
    rw [Bool.and_eq_true] at h
    obtain ⟨h1, h2⟩ := chkP_is h.2
    have hp : p = (i, .tmp (i + 1)) := by
      have h3 := h.1
      split at h3
      · simp only [Bool.and_eq_true, beq_iff_eq] at h3
        obtain ⟨rfl, rfl⟩ := h3
        rfl
      · cases h3
    refine ⟨by simp only [List.length_cons]; omega, ?_⟩
    rw [List.length_cons, List.range'_succ, List.map_cons, ← h2, hp]
/-- The last two operations: the slice of all, into slot 0. -/
def chkE (S : TypeId) (N : Nat) : List Oper → Bool
  | [oB, oA] => (match oB with
      | ⟨some d, .buildSlice t n parts, _, _, _, none⟩ => d == N + 1 && t == S && n == N && chkP parts.toList 0 N
      | _ => false) && (match oA with
      | ⟨some d, .assign (.tmp k), _, _, _, none⟩ => d == 0 && k == N + 1
      | _ => false)
  | _ => false
theorem chkE_is {S : TypeId} {N : Nat} {l : List Oper} (h : chkE S N l = true) : ∃ (oB oA : Oper) (parts : Array (Nat × Operand)), l = [oB, oA] ∧ oB.guard = none ∧ oB.dst = some (N + 1) ∧ oB.op = .buildSlice S N parts ∧ parts.toList = ((List.range N).map fun k => (k, Operand.tmp (k + 1))) ∧
    oA.guard = none ∧ oA.dst = some 0 ∧ oA.op = .assign (.tmp (N + 1)) := by
  unfold chkE at h
  split at h
  · rename_i oB oA
    rw [Bool.and_eq_true] at h
    obtain ⟨h1, h2⟩ := h
    split at h1
    · rename_i d t n parts _ _ _
      simp only [Bool.and_eq_true, beq_iff_eq] at h1
      obtain ⟨⟨⟨rfl, rfl⟩, rfl⟩, hp⟩ := h1
      split at h2
      · simp only [Bool.and_eq_true, beq_iff_eq] at h2
        obtain ⟨rfl, rfl⟩ := h2
        obtain ⟨p1, p2⟩ := chkP_is hp
        refine ⟨_, _, parts, rfl, rfl, rfl, rfl, ?_, rfl, rfl, rfl⟩
        rw [Nat.zero_add] at p1
        rw [p1] at p2
        rw [p2, List.range_eq_range']
      · cases h2
    · cases h1
  · cases h
theorem wpList_lit2 {ops : Array Oper} {Q : Exit → Act → World → Prop} {w : World} {T S : TypeId} {lst : List Oper} (N : Nat) (hT : ∀ a b v : Int, Try.prog.built T [(0, .int .i64 a), (1, .int .i64 b), (2, .int .i64 v)] = some #[.int .i64 a, .int .i64 b, .int .i64 v])
    (hS : SliceOf Try.prog S T 3 24) (l : List Rg) {a : Act} (he : chkE S N (lst.drop N) = true) (hc : chkB T (lst.take N) 1 l = true) (hl : l.length = N) (h0 : 0 < N) (hN : N ≤ 100000) (hsz : a.tmps.size = N + 2)
    (h : ∀ a' : Act, a'.defers = a.defers → a'.tmps[0]? = some (.slice (some ⟨w.heap.size, 0, none⟩) N N) → Q .normal a' (w.alloc (.cells (cellsG l).toArray T))) :
    wpList Try.prog ops Q lst a w := by
  subst hl
  obtain ⟨oB, oA, parts, hdrop, hgB, hdB, hoB, hp, hgA, hdA, hoA⟩ := chkE_is he
  rw [← List.take_append_drop l.length lst, hdrop]
  exact wpList_lit hT hS l _ oB oA parts a hc h0 hN hsz hgB hdB hoB hp hgA hdA hoA h

set_option maxRecDepth 1000000 in
set_option maxHeartbeats 4000000 in
theorem bidiRanges_any (w : World) : Calls Try.prog 78 #[] w fun e w' => e = .returned (.slice (some ⟨w.heap.size, 0, none⟩) 230 230) ∧ w' = w.alloc (.cells (cellsG bidiL).toArray 142) := by
  refine calls_of_wp Try.func78 rfl ?_
  apply wp_seq_k
  intro K hK
  apply wp_region_lit
  refine Great.wpList_readTo rfl (some 0) rfl (.slice none 0 0) (by rw [BigFrame.run_assign _ rfl]; rfl) ?_
  refine wpList_nil (hK _ _ ?_)
  apply wp_seq_k
  intro K2 hK2
  apply wp_region_lit
  refine wpList_lit2 230 rangeBuilt rangeSlice bidiL (by kernel_rfl) (by kernel_rfl) rfl (by decide) (by decide) (by simp [Act.put, Try.ntmps78]) ?_
  intro a' hd h0
  refine hK2 _ _ ?_
  apply wp_ret
  refine bodyPost_ret (results_tmp rfl _ _ _) hd ⟨?_, rfl⟩
  rw [Array.getD_eq_getD_getElem?, h0]
  rfl
set_option maxRecDepth 1000000 in
set_option maxHeartbeats 4000000 in
theorem joinRanges_any (w : World) : Calls Try.prog 79 #[] w fun e w' => e = .returned (.slice (some ⟨w.heap.size, 0, none⟩) 68 68) ∧ w' = w.alloc (.cells (cellsG joinL).toArray 142) := by
  refine calls_of_wp Try.func79 rfl ?_
  apply wp_seq_k
  intro K hK
  apply wp_region_lit
  refine Great.wpList_readTo rfl (some 0) rfl (.slice none 0 0) (by rw [BigFrame.run_assign _ rfl]; rfl) ?_
  refine wpList_nil (hK _ _ ?_)
  apply wp_seq_k
  intro K2 hK2
  apply wp_region_lit
  refine wpList_lit2 68 rangeBuilt rangeSlice joinL (by kernel_rfl) (by kernel_rfl) rfl (by decide) (by decide) (by simp [Act.put, Try.ntmps79]) ?_
  intro a' hd h0
  refine hK2 _ _ ?_
  apply wp_ret
  refine bodyPost_ret (results_tmp rfl _ _ _) hd ⟨?_, rfl⟩
  rw [Array.getD_eq_getD_getElem?, h0]
  rfl
end Go.Proofs.Ytcbiaeeifclieaa
