/- Texts of one claim, one behind the other. -/
import Derived.Great.FillDense
import Derived.Great.BuildSlice
import Derived.Great.Walk
import Derived.KernelRfl
import Derived.BigRegion
import Derived.Test.YtpddjojgcenlkaaGreatMgNu1
import Derived.Test.YtpddjojgcenlkaaGreatMgNu2
import Derived.Test.YtpddjojgcenlkaaGreatMgNu5
/- Long slice literals of ranges (structs of three whole numbers), without a step for each element. -/
namespace Go.Proofs.YtpddjojgcenlkaaGreat
open Go.RowKit

/-- Whether each operation builds its range, into slots from i on. -/
def chkB (T : TypeId) : List Oper → Nat → List Rg → Bool
  | [], _, [] => true
  | o :: os, i, r :: l => (match o with
      | ⟨some d, .build t ⟨[(0, .const (.int .i64 a)), (1, .const (.int .i64 b)), (2, .const (.int .i64 v))]⟩, _, _, _, none⟩ => d == i && t == T && a == r.1 && b == r.2.1 && v == r.2.2
      | _ => false) && chkB T os (i + 1) l
  | _, _, _ => false
theorem chkB_cons {T : TypeId} {o : Oper} {os : List Oper} {i : Nat} {r : Rg} {l : List Rg} (h : chkB T (o :: os) i (r :: l) = true) :
    (o.dst = some i ∧ o.guard = none ∧ o.op = .build T #[(0, .const (.int .i64 r.1)), (1, .const (.int .i64 r.2.1)), (2, .const (.int .i64 r.2.2))]) ∧ chkB T os (i + 1) l = true := by
  unfold chkB at h
  rw [Bool.and_eq_true] at h
  refine ⟨?_, h.2⟩
  have h1 := h.1
  split at h1
  · simp only [Bool.and_eq_true, beq_iff_eq] at h1
    obtain ⟨⟨⟨⟨rfl, rfl⟩, rfl⟩, rfl⟩, rfl⟩ := h1
    exact ⟨rfl, rfl, rfl⟩
  · cases h1
def aggG (r : Rg) : Value := .agg (encG r).toArray
section
variable {P : Program} {ops : Array Oper} {Q : Exit → Act → World → Prop} {w : World} {T : TypeId}
theorem put_size (a : Act) (i : Nat) (v : Value) : (a.put (some i) v).tmps.size = a.tmps.size := by simp [Act.put]
theorem put_same (a : Act) (i : Nat) (v : Value) (h : i < a.tmps.size) : (a.put (some i) v).tmps[i]? = some v := by simp [Act.put, h]
theorem put_ne (a : Act) (i j : Nat) (v : Value) (h : j ≠ i) : (a.put (some i) v).tmps[j]? = a.tmps[j]? := by
  simp only [Act.put]
  rw [Array.getElem?_setIfInBounds_ne (by omega)]
theorem wpList_blds (hT : ∀ a b v : Int, P.built T [(0, .int .i64 a), (1, .int .i64 b), (2, .int .i64 v)] = some #[.int .i64 a, .int .i64 b, .int .i64 v]) :
    ∀ (os : List Oper) (l : List Rg) (s : Nat) (a : Act) (rest : List Oper), chkB T os s l = true → s + l.length ≤ a.tmps.size →
    (∀ a' : Act, a'.defers = a.defers → a'.tmps.size = a.tmps.size → (∀ (k : Nat) (r : Rg), l[k]? = some r → a'.tmps[s + k]? = some (aggG r)) → (∀ j, j < s → a'.tmps[j]? = a.tmps[j]?) → wpList P ops Q rest a' w) → wpList P ops Q (os ++ rest) a w
  | [], [], s, a, rest, _, _, h => h a rfl rfl (fun k r hk => by simp at hk) (fun _ _ => rfl)
  | [], _ :: _, _, _, _, hc, _, _ => by simp [chkB] at hc
  | _ :: _, [], _, _, _, hc, _, _ => by simp [chkB] at hc
  | o :: os, r :: l, s, a, rest, hc, hs, h => by
    obtain ⟨⟨hd, hg, ho⟩, hc'⟩ := chkB_cons hc
    simp only [List.length_cons] at hs
    refine wpList_buildTo hg T _ ho (some s) hd #[.int .i64 r.1, .int .i64 r.2.1, .int .i64 r.2.2] ?_ ?_
    · rw [Array.toList_map]
      exact hT r.1 r.2.1 r.2.2
    · refine wpList_blds hT os l (s + 1) _ rest hc' (by rw [put_size]; omega) fun a' hd' hs' hv hj => ?_
      refine h a' hd' (by rw [hs', put_size]) (fun k r' hk => ?_) (fun j hjs => ?_)
      · cases k with
        | zero =>
          simp at hk
          subst hk
          rw [Nat.add_zero, hj s (by omega), put_same _ _ _ (by omega)]
          rfl
        | succ k =>
          have := hv k r' (by simpa using hk)
          rwa [show s + (k + 1) = s + 1 + k by omega]
      · rw [hj j (by omega), put_ne _ _ _ _ (by omega)]
/-- The literal: N builds from slot 1 on, the slice into slot N + 1, that into slot 0. -/
theorem wpList_lit {S : TypeId} (hT : ∀ a b v : Int, P.built T [(0, .int .i64 a), (1, .int .i64 b), (2, .int .i64 v)] = some #[.int .i64 a, .int .i64 b, .int .i64 v])
    (hS : SliceOf P S T 3 24) (l : List Rg) (os : List Oper) (oB oA : Oper) (parts : Array (Nat × Operand)) (a : Act) (hc : chkB T os 1 l = true) (h0 : 0 < l.length) (hN : l.length ≤ 100000) (hsz : a.tmps.size = l.length + 2)
    (hgB : oB.guard = none) (hdB : oB.dst = some (l.length + 1)) (hoB : oB.op = .buildSlice S l.length parts) (hp : parts.toList = (List.range l.length).map fun k => (k, Operand.tmp (k + 1)))
    (hgA : oA.guard = none) (hdA : oA.dst = some 0) (hoA : oA.op = .assign (.tmp (l.length + 1)))
    (h : ∀ a' : Act, a'.defers = a.defers → a'.tmps[0]? = some (.slice (some ⟨w.heap.size, 0, none⟩) l.length l.length) → Q .normal a' (w.alloc (.cells (cellsG l).toArray T))) :
    wpList P ops Q (os ++ [oB, oA]) a w := by
  refine wpList_blds hT os l 1 a [oB, oA] hc (by omega) fun a1 hd1 hs1 hv1 _ => ?_
  obtain ⟨hu, ie, z, hie, hz, hes, _, hzs⟩ := hS
  have hvs : ∀ v ∈ l.map aggG, v.cells.size = 3 := by
    intro v hv
    simp only [List.mem_map] at hv
    obtain ⟨r, _, rfl⟩ := hv
    rfl
  obtain ⟨cs, hfill, hcs, hk⟩ := Great.fill_dense (s := 3) (by decide) (l.map aggG) 0 ((Array.range (l.length * 3)).map (z.cells[· % z.cells.size]!)) hvs (by simp)
  have hcells : cs = (cellsG l).toArray := by
    apply Array.ext_getElem?
    intro k
    rw [hk k]
    by_cases hkl : k < l.length * 3
    · rw [if_pos (by simp; omega)]
      obtain ⟨r, hr⟩ : ∃ r, l[k / 3]? = some r := ⟨_, List.getElem?_eq_getElem (by omega)⟩
      obtain ⟨e0, e1, e2⟩ := cellsG_at hr
      rw [Nat.sub_zero, List.getElem?_map, hr]
      simp only [Option.map_some, Option.bind_some, List.getElem?_toArray]
      have hm : k % 3 = 0 ∨ k % 3 = 1 ∨ k % 3 = 2 := by omega
      rcases hm with hm | hm | hm
      · rw [hm, show k = k / 3 * 3 by omega, e0]; simp [aggG, encG, Value.cells]
      · rw [hm]; rw [show (cellsG l)[k]? = (cellsG l)[k / 3 * 3 + 1]? by congr 1; omega, e1]; rfl
      · rw [hm]; rw [show (cellsG l)[k]? = (cellsG l)[k / 3 * 3 + 2]? by congr 1; omega, e2]; rfl
    · rw [if_neg (by simp; omega), Array.getElem?_eq_none (by simp; omega), List.getElem?_toArray, List.getElem?_eq_none (by rw [cellsG_len]; omega)]
  have hparts : (parts.map fun (i, x) => (i, a1.eval x)).toList = ((l.map aggG).zipIdx 0).map fun x => (x.2, x.1) := by
    rw [Array.toList_map, hp, List.map_map]
    apply List.ext_getElem?
    intro k
    simp only [List.getElem?_map, List.getElem?_zipIdx]
    by_cases hkl : k < l.length
    · obtain ⟨r, hr⟩ : ∃ r, l[k]? = some r := ⟨_, List.getElem?_eq_getElem hkl⟩
      have hv := hv1 k r hr
      rw [List.getElem?_range hkl, hr]
      simp only [Option.map_some, Function.comp, Nat.zero_add]
      have : a1.eval (.tmp (k + 1)) = aggG r := by
        simp only [Act.eval]
        rw [Array.getD_eq_getD_getElem?, show k + 1 = 1 + k by omega, hv]
        rfl
      rw [this]
    · rw [List.getElem?_eq_none (by simp; omega), List.getElem?_eq_none (l := l) (by omega)]
      rfl
  refine wpList_buildSlice hgB S T l.length parts hoB (cellsG l).toArray ie z hu hie hz (by rw [hes]; omega) (by rw [hes]; omega) ?_ ?_
  · rw [hes, hparts, hfill, hcells]
  · rw [hdB]
    refine Great.wpList_readTo hgA (some 0) hdA (.slice (some ⟨w.heap.size, 0, none⟩) l.length l.length) ?_ ?_
    · rw [BigFrame.run_assign _ hoA]
      congr 2
      simp only [Act.eval]
      rw [Array.getD_eq_getD_getElem?, put_same _ _ _ (by omega)]
      rfl
    · refine wpList_nil (h _ ?_ ?_)
      · exact hd1
      · rw [put_same _ _ _ (by rw [put_size]; omega)]
end
end Go.Proofs.YtpddjojgcenlkaaGreat
/- The given ranges: what BidiRanges and JoinRanges give. -/
namespace Go.Proofs.YtpddjojgcenlkaaGreat
open Go.RowKit
theorem rangeBuilt (a b v : Int) : Tryz.prog.built 67 [(0, .int .i64 a), (1, .int .i64 b), (2, .int .i64 v)] = some #[.int .i64 a, .int .i64 b, .int .i64 v] := by kernel_rfl
theorem rangeSlice : SliceOf Tryz.prog 45 67 3 24 := .mk_ (z := .agg #[.int .i64 0, .int .i64 0, .int .i64 0]) Tryz.underlying45 (by kernel_rfl) rfl
def chkP : List (Nat × Operand) → Nat → Nat → Bool
  | [], i, n => i == n
  | p :: r, i, n => (match p with
      | (k, .tmp t) => k == i && t == i + 1
      | _ => false) && chkP r (i + 1) n
theorem chkP_is : ∀ {ps : List (Nat × Operand)} {i n : Nat}, chkP ps i n = true → i + ps.length = n ∧ ps = (List.range' i ps.length).map fun k => (k, Operand.tmp (k + 1))
  | [], i, n, h => by
    simp [chkP] at h
    exact ⟨by simp [h], rfl⟩
  | p :: r, i, n, h => by
    unfold chkP at h
    rw [Bool.and_eq_true] at h
    obtain ⟨h1, h2⟩ := chkP_is h.2
    have hp : p = (i, .tmp (i + 1)) := by
      have h3 := h.1
      split at h3
      · simp only [Bool.and_eq_true, beq_iff_eq] at h3
        obtain ⟨rfl, rfl⟩ := h3
        rfl
      · cases h3
    refine ⟨by simp only [List.length_cons]; omega, ?_⟩
    rw [List.length_cons, List.range'_succ, List.map_cons, ← h2, hp]
/-- The last two operations: the slice of all, into slot 0. -/
def chkE (S : TypeId) (N : Nat) : List Oper → Bool
  | [oB, oA] => (match oB with
      | ⟨some d, .buildSlice t n parts, _, _, _, none⟩ => d == N + 1 && t == S && n == N && chkP parts.toList 0 N
      | _ => false) && (match oA with
      | ⟨some d, .assign (.tmp k), _, _, _, none⟩ => d == 0 && k == N + 1
      | _ => false)
  | _ => false
theorem chkE_is {S : TypeId} {N : Nat} {l : List Oper} (h : chkE S N l = true) : ∃ (oB oA : Oper) (parts : Array (Nat × Operand)), l = [oB, oA] ∧ oB.guard = none ∧ oB.dst = some (N + 1) ∧ oB.op = .buildSlice S N parts ∧ parts.toList = ((List.range N).map fun k => (k, Operand.tmp (k + 1))) ∧
    oA.guard = none ∧ oA.dst = some 0 ∧ oA.op = .assign (.tmp (N + 1)) := by
  unfold chkE at h
  split at h
  · rename_i oB oA
    rw [Bool.and_eq_true] at h
    obtain ⟨h1, h2⟩ := h
    split at h1
    · rename_i d t n parts _ _ _
      simp only [Bool.and_eq_true, beq_iff_eq] at h1
      obtain ⟨⟨⟨rfl, rfl⟩, rfl⟩, hp⟩ := h1
      split at h2
      · simp only [Bool.and_eq_true, beq_iff_eq] at h2
        obtain ⟨rfl, rfl⟩ := h2
        obtain ⟨p1, p2⟩ := chkP_is hp
        refine ⟨_, _, parts, rfl, rfl, rfl, rfl, ?_, rfl, rfl, rfl⟩
        rw [Nat.zero_add] at p1
        rw [p1] at p2
        rw [p2, List.range_eq_range']
      · cases h2
    · cases h1
  · cases h
theorem wpList_lit2 {ops : Array Oper} {Q : Exit → Act → World → Prop} {w : World} {T S : TypeId} {lst : List Oper} (N : Nat) (hT : ∀ a b v : Int, Tryz.prog.built T [(0, .int .i64 a), (1, .int .i64 b), (2, .int .i64 v)] = some #[.int .i64 a, .int .i64 b, .int .i64 v])
    (hS : SliceOf Tryz.prog S T 3 24) (l : List Rg) {a : Act} (he : chkE S N (lst.drop N) = true) (hc : chkB T (lst.take N) 1 l = true) (hl : l.length = N) (h0 : 0 < N) (hN : N ≤ 100000) (hsz : a.tmps.size = N + 2)
    (h : ∀ a' : Act, a'.defers = a.defers → a'.tmps[0]? = some (.slice (some ⟨w.heap.size, 0, none⟩) N N) → Q .normal a' (w.alloc (.cells (cellsG l).toArray T))) :
    wpList Tryz.prog ops Q lst a w := by
  subst hl
  obtain ⟨oB, oA, parts, hdrop, hgB, hdB, hoB, hp, hgA, hdA, hoA⟩ := chkE_is he
  rw [← List.take_append_drop l.length lst, hdrop]
  exact wpList_lit hT hS l _ oB oA parts a hc h0 hN hsz hgB hdB hoB hp hgA hdA hoA h

set_option maxRecDepth 1000000 in
set_option maxHeartbeats 4000000 in
theorem bidiRanges_any (w : World) : Calls Tryz.prog 20 #[] w fun e w' => e = .returned (.slice (some ⟨w.heap.size, 0, none⟩) 230 230) ∧ w' = w.alloc (.cells (cellsG bidiL).toArray 67) := by
  refine calls_of_wp Tryz.func20 rfl ?_
  apply wp_seq_k
  intro K hK
  apply wp_region_lit
  refine Great.wpList_readTo rfl (some 0) rfl (.slice none 0 0) (by rw [BigFrame.run_assign _ rfl]; rfl) ?_
  refine wpList_nil (hK _ _ ?_)
  apply wp_seq_k
  intro K2 hK2
  apply wp_region_lit
  refine wpList_lit2 230 rangeBuilt rangeSlice bidiL (by kernel_rfl) (by kernel_rfl) rfl (by decide) (by decide) (by simp [Act.put, Tryz.ntmps20]) ?_
  intro a' hd h0
  refine hK2 _ _ ?_
  apply wp_ret
  refine bodyPost_ret (results_tmp rfl _ _ _) hd ⟨?_, rfl⟩
  rw [Array.getD_eq_getD_getElem?, h0]
  rfl
end Go.Proofs.YtpddjojgcenlkaaGreat
/- The reference's Class of a code. -/
namespace Go.Proofs.YtpddjojgcenlkaaGreat
open Go.RowKit
set_option maxRecDepth 100000 in
set_option maxHeartbeats 1000000 in
theorem refClass_gen (lB : List Rg) (nB : Nat) (cB : ∀ w : World, Calls Tryz.prog 20 #[] w fun e w' => e = .returned (.slice (some ⟨w.heap.size, 0, none⟩) nB nB) ∧ w' = w.alloc (.cells (cellsG lB).toArray 67)) (hnB : lB.length = nB) (h4 : nB ≤ 4096) (c : Int) (w : World) :
    Calls Tryz.prog 9 #[.int .i64 c] w fun e w' => e = .returned (.int .i64 (if 0 ≤ c ∧ c ≤ 1114111 then getG lB 0 c else 13)) ∧ Below w.heap.size w w' := by
  have CB := Lib.hid cB
  have NB := Lib.hid hnB
  clear cB hnB
  have hc : c < 0 ∨ (0 ≤ c ∧ 1114111 < c) ∨ (0 ≤ c ∧ c ≤ 1114111) := by omega
  rcases hc with h | ⟨h, h'⟩ | ⟨h, h'⟩
  · have HV := Lib.hid (show (if 0 ≤ c ∧ c ≤ 1114111 then getG lB 0 c else 13) = 13 from if_neg (by omega))
    go_enter Tryz.func9, Tryz.ntmps9
    go_wp2
    go_ret
    exact ⟨by first | rfl | exact retI HV.out.symm, Below.refl _ _⟩
  · have HV := Lib.hid (show (if 0 ≤ c ∧ c ≤ 1114111 then getG lB 0 c else 13) = 13 from if_neg (by omega))
    go_enter Tryz.func9, Tryz.ntmps9
    go_wp2
    go_ret
    exact ⟨by first | rfl | exact retI HV.out.symm, Below.refl _ _⟩
  · have HV := Lib.hid (show (if 0 ≤ c ∧ c ≤ 1114111 then getG lB 0 c else 13) = getG lB 0 c from if_pos ⟨h, h'⟩)
    go_enter Tryz.func9, Tryz.ntmps9
    go_wp2_with fail
    refine (CB.out _).mono ?_
    rintro e w1 ⟨rfl, hw1⟩
    have hr := rd_blk (w := w1) (b := w.heap.size) (t := 67) 3 (cs := cellsG lB) (m := nB) (by rw [hw1]; exact heap_alloc_new _ _) (by rw [cellsG_len, NB.out])
    have hb1 : Below w.heap.size w w1 := by rw [hw1]; exact below_new _ _
    have HR := Lib.hid hr
    clear hw1 hr
    go_wp2_with fail
    refine (refGetG_any (some ⟨w.heap.size, 0, none⟩) nB nB lB 0 c w1 HR.out (by unfold maxLen; omega)).mono ?_
    rintro e w2 ⟨rfl, rfl⟩
    go_wp2
    go_ret
    exact ⟨by first | rfl | exact retI HV.out.symm, hb1⟩
theorem refClass_any (c v : Int) (hv : classF c = v) (w : World) : Calls Tryz.prog 9 #[.int .i64 c] w fun e w' => e = .returned (.int .i64 v) ∧ Below w.heap.size w w' := by
  rw [← hv]
  exact refClass_gen bidiL 230 bidiRanges_any (by decide +kernel) (by omega) c w
end Go.Proofs.YtpddjojgcenlkaaGreat
/- The reference's Classes, walked. -/
namespace Go.Proofs.YtpddjojgcenlkaaGreat
open Go.RowKit

theorem intSliceK : SliceOf Tryz.prog 22 3 1 8 := .mk_ (z := .int .i64 0) Tryz.underlying22 (by kernel_rfl) rfl
theorem oneK (x : Int) : ∀ u ∈ [Value.int .i64 x], u.oneCell' = true := by
  intro u hu
  simp at hu
  subst hu
  rfl
set_option maxRecDepth 100000 in
set_option maxHeartbeats 1000000 in
theorem refClasses_any (A : Option Addr) (n c : Nat) (xs : List Int) (w : World) (hr : Rd w 1 A n (xs.map (Value.int .i64))) (hn : n ≤ 100000) :
    Calls Tryz.prog 7 #[.slice A n c] w fun e w' => ∃ v, e = .returned v ∧ w'.ownsRow w.heap.size 3 1 v n ((xs.map classF).map (Value.int .i64)) ∧ Below w.heap.size w w' := by
  have hlen : xs.length = n := by simpa using hr.len1
  have HL := Lib.hid hlen
  have HR := Lib.hid hr
  clear hlen hr
  go_enter Tryz.func7, Tryz.ntmps7
  go_wp2_with fail
  go_loopw [3, 4] (fun v i wr => ∃ k : Nat, k ≤ n ∧ i = .int .i64 (k : Int) ∧ wr.ownsRow w.heap.size 3 1 v k (((xs.take k).map classF).map (Value.int .i64)) ∧ Below w.heap.size w wr) (fun _ i _ => n - (intOf i).toNat)
  case atStart => exact ⟨0, Nat.zero_le _, rfl, ⟨rfl, .inl ⟨rfl, rfl⟩⟩, Below.refl _ _⟩
  case round =>
    obtain ⟨k, hk, rfl, hv, hb⟩ := hrel
    obtain ⟨V, cv, rfl, hcv⟩ := own_form hv
    by_cases hlt : k < n
    · obtain ⟨x, hx⟩ : ∃ x, xs[k]? = some x := ⟨_, List.getElem?_eq_getElem (by rw [HL.out]; exact hlt)⟩
      obtain ⟨ad, rfl, _, hc⟩ := (HR.out.below hb).at_ hlt
      have cx := hc (.int .i64 x) (by rw [List.getElem?_map, hx]; rfl)
      obtain ⟨y, hy⟩ : ∃ y, classF x = y := ⟨_, rfl⟩
      have HC := Lib.hid (fun W => refClass_any x y hy W)
      have HS := Lib.hid (show (xs.take (k + 1)).map classF = (xs.take k).map classF ++ [y] by rw [List.take_add_one, hx]; simp [hy])
      have HV := Lib.hid hv
      have HB := Lib.hid hb
      have hk5 : k ≤ 100000 := by omega
      clear hc hx hy hv hb
      go_wp2_with fail
      refine (HC.out _).mono ?_
      rintro e w2 ⟨rfl, hb2⟩
      have HV2 := Lib.hid (own_below HV.out hb2)
      have HB2 := Lib.hid (below_self HB.out hb2)
      clear hb2 cx
      go_wp2_with (first
        | (at_builtin; go_loud (refine wpList_app rfl _ _ _ rfl intSliceK (by decide) (.slice V k cv) k _ rfl (HV2.out.alloc _) ⟨w2.heap.size, 0, none⟩ 1 1 [.int .i64 y] rfl rfl (cells_new w2 [_] _) (oneK _) (by omega) (by unfold maxLen; omega) (by have := HB2.out.size; simp; omega) ?_; intro v3 w3 hown3 hg3 hat3))
        | fail)
      have HB3 := Lib.hid (below_app (below_self HB2.out (below_new w2 _)) hg3 (HV2.out.alloc _) (by have := HB2.out.size; simp; omega))
      have HV3 := Lib.hid (show w3.ownsRow w.heap.size 3 1 v3 (k + 1) (((xs.take (k + 1)).map classF).map (Value.int .i64)) by rw [HS.out, List.map_append]; exact hown3)
      clear hown3 hg3 hat3
      go_wp2_with fail
      go_roundw
      case rel => exact ⟨k + 1, by omega, by go_num, HV3.out, HB3.out⟩
      case measure => simp [intOf]; omega
    · have HV := Lib.hid (by have := hv; rwa [show k = n by omega, List.take_of_length_le (by rw [HL.out]; exact Nat.le_refl _)] at this)
      have HB := Lib.hid hb
      obtain rfl : k = n := by omega
      clear hv hb
      go_wp2_with fail
      go_ret
      exact ⟨_, rfl, HV.out, HB.out⟩
end Go.Proofs.YtpddjojgcenlkaaGreat
