/- Texts of one claim, one behind the other. -/
import Derived.Maps.OwnSet
import Derived.Maps.Views
import Derived.Laws.MakeOwn
import Derived.Laws.StructEq
import Derived.Test.YtcbiaeeifclieaaMgCL1
import Derived.Test.YtcbiaeeifclieaaMgCL2
/- Clusters as data: the cells of a slice of clusters. -/
namespace Go.Proofs.Ytcbiaeeifclieaa
open Go.RowKit

/-- A cluster: In, Out. -/
abbrev Cl := Sp × Sp
def encC (c : Cl) : List Value := [.int .i64 c.1.1, .int .i64 c.1.2, .int .i64 c.2.1, .int .i64 c.2.2]
def cellsC (l : List Cl) : List Value := l.flatMap encC
theorem cellsC_snoc (l : List Cl) (c : Cl) : cellsC (l ++ [c]) = cellsC l ++ [.int .i64 c.1.1, .int .i64 c.1.2, .int .i64 c.2.1, .int .i64 c.2.2] := by simp [cellsC, encC]
theorem cellsC_len (l : List Cl) : (cellsC l).length = l.length * 4 := by
  induction l with
  | nil => rfl
  | cons s l ih =>
    show (encC s ++ cellsC l).length = _
    rw [List.length_append, ih, List.length_cons]
    simp only [encC, List.length_cons, List.length_nil]
    omega
theorem cellsC_at {l : List Cl} {k : Nat} {s : Cl} (h : l[k]? = some s) : (cellsC l)[k * 4]? = some (.int .i64 s.1.1) ∧ (cellsC l)[k * 4 + 1]? = some (.int .i64 s.1.2) ∧ (cellsC l)[k * 4 + 2]? = some (.int .i64 s.2.1) ∧ (cellsC l)[k * 4 + 3]? = some (.int .i64 s.2.2) := by
  induction l generalizing k with
  | nil => simp at h
  | cons t l ih =>
    have hc : cellsC (t :: l) = .int .i64 t.1.1 :: .int .i64 t.1.2 :: .int .i64 t.2.1 :: .int .i64 t.2.2 :: cellsC l := rfl
    cases k with
    | zero =>
      simp at h
      subst h
      exact ⟨rfl, rfl, rfl, rfl⟩
    | succ k =>
      have := ih (k := k) (by simpa using h)
      rw [hc]
      have e0 : (k + 1) * 4 = k * 4 + 1 + 1 + 1 + 1 := by omega
      have e1 : (k + 1) * 4 + 1 = (k * 4 + 1) + 1 + 1 + 1 + 1 := by omega
      have e2 : (k + 1) * 4 + 2 = (k * 4 + 2) + 1 + 1 + 1 + 1 := by omega
      have e3 : (k + 1) * 4 + 3 = (k * 4 + 3) + 1 + 1 + 1 + 1 := by omega
      rw [e3, e2, e1, e0]
      simpa using this
/-- The four cells of a cluster in a slice, as the walk spells them. -/
theorem Rd.clus {w : World} {A : Option Addr} {n k : Nat} {l : List Cl} {s : Cl} (hr : Rd w 4 A n (cellsC l)) (h : l[k]? = some s) : ∃ ad, A = some ad ∧ ad.block < w.heap.size ∧ w.cell? (ad.add (k * 4)) = some (.int .i64 s.1.1) ∧
    w.cell? ⟨(ad.add (k * 4)).block, (ad.add (k * 4)).off + 1, none⟩ = some (.int .i64 s.1.2) ∧ w.cell? ⟨(ad.add (k * 4)).block, (ad.add (k * 4)).off + 2, none⟩ = some (.int .i64 s.2.1) ∧ w.cell? ⟨(ad.add (k * 4)).block, (ad.add (k * 4)).off + 3, none⟩ = some (.int .i64 s.2.2) := by
  have hlen : l.length * 4 = n * 4 := by rw [← cellsC_len]; exact hr.1
  have hk := (List.getElem?_eq_some_iff.1 h).1
  obtain ⟨ad, rfl, hb, hc⟩ := hr.2 (by omega)
  obtain ⟨e0, e1, e2, e3⟩ := cellsC_at h
  have h1 := hc _ _ e1
  have h2 := hc _ _ e2
  have h3 := hc _ _ e3
  rw [addNext ad (k * 4) 0] at h1
  rw [addNext ad (k * 4) 1] at h2
  rw [addNext ad (k * 4) 2] at h3
  exact ⟨ad, rfl, hb, hc _ _ e0, h1, h2, h3⟩
theorem oneInt4 (k : IntKind) (a b c d : Int) : ∀ u ∈ [Value.int k a, .int k b, .int k c, .int k d], u.oneCell' = true := by
  intro u hu
  simp at hu
  rcases hu with rfl | rfl | rfl | rfl <;> rfl
theorem clusSlice : SliceOf Try.prog 40 45 4 32 := .mk_ (z := .agg #[.int .i64 0, .int .i64 0, .int .i64 0, .int .i64 0]) Try.underlying40 (by kernel_rfl) rfl


theorem clusInfo : (Try.prog.info? 45).map (fun i => (i.zero, i.size, i.bytes)) = some (some (.agg #[.int .i64 0, .int .i64 0, .int .i64 0, .int .i64 0]), 4, 32) := by kernel_rfl
/-- A row of clusters while its first k elements are filled. -/
def fillC (l : List Cl) (k : Nat) : List Value := cellsC (l.take k) ++ List.replicate ((l.length - k) * 4) (.int .i64 0)
theorem fillC_start (l : List Cl) : fillC l 0 = List.replicate (l.length * 4) (.int .i64 0) := by simp [fillC, cellsC]
theorem fillC_end (l : List Cl) : fillC l l.length = cellsC l := by simp [fillC]
theorem fillC_step {l : List Cl} {k : Nat} {s : Cl} (h : l[k]? = some s) : ((((fillC l k).set (k * 4) (.int .i64 s.1.1)).set (k * 4 + 1) (.int .i64 s.1.2)).set (k * 4 + 2) (.int .i64 s.2.1)).set (k * 4 + 3) (.int .i64 s.2.2) = fillC l (k + 1) := by
  have hlt := (List.getElem?_eq_some_iff.1 h).1
  have hc : (cellsC (l.take k)).length = k * 4 := by rw [cellsC_len, List.length_take]; omega
  have hs : cellsC (l.take (k + 1)) = cellsC (l.take k) ++ [.int .i64 s.1.1, .int .i64 s.1.2, .int .i64 s.2.1, .int .i64 s.2.2] := by rw [List.take_add_one, h]; simp [cellsC, encC]
  unfold fillC
  obtain ⟨m, hm⟩ : ∃ m, l.length - k = m + 1 := ⟨l.length - k - 1, by omega⟩
  have hm2 : l.length - (k + 1) = m := by omega
  rw [hm, hm2, hs, show (m + 1) * 4 = m * 4 + 1 + 1 + 1 + 1 by omega, List.replicate_succ, List.replicate_succ, List.replicate_succ, List.replicate_succ,
    List.set_append_right _ _ (by omega), hc, Nat.sub_self, List.set_cons_zero, List.set_append_right _ _ (by omega), hc, show k * 4 + 1 - k * 4 = 1 by omega, List.set_append_right _ _ (by omega), hc, show k * 4 + 2 - k * 4 = 2 by omega, List.set_append_right _ _ (by omega), hc, show k * 4 + 3 - k * 4 = 3 by omega]
  simp
end Go.Proofs.Ytcbiaeeifclieaa
/- A map of spans that the call itself has made, as a function of the place: looked up, stored, deleted. -/
namespace Go.Proofs.Ytcbiaeeifclieaa
open Go.RowKit

def spanD (s : Sp) : DataW Unit := .agg [.lit (.int .i64 s.1), .lit (.int .i64 s.2)]
/-- How a span in a map reads. -/
def spanElem : Value → Option (DataW Unit × List MemPlace)
  | .agg ⟨[.int .i64 a, .int .i64 b]⟩ => some (spanD (a, b), [])
  | _ => none
theorem spanElem_mk (s : Sp) : spanElem (valS s) = some (spanD s, []) := rfl
theorem spanElem_inv {v : Value} {z : DataW Unit × List MemPlace} (h : spanElem v = some z) : ∃ s : Sp, v = valS s ∧ z = (spanD s, []) := by
  unfold spanElem at h
  split at h
  · rename_i a b
    exact ⟨(a, b), rfl, (Option.some.inj h).symm⟩
  · simp at h
theorem spanD_inj {s t : Sp} (h : spanD s = spanD t) : s = t := by
  unfold spanD at h
  simp only [DataW.agg.injEq, List.cons.injEq, DataW.lit.injEq, Lit.int.injEq, true_and, and_true] at h
  exact Prod.ext h.1 h.2
theorem key_wf {k : Nat} (h : k ≤ 100000000) : (Lit.int .i64 (k : Int)).wf = true := by
  simp [Lit.wf, IntKind.min, IntKind.max, IntKind.signed, IntKind.bits]; omega
/-- How many places below n have a span. -/
def cntM (M : Nat → Option Sp) : Nat → Nat
  | 0 => 0
  | n + 1 => cntM M n + (if (M n).isSome = true then 1 else 0)
theorem cntM_le (M : Nat → Option Sp) (n : Nat) : cntM M n ≤ n := by
  induction n with
  | zero => exact Nat.le_refl _
  | succ n ih => unfold cntM; split <;> omega
def putM (M : Nat → Option Sp) (k : Nat) (s : Sp) : Nat → Option Sp := fun j => if j = k then some s else M j
def delM (M : Nat → Option Sp) (k : Nat) : Nat → Option Sp := fun j => if j = k then none else M j
theorem cntM_far {M N : Nat → Option Sp} {n : Nat} (h : ∀ j, j < n → M j = N j) : cntM M n = cntM N n := by
  induction n with
  | zero => rfl
  | succ n ih => unfold cntM; rw [ih (fun j hj => h j (by omega)), h n (by omega)]
theorem cntM_put {M : Nat → Option Sp} {n k : Nat} (hk : k < n) (s : Sp) : cntM (putM M k s) n = if (M k).isSome = true then cntM M n else cntM M n + 1 := by
  induction n with
  | zero => omega
  | succ n ih =>
    by_cases e : k = n
    · subst e
      unfold cntM
      rw [cntM_far (M := putM M k s) (N := M) (fun j hj => if_neg (by omega)), show putM M k s k = some s from if_pos rfl]
      cases hm : (M k).isSome <;> simp
    · have h1 := ih (by omega)
      unfold cntM
      rw [h1, show putM M k s n = M n from if_neg (fun h => e h.symm)]
      cases hm : (M k).isSome <;> simp <;> omega
theorem cntM_del {M : Nat → Option Sp} {n k : Nat} (hk : k < n) : cntM (delM M k) n + (if (M k).isSome = true then 1 else 0) = cntM M n := by
  induction n with
  | zero => omega
  | succ n ih =>
    by_cases e : k = n
    · subst e
      unfold cntM
      rw [cntM_far (M := delM M k) (N := M) (fun j hj => if_neg (by omega)), show delM M k k = none from if_pos rfl]
      simp
    · have h1 := ih (by omega)
      unfold cntM
      rw [show delM M k n = M n from if_neg (fun h => e h.symm)]
      omega
/-- Block m is a map of places below n that has these spans. -/
def MapAt (w : World) (m n : Nat) (M : Nat → Option Sp) : Prop :=
  (∃ D : DataW Unit, w.ownsMap Try.prog 3 spanElem m n D ∧ Maps.size D = cntM M n ∧ ∀ k : Nat, Maps.has D (.int .i64 (k : Int)) = (M k).isSome ∧ D.atKey (.int .i64 (k : Int)) (spanD (0, 0)) = spanD ((M k).getD (0, 0)))
section
variable {w w' : World} {m n : Nat} {M : Nat → Option Sp}
theorem MapAt.drew (h : MapAt w m n M) : MapAt w.drew m n M := h
theorem MapAt.lt (h : MapAt w m n M) : m < w.heap.size := by obtain ⟨D, h, _⟩ := h; exact h.lt
theorem MapAt.heap (h : MapAt w m n M) (he : w'.heap[m]? = w.heap[m]?) : MapAt w' m n M := by
  obtain ⟨D, ⟨es, clock, h1, h2, h3, h4⟩, h5⟩ := h
  exact ⟨D, ⟨es, clock, he.trans h1, h2, h3, h4⟩, h5⟩
theorem MapAt.kept {S : List Nat} (h : MapAt w m n M) (hk : Kept w w' S) (hs : m ∉ S) : MapAt w' m n M := h.heap (hk.block m h.lt hs)
theorem fit_none : WideElems.Fit Try.prog 3 spanElem #[] 0 := by
  obtain ⟨es, clock, h1, h2, _⟩ := World.ownsMap_made (default : World) Try.prog 3 spanElem
  rw [heap_alloc_new] at h1
  injection h1 with h1
  injection h1 with h1 h3
  subst h1 h3
  exact h2
theorem cntM_none (n : Nat) : cntM (fun _ => none) n = 0 := by
  induction n with
  | zero => rfl
  | succ n ih => unfold cntM; rw [ih]; rfl
theorem MapAt.none_ (h : w.heap[m]? = some (.map #[] 0)) (n : Nat) : MapAt w m n (fun _ => none) :=
  ⟨.map [], ⟨#[], 0, h, fit_none, Nat.zero_le _, by simp⟩, by rw [cntM_none]; rfl, fun k => ⟨rfl, rfl⟩⟩
theorem own_fit {k : TypeId} {R : Value → Option (DataW Unit × List MemPlace)} {b c : Nat} {D : DataW Unit} (h : w.ownsMap Try.prog k R b c D) {c' : Nat} (hc : Maps.size D ≤ c') : w.ownsMap Try.prog k R b c' D := by
  obtain ⟨es, clock, h1, h2, h3, rfl⟩ := h
  refine ⟨es, clock, h1, h2, ?_, rfl⟩
  have := length_read (P := Try.prog) (k := k) (R0 := R) es
  unfold Maps.size at hc
  simp only [this] at hc
  exact hc
theorem int_map : Maps.Keyed Try.prog 3 := Maps.int_keyed Try.underlying3
theorem map_type : Try.prog.underlying 124 = some (.map 3 33) := Try.underlying124
theorem span_zero (w : World) : (zeroValue 33).run Try.prog w = .ok (valS (0, 0)) w := Try.zeroValue33 w
theorem MapAt.look (h : MapAt w m n M) {k : Nat} (hk : k ≤ 100000000) : (Instr.lookup 124 (.map (some m)) (.int .i64 (k : Int)) false).run Try.prog w = .ok (valS ((M k).getD (0, 0))) w := by
  obtain ⟨D, h1, _, h2⟩ := h
  obtain ⟨v, ps, hrun, hv⟩ := h1.lookup int_map map_type (span_zero w) (spanElem_mk (0, 0)) (Maps.keyOf_int_mk Try.underlying3 (key_wf hk))
  obtain ⟨s, rfl, hz⟩ := spanElem_inv hv
  rw [(h2 k).2] at hz
  rw [hrun, spanD_inj (congrArg Prod.fst hz)]
theorem MapAt.look_ok (h : MapAt w m n M) {k : Nat} (hk : k ≤ 100000000) : (Instr.lookup 124 (.map (some m)) (.int .i64 (k : Int)) true).run Try.prog w = .ok (.tuple #[valS ((M k).getD (0, 0)), .bool (M k).isSome]) w := by
  obtain ⟨D, h1, _, h2⟩ := h
  obtain ⟨v, ps, hrun, hv⟩ := h1.look_ok int_map map_type (span_zero w) (spanElem_mk (0, 0)) (Maps.keyOf_int_mk Try.underlying3 (key_wf hk))
  obtain ⟨s, rfl, hz⟩ := spanElem_inv hv
  rw [(h2 k).2] at hz
  rw [hrun, (h2 k).1, spanD_inj (congrArg Prod.fst hz)]
set_option maxRecDepth 100000 in
theorem MapAt.store (h : MapAt w m n M) {k : Nat} (hk : k < n) (hc : n ≤ 100000000) (s : Sp) : ∃ w', (Instr.mapUpdate 124 (.map (some m)) (.int .i64 (k : Int)) (valS s)).run Try.prog w = .ok () w' ∧ MapAt w' m n (putM M k s) ∧ w.mapTurned w' m := by
  obtain ⟨D, h1, hsz, h2⟩ := h
  have hl : WideAt.IsKeyLit (.int .i64 (k : Int)) := trivial
  have htd := h1.tidy int_map
  obtain ⟨w', hrun, h3, h4⟩ := h1.store int_map map_type (by unfold maxLen; omega) (Maps.keyOf_int_mk Try.underlying3 (key_wf (k := k) (by omega))) (spanElem_mk s)
  have hsz2 : Maps.size (D.put (.int .i64 (k : Int)) (spanD s)) = cntM (putM M k s) n := by
    rw [Maps.size_put htd, (h2 k).1, hsz, cntM_put hk]
  refine ⟨w', hrun, ⟨_, own_fit h3 (by rw [hsz2]; exact cntM_le _ _), hsz2, fun j => ?_⟩, h4⟩
  unfold putM
  by_cases e : j = k
  · subst e
    rw [if_pos rfl]
    exact ⟨Maps.has_put_same h1.isMap hl _, Maps.atKey_put_same h1.isMap hl _ _⟩
  · rw [if_neg e]
    have hne : (Lit.int .i64 (j : Int)) ≠ .int .i64 (k : Int) := fun e9 => e (by have := (Lit.int.inj e9).2; omega)
    exact ⟨(Maps.has_put_other hne _).trans (h2 j).1, (Maps.atKey_put_other hne _ _).trans (h2 j).2⟩
set_option maxRecDepth 100000 in
theorem MapAt.drop (h : MapAt w m n M) {k : Nat} (hk : k < n) (hc : n ≤ 100000000) (ty : TypeId) : ∃ w', (Builtin.delete_ #[124, 3] ty #[.map (some m), .int .i64 (k : Int)]).run Try.prog w = .ok (.tuple #[]) w' ∧ MapAt w' m n (delM M k) ∧ w.mapTurned w' m := by
  obtain ⟨D, h1, hsz, h2⟩ := h
  have htd := h1.tidy int_map
  obtain ⟨w', hrun, h3, h4⟩ := h1.drop int_map map_type (Maps.keyOf_int_mk Try.underlying3 (key_wf (k := k) (by omega))) ty
  have hsz2 : Maps.size (D.del (.int .i64 (k : Int))) = cntM (delM M k) n := by
    have e1 := Maps.size_del (k := .int .i64 (k : Int)) htd
    have e2 := cntM_del (M := M) hk
    rw [(h2 k).1] at e1
    omega
  refine ⟨w', hrun, ⟨_, h3, hsz2, fun j => ?_⟩, h4⟩
  unfold delM
  by_cases e : j = k
  · subst e
    rw [if_pos rfl]
    exact ⟨Maps.has_del_same, Maps.atKey_del_same _⟩
  · rw [if_neg e]
    have hne : (Lit.int .i64 (j : Int)) ≠ .int .i64 (k : Int) := fun e9 => e (by have := (Lit.int.inj e9).2; omega)
    exact ⟨(Maps.has_del_other hne).trans (h2 j).1, (Maps.atKey_del_other hne _).trans (h2 j).2⟩
theorem kept_turned (h : w.mapTurned w' m) : Kept w w' [m] := Kept.of_grown h.grown (List.mem_singleton_self _)
end
end Go.Proofs.Ytcbiaeeifclieaa
/- The hull of spans, as plain mathematics. -/
namespace Go.Proofs.Ytcbiaeeifclieaa
open Go.RowKit
/-- The span around two. -/
def hullMore (st s : Sp) : Sp := (if s.1 < st.1 then s.1 else st.1, if st.2 < s.2 then s.2 else st.2)
def hullStep (st s : Sp) : Sp := if rightB s = true then hullMore (if rightB st = true then st else s) s else st
def hullS (l : List Sp) : Sp := l.foldl hullStep (0, 0)
end Go.Proofs.Ytcbiaeeifclieaa
/- The project's Parts of spans. -/
namespace Go.Proofs.Ytcbiaeeifclieaa
open Go.RowKit

set_option maxRecDepth 100000 in
set_option maxHeartbeats 1000000 in
theorem prParts_any (A : Option Addr) (n c : Nat) (l : List Sp) (m : Int) (w : World) (hr : Rd w 2 A n (cellsS l)) (hn : n ≤ maxLen) :
    Calls Try.prog 25 #[.slice A n c, .int .i64 m] w fun e w' => e = .returned (.bool (partsS l m)) ∧ Below w.heap.size w w' := by
  have hlen : l.length = n := by have := hr.1; rw [cellsS_len] at this; omega
  have HL := Lib.hid hlen
  clear hlen
  unfold maxLen at hn
  go_enter Try.func25, Try.ntmps25
  go_wp2
  go_loopw [5, 10] (fun e i wr => ∃ (k : Nat) (x : Int), k ≤ n ∧ i = .int .i64 k ∧ e = .int .i64 x ∧ partsS l m = partsFrom x (l.drop k) m ∧ Below w.heap.size w wr) (fun _ i _ => n - (intOf i).toNat)
  case atStart => exact ⟨0, 0, Nat.zero_le _, rfl, rfl, rfl, Below.refl _ _⟩
  case round =>
    obtain ⟨k, x, hk, rfl, rfl, hp, hb⟩ := hrel
    have HP := Lib.hid hp
    clear hp
    by_cases hlt : k < n
    · obtain ⟨s, hsk⟩ : ∃ s, l[k]? = some s := ⟨_, List.getElem?_eq_getElem (by rw [HL.out]; exact hlt)⟩
      obtain ⟨ad, rfl, hab, c1, c2⟩ := (hr.below hb).span hsk
      have HD := Lib.hid (dropCons hsk)
      clear hsk
      obtain ⟨lo, hi⟩ := s
      simp only at c1 c2
      go_wp2_with fail
      refine (prRight_any lo hi _).mono ?_
      rintro e w1 ⟨rfl, hb1⟩
      have hb2 := hb.trans ((below_self (below_new wr _) hb1).mono hb.size)
      have d1 : w1.cell? ⟨wr.heap.size, 0, none⟩ = some (.int .i64 lo) := cell_below hb1 (by rw [World.cell?_alloc_at _ _ _ _ rfl]; rfl)
      have d2 : w1.cell? ⟨wr.heap.size, 1, none⟩ = some (.int .i64 hi) := cell_below hb1 (by rw [World.cell?_alloc_at _ _ _ _ rfl]; rfl)
      clear hb1 c1 c2
      cases hr1 : rightB (lo, hi) with
      | false =>
        have HF := Lib.hid (show partsS l m = false by rw [HP.out, HD.out]; exact partsFrom_no (.inl hr1))
        go_wp2
        go_ret
        exact ⟨retB (by simp [HF.out]), hb2⟩
      | true =>
        cases he : (lo == x) with
        | false =>
          have hne : (lo != x) = true := by simpa using he
          have HF := Lib.hid (show partsS l m = false by rw [HP.out, HD.out]; exact partsFrom_no (.inr he))
          go_wp2
          go_ret
          exact ⟨retB (by simp [HF.out]), hb2⟩
        | true =>
          have hne : (lo != x) = false := by simpa using he
          have HF := Lib.hid (show partsS l m = partsFrom hi (l.drop (k + 1)) m by rw [HP.out, HD.out]; exact partsFrom_yes hr1 he)
          go_wp2
          go_roundw
          case rel => exact ⟨k + 1, hi, by omega, by go_num, rfl, HF.out, hb2⟩
          case measure => simp [intOf]; omega
    · have HF := Lib.hid (show partsS l m = (x == m) by rw [HP.out, List.drop_eq_nil_of_le (by rw [HL.out]; omega)]; rfl)
      go_wp2
      go_ret
      exact ⟨retB (by simp [HF.out]), hb⟩
end Go.Proofs.Ytcbiaeeifclieaa
/- prHas_any. -/
namespace Go.Proofs.Ytcbiaeeifclieaa
open Go.RowKit

theorem prHas_any (lo hi p : Int) (w : World) :
    Calls Try.prog 46 #[.agg #[.int .i64 lo, .int .i64 hi], .int .i64 p] w fun e w' => e = .returned (.bool (hasB (lo, hi) p)) ∧ Below w.heap.size w w' := by
  have hc : p < lo ∨ (lo ≤ p ∧ p < hi) ∨ (lo ≤ p ∧ hi ≤ p) := by omega
  rcases hc with h | ⟨h, h'⟩ | ⟨h, h'⟩ <;>
    (go_enter Try.func46, Try.ntmps46
     go_wp2
     go_ret
     refine ⟨retB ?_, below_new _ _⟩
     simp [hasB]
     try omega)

end Go.Proofs.Ytcbiaeeifclieaa
/- The reference's Groups of spans, and whether a place begins a part. -/
namespace Go.Proofs.Ytcbiaeeifclieaa
open Go.RowKit

set_option maxRecDepth 100000 in
set_option maxHeartbeats 2000000 in
theorem refParted_any (p m : Int) (A : Option Addr) (n c : Nat) (l : List Sp) (w : World) (hr : Rd w 2 A n (cellsS l)) (hn : n ≤ maxLen) :
    Calls Try.prog 70 #[.int .i64 p, .int .i64 m, .slice A n c] w fun e w' => e = .returned (.bool (partedS p m l)) ∧ Below w.heap.size w w' := by
  have hlen : l.length = n := by have := hr.1; rw [cellsS_len] at this; omega
  have HL := Lib.hid hlen
  clear hlen
  unfold maxLen at hn
  go_enter Try.func70, Try.ntmps70
  go_wp2
  go_loopw [7] (fun i wr => ∃ k : Nat, k ≤ n ∧ i = .int .i64 k ∧ (l.take k).any (acrossB p m) = false ∧ Below w.heap.size w wr) (fun i _ => n - (intOf i).toNat)
  case atStart => exact ⟨0, Nat.zero_le _, rfl, by simp, Below.refl _ _⟩
  case round =>
    obtain ⟨k, hk, rfl, hno, hb⟩ := hrel
    have HN := Lib.hid hno
    clear hno
    by_cases hlt : k < n
    · obtain ⟨s, hsk⟩ : ∃ s, l[k]? = some s := ⟨_, List.getElem?_eq_getElem (by rw [HL.out]; exact hlt)⟩
      obtain ⟨ad, rfl, hab, c1, c2⟩ := (hr.below hb).span hsk
      have HS := Lib.hid hsk
      have HT := Lib.hid (show (l.take (k + 1)).any (acrossB p m) = acrossB p m s by rw [List.take_add_one, hsk, List.any_append, HN.out]; simp)
      clear hsk
      obtain ⟨lo, hi⟩ := s
      simp only at c1 c2
      go_wp2_with fail
      refine (refRight_any lo hi _).mono ?_
      rintro e w1 ⟨rfl, hb1⟩
      have hb2 := hb.trans (Below.mono (below_self (below_new wr _) hb1) hb.size)
      have d1 : w1.cell? ⟨wr.heap.size, 0, none⟩ = some (.int .i64 lo) := cell_below hb1 (by rw [World.cell?_alloc_at _ _ _ _ rfl]; rfl)
      have d2 : w1.cell? ⟨wr.heap.size, 1, none⟩ = some (.int .i64 hi) := cell_below hb1 (by rw [World.cell?_alloc_at _ _ _ _ rfl]; rfl)
      clear hb1 c1 c2
      cases hr1 : rightB (lo, hi) with
      | false =>
        have HA := Lib.hid (show acrossB p m (lo, hi) = false by unfold acrossB; rw [hr1]; rfl)
        go_wp2
        go_roundw
        case rel => exact ⟨k + 1, by omega, by go_num, by rw [HT.out, HA.out], hb2⟩
        case measure => simp [intOf]; omega
      | true =>
        have hdec : m < hi ∨ (hi ≤ m ∧ p ≤ lo) ∨ (hi ≤ m ∧ lo < p ∧ hi ≤ p) ∨ (hi ≤ m ∧ lo < p ∧ p < hi) := by omega
        rcases hdec with h | ⟨h, h2⟩ | ⟨h, h2, h3⟩ | ⟨h, h2, h3⟩
        · have HA := Lib.hid (show acrossB p m (lo, hi) = false by unfold acrossB; rw [hr1]; simp; omega)
          go_wp2
          go_roundw
          case rel => exact ⟨k + 1, by omega, by go_num, by rw [HT.out, HA.out], hb2⟩
          case measure => simp [intOf]; omega
        · have HA := Lib.hid (show acrossB p m (lo, hi) = false by unfold acrossB; rw [hr1]; simp; omega)
          go_wp2
          go_roundw
          case rel => exact ⟨k + 1, by omega, by go_num, by rw [HT.out, HA.out], hb2⟩
          case measure => simp [intOf]; omega
        · have HA := Lib.hid (show acrossB p m (lo, hi) = false by unfold acrossB; rw [hr1]; simp; omega)
          go_wp2
          go_roundw
          case rel => exact ⟨k + 1, by omega, by go_num, by rw [HT.out, HA.out], hb2⟩
          case measure => simp [intOf]; omega
        · have HF := Lib.hid (show partedS p m l = false by
            have HA : acrossB p m (lo, hi) = true := by unfold acrossB; rw [hr1]; simp; omega
            unfold partedS
            rw [List.any_eq_true.2 ⟨_, List.mem_of_getElem? HS.out, HA⟩]; rfl)
          go_wp2
          go_ret
          exact ⟨retB (by simp [HF.out]), hb2⟩
    · have HF := Lib.hid (show partedS p m l = true by
        unfold partedS
        have := HN.out
        rw [List.take_of_length_le (by rw [HL.out]; omega)] at this
        rw [this]; rfl)
      go_wp2
      go_ret
      exact ⟨retB (by simp [HF.out]), hb⟩

set_option maxRecDepth 100000 in
set_option maxHeartbeats 2000000 in
theorem refGroups_any (m : Int) (A : Option Addr) (n c : Nat) (l : List Sp) (w : World) (hr : Rd w 2 A n (cellsS l)) (hn : n ≤ maxLen) (hm : m ≤ 1000000) :
    Calls Try.prog 50 #[.int .i64 m, .slice A n c] w fun e w' => ∃ v, e = .returned v ∧ w'.ownsRow w.heap.size 33 2 v (groupsS m l).length (cellsS (groupsS m l)) ∧ Below w.heap.size w w' := by
  go_enter Try.func50, Try.ntmps50
  go_wp2
  go_loopw [5, 6, 7] (fun v x i wr => ∃ (k : Nat) (acc : List Sp) (y : Int), k ≤ m.toNat ∧ i = .int .i64 (k + 1) ∧ x = .int .i64 y ∧ acc.length ≤ k ∧ groupsS m l = acc ++ groupsGo m l (m.toNat - k) y (k + 1) ∧ wr.ownsRow w.heap.size 33 2 v acc.length (cellsS acc) ∧ Below w.heap.size w wr) (fun _ _ i _ => (m + 1 - intOf i).toNat)
  case atStart => exact ⟨0, [], 0, Nat.zero_le _, rfl, rfl, Nat.le_refl _, rfl, ⟨rfl, .inl ⟨rfl, rfl⟩⟩, Below.refl _ _⟩
  case round =>
    obtain ⟨k, acc, y, hk, rfl, rfl, hal, hg, hown, hb⟩ := hrel
    have HG := Lib.hid hg
    clear hg
    by_cases hlt : (k : Int) + 1 ≤ m
    · obtain ⟨f, hf⟩ : ∃ f, m.toNat - k = f + 1 := ⟨m.toNat - k - 1, by omega⟩
      have hf' : m.toNat - (k + 1) = f := by omega
      have HF := Lib.hid hf
      have HF' := Lib.hid hf'
      have hk1 : k + 1 ≤ m.toNat := by omega
      clear hf hf'
      have hcast : ((k : Int) + 1 + 1) = (((k + 1 : Nat) : Int) + 1) := by omega
      have HC := Lib.hid hcast
      clear hcast
      by_cases he : (k : Int) + 1 = m
      · have HY := Lib.hid (groupsGo_yes (l := l) (f := f) (lo := y) (.inl he))
        have he' : ((k : Int) + 1 == m) = true := by simpa using he
        clear he
        go_wp2_with (at_builtin; refine wpList_app rfl _ _ _ rfl spanSlice (by decide) u5 acc.length _ rfl (hown.alloc _) ⟨wr.heap.size, 0, none⟩ 1 1 [.int .i64 y, .int .i64 ((k : Int) + 1)] rfl rfl (cells_new wr [_, _] _) (oneInt2 _ _ _) (by omega) (by unfold maxLen; omega) (Nat.le_trans hb.size (by simp)) ?_; intro v1 w1 hown1 hg1 hat1)
        have hgr := below_app (hb.alloc hb.size _) hg1 (hown.alloc _) (Nat.le_trans hb.size (by simp))
        go_roundw
        case rel => exact ⟨k + 1, acc ++ [(y, (k : Int) + 1)], (k : Int) + 1, hk1, by rw [← HC.out], rfl, by simp; omega, by rw [HG.out, HF.out, HY.out, HF'.out, ← HC.out]; simp, by rw [cellsS_snoc, List.length_append]; exact hown1, hgr⟩
        case measure => simp [intOf]; omega
      · have he' : ((k : Int) + 1 == m) = false := by simpa using he
        go_wp2_with fail
        refine (refParted_any _ m A n c l _ (hr.below hb) hn).mono ?_
        rintro e w1 ⟨rfl, hb1⟩
        have hb2 := hb.trans (hb1.mono hb.size)
        have hown2 := hown.kept (w' := w1) (row := none) ⟨hb1.os, hb1.tape, hb1.output, hb1.size, fun j hj _ => hb1.block j hj⟩ (by rcases u5.ownBlock with _ | _ <;> simp)
        clear hb1 hown hb
        cases hp : partedS ((k : Int) + 1) m l with
        | true =>
          have HY := Lib.hid (groupsGo_yes (l := l) (f := f) (lo := y) (n := m) (p := (k : Int) + 1) (.inr hp))
          clear he
          go_wp2_with (at_builtin; refine wpList_app rfl _ _ _ rfl spanSlice (by decide) u5 acc.length _ rfl (hown2.alloc _) ⟨w1.heap.size, 0, none⟩ 1 1 [.int .i64 y, .int .i64 ((k : Int) + 1)] rfl rfl (cells_new w1 [_, _] _) (oneInt2 _ _ _) (by omega) (by unfold maxLen; omega) (Nat.le_trans hb2.size (by simp)) ?_; intro v1 w3 hown1 hg1 hat1)
          have hgr := below_app (hb2.alloc hb2.size _) hg1 (hown2.alloc _) (Nat.le_trans hb2.size (by simp))
          go_roundw
          case rel => exact ⟨k + 1, acc ++ [(y, (k : Int) + 1)], (k : Int) + 1, hk1, by rw [← HC.out], rfl, by simp; omega, by rw [HG.out, HF.out, HY.out, HF'.out, ← HC.out]; simp, by rw [cellsS_snoc, List.length_append]; exact hown1, hgr⟩
          case measure => simp [intOf]; omega
        | false =>
          have HY := Lib.hid (groupsGo_no (l := l) (f := f) (lo := y) (n := m) (p := (k : Int) + 1) (fun h => by rcases h with h | h; exact he h; rw [hp] at h; cases h))
          clear he
          go_wp2
          go_roundw
          case rel => exact ⟨k + 1, acc, y, hk1, by rw [← HC.out], rfl, by omega, by rw [HG.out, HF.out, HY.out, HF'.out, ← HC.out], hown2, hb2⟩
          case measure => simp [intOf]; omega
    · have HZ := Lib.hid (show groupsS m l = acc by rw [HG.out, show m.toNat - k = 0 by omega]; simp [groupsGo])
      go_wp2
      go_ret
      exact ⟨u5, rfl, by rw [HZ.out]; exact hown, hb⟩
end Go.Proofs.Ytcbiaeeifclieaa
/- The reference's least and same, on a row of numbers of the caller's own. -/
namespace Go.Proofs.Ytcbiaeeifclieaa
open Go.RowKit

/-- All from lo on, below k, is v. -/
def setTo (xs : List Int) (lo k : Nat) (v : Int) : List Int := xs.take lo ++ List.replicate (k - lo) v ++ xs.drop k
theorem setTo_len {xs : List Int} {lo k : Nat} (v : Int) (h : lo ≤ k) (hk : k ≤ xs.length) : (setTo xs lo k v).length = xs.length := by
  simp [setTo]; omega
theorem setTo_start (xs : List Int) (lo : Nat) (v : Int) : setTo xs lo lo v = xs := by simp [setTo]
theorem setTo_at {xs : List Int} {lo k : Nat} {x : Int} (v : Int) (h : lo ≤ k) (hx : xs[k]? = some x) : (setTo xs lo k v)[k]? = some x := by
  have hk := (List.getElem?_eq_some_iff.1 hx).1
  have hl : (xs.take lo ++ List.replicate (k - lo) v).length = k := by simp; omega
  unfold setTo
  rw [List.getElem?_append_right (by omega), hl, List.getElem?_drop]
  simpa using hx
theorem setTo_step {xs : List Int} {lo k : Nat} {x : Int} (v : Int) (h : lo ≤ k) (hx : xs[k]? = some x) : (setTo xs lo k v).set k v = setTo xs lo (k + 1) v := by
  have hk := (List.getElem?_eq_some_iff.1 hx).1
  have hl : (xs.take lo ++ List.replicate (k - lo) v).length = k := by simp; omega
  unfold setTo
  rw [List.set_append_right _ _ (by omega), hl, dropCons hx]
  have e : k + 1 - lo = (k - lo) + 1 := by omega
  rw [e, List.replicate_succ']
  simp
theorem setTo_same {xs : List Int} {lo k : Nat} {v : Int} (h : lo ≤ k) (hx : xs[k]? = some v) : setTo xs lo (k + 1) v = setTo xs lo k v := by
  rw [← setTo_step v h hx]
  exact List.set_getElem?_self' (setTo_at v h hx)
where
  List.set_getElem?_self' {l : List Int} {k : Nat} {v : Int} (h : l[k]? = some v) : l.set k v = l := by
    apply List.ext_getElem?
    intro i
    rw [List.getElem?_set]
    split
    · rename_i e; subst e
      have hk := (List.getElem?_eq_some_iff.1 h).1
      rw [if_pos hk]
      exact h.symm
    · rfl
theorem grown_two {a b c : World} {row : Option Nat} (h : a.grownBy b row) (k : b.grownBy c row) : a.grownBy c row :=
  ⟨k.os.trans h.os, k.tape.trans h.tape, k.output.trans h.output, Nat.le_trans h.size k.size, fun i hi hne => (k.block i (Nat.lt_of_lt_of_le hi h.size) hne).trans (h.block i hi hne)⟩
/-- Whether something from lo on, below k, is not v. -/
def changedB (xs : List Int) (lo k : Nat) (v : Int) : Bool := ((xs.drop lo).take (k - lo)).any fun x => x != v
theorem changedB_step {xs : List Int} {lo k : Nat} {x : Int} (v : Int) (h : lo ≤ k) (hx : xs[k]? = some x) : changedB xs lo (k + 1) v = (changedB xs lo k v || (x != v)) := by
  unfold changedB
  have e : k + 1 - lo = (k - lo) + 1 := by omega
  have hd : (xs.drop lo)[k - lo]? = some x := by rw [List.getElem?_drop, show lo + (k - lo) = k by omega]; exact hx
  rw [e, List.take_add_one, hd, List.any_append]
  simp

set_option maxRecDepth 100000 in
set_option maxHeartbeats 2000000 in
theorem refSame_any (base g c n lo hi : Nat) (xs : List Int) (v : Int) (w : World) (hxn : xs.length = n) (hown : w.ownsRow base 3 1 (.slice (some ⟨g, 0, none⟩) n c) n (xs.map (Value.int .i64))) (hbase : base ≤ w.heap.size) (hlh : lo ≤ hi) (hhn : hi ≤ n) (hn : n ≤ 100000000) :
    Calls Try.prog 89 #[.slice (some ⟨g, 0, none⟩) n c, .agg #[.int .i64 (lo : Int), .int .i64 (hi : Int)], .int .i64 v] w fun e w' =>
      e = .returned (.bool (changedB xs lo hi v)) ∧ w'.ownsRow base 3 1 (.slice (some ⟨g, 0, none⟩) n c) n ((setTo xs lo hi v).map (Value.int .i64)) ∧ w.grownBy w' (some g) := by
  have HL := Lib.hid hxn
  clear hxn
  go_enter Try.func89, Try.ntmps89
  go_wp2
  go_loopw [7, 8] (fun b i wr => ∃ k : Nat, lo ≤ k ∧ k ≤ hi ∧ i = .int .i64 k ∧ b = .bool (changedB xs lo k v) ∧ wr.ownsRow base 3 1 (.slice (some ⟨g, 0, none⟩) n c) n ((setTo xs lo k v).map (Value.int .i64)) ∧ wr.cell? ⟨w.heap.size, 1, none⟩ = some (.int .i64 (hi : Int)) ∧ w.grownBy wr (some g) ∧ g < w.heap.size) (fun _ i _ => hi - (intOf i).toNat)
  case atStart =>
    refine ⟨lo, Nat.le_refl _, hlh, rfl, by simp [changedB], by rw [setTo_start]; exact hown.alloc _, by rw [World.cell?_alloc_at _ _ _ _ rfl]; rfl, World.grownBy_alloc _ _ _, (hown.lt g rfl).2⟩
  case round =>
    obtain ⟨k, hlk, hkh, rfl, rfl, hownr, hcb, hgr, hglt⟩ := hrel
    by_cases hlt : k < hi
    · obtain ⟨x, hxk⟩ : ∃ x, xs[k]? = some x := ⟨_, List.getElem?_eq_getElem (by rw [HL.out]; omega)⟩
      have hcx : wr.cell? ⟨g, k, none⟩ = some (.int .i64 x) := by
        rw [hownr.cellAt k (by omega), List.getElem?_map, setTo_at v hlk hxk]; rfl
      have hfx := hownr.frozenAt k
      have HC := Lib.hid (changedB_step v hlk hxk)
      by_cases he : x = v
      · subst he
        have HS := Lib.hid (setTo_same hlk hxk)
        clear hxk
        have HC2 := Lib.hid (show changedB xs lo (k + 1) x = changedB xs lo k x by rw [HC.out]; simp)
        go_wp2
        go_roundw
        case rel => exact ⟨k + 1, by omega, by omega, by go_num, by rw [HC2.out], by rw [HS.out]; exact hownr, hcb, hgr, hglt⟩
        case measure => simp [intOf]; omega
      · have hne : (x != v) = true := by simpa using he
        have hne2 : (x == v) = false := by simpa using he
        have HC2 := Lib.hid (show changedB xs lo (k + 1) v = true by rw [HC.out, hne]; simp)
        have HS := Lib.hid (setTo_step v hlk hxk)
        have hst := hownr.stored k (.int .i64 v)
        rw [← List.map_set] at hst
        have hcb2 : (wr.setCell ⟨g, k, none⟩ (.int .i64 v)).cell? ⟨w.heap.size, 1, none⟩ = some (.int .i64 (hi : Int)) := (World.cell?_setCell_other (h := by first | (simp; done) | (simp; omega)) ..).trans hcb
        have HST := Lib.hid hst
        clear hxk he hst
        go_wp2
        go_roundw
        case rel => exact ⟨k + 1, by omega, by omega, by go_num, by rw [HC2.out], by rw [← HS.out]; exact HST.out.1, hcb2, grown_two hgr HST.out.2, hglt⟩
        case measure => simp [intOf]; omega
    · have HK := Lib.hid (show k = hi by omega)
      go_wp2
      go_ret
      exact ⟨retB (by rw [HK.out]), by rw [← HK.out]; exact hownr, hgr⟩
end Go.Proofs.Ytcbiaeeifclieaa
/- The reference's least of the numbers of a span, and the hull of a number. -/
namespace Go.Proofs.Ytcbiaeeifclieaa
open Go.RowKit

def leastStep (n x : Int) : Int := if x < n then x else n
def leastS (xs : List Int) (lo hi : Nat) : Int := ((xs.drop lo).take (hi - lo)).foldl leastStep (xs.getD lo 0)
theorem takeCons {xs : List Int} {k hi : Nat} {x : Int} (h : xs[k]? = some x) (hk : k < hi) : (xs.drop k).take (hi - k) = x :: (xs.drop (k + 1)).take (hi - (k + 1)) := by
  rw [dropCons h, show hi - k = (hi - (k + 1)) + 1 by omega, List.take_succ_cons]

set_option maxRecDepth 100000 in
set_option maxHeartbeats 1000000 in
theorem refLeast_any (A : Option Addr) (n c lo hi : Nat) (xs : List Int) (w : World) (hr : Rd w 1 A n (xs.map (Value.int .i64))) (hlt : lo < n) (hhn : hi ≤ n) (hn : n ≤ 100000000) :
    Calls Try.prog 88 #[.slice A n c, .agg #[.int .i64 (lo : Int), .int .i64 (hi : Int)]] w fun e w' => e = .returned (.int .i64 (leastS xs lo hi)) ∧ Below w.heap.size w w' := by
  have hlen : xs.length = n := by have := hr.1; rw [List.length_map] at this; omega
  have HL := Lib.hid hlen
  clear hlen
  obtain ⟨x0, hx0⟩ : ∃ x, xs[lo]? = some x := ⟨_, List.getElem?_eq_getElem (by rw [HL.out]; exact hlt)⟩
  obtain ⟨ad, rfl, hab, hc0⟩ := hr.at_ hlt
  have c0 : w.cell? (ad.add lo) = some (.int .i64 x0) := hc0 _ (by rw [List.getElem?_map, hx0]; rfl)
  have HS := Lib.hid (show leastS xs lo hi = ((xs.drop lo).take (hi - lo)).foldl leastStep x0 by unfold leastS; rw [List.getD_eq_getElem?_getD, hx0]; rfl)
  clear hx0 hc0
  have hba : Below w.heap.size w (w.alloc (Obj.cells #[.int .i64 (lo : Int), .int .i64 (hi : Int)] 33)) := (Below.refl _ _).alloc (Nat.le_refl _) _
  have c0a := (hba.cell (by rw [blockAdd]; exact hab)).trans c0
  go_enter Try.func88, Try.ntmps88
  go_wp2
  go_loop [5, 6] (fun y i => ∃ (k : Nat) (y' : Int), lo ≤ k ∧ (k ≤ hi ∨ k = lo) ∧ i = .int .i64 k ∧ y = .int .i64 y' ∧ leastS xs lo hi = ((xs.drop k).take (hi - k)).foldl leastStep y') (fun _ i => hi - (intOf i).toNat)
  case atStart => exact ⟨lo, x0, Nat.le_refl _, .inr rfl, rfl, rfl, HS.out⟩
  case round =>
    obtain ⟨k, y, hlk, hk, rfl, rfl, hh⟩ := hrel
    have HH := Lib.hid hh
    clear hh
    by_cases hlt : k < hi
    · obtain ⟨x, hxk⟩ : ∃ x, xs[k]? = some x := ⟨_, List.getElem?_eq_getElem (by rw [HL.out]; omega)⟩
      have HD := Lib.hid (takeCons hxk hlt)
      obtain ⟨ad', e', _, hck⟩ := hr.at_ (k := k) (by omega)
      injection e' with e'
      subst e'
      have ck : w.cell? (ad.add k) = some (.int .i64 x) := hck _ (by rw [List.getElem?_map, hxk]; rfl)
      have cka := (hba.cell (by rw [blockAdd]; exact hab)).trans ck
      clear hxk hck
      go_wp2
      all_goals
        go_round
        case rel => exact ⟨k + 1, leastStep y x, by omega, .inl (by omega), by go_num, by first | rfl | (simp only [leastStep]; first | rw [if_pos ‹_›] | rw [if_neg ‹_›] | rw [if_neg (by omega)]), by rw [HH.out, HD.out]; rfl⟩
        case measure => simp [intOf]; omega
    · have HZ := Lib.hid (show leastS xs lo hi = y by rw [HH.out, show hi - k = 0 by omega]; rfl)
      go_wp2
      go_ret
      exact ⟨retI HZ.out.symm, hba⟩
end Go.Proofs.Ytcbiaeeifclieaa
/- The reference's hull of a number. -/
namespace Go.Proofs.Ytcbiaeeifclieaa
open Go.RowKit

/-- From the first place with a number to behind the last one. -/
def hullFrom (v : Int) : List Int → Nat → Sp → Sp
  | [], _, st => st
  | x :: l, k, st => hullFrom v l (k + 1) (if (x == v) = true then (if (st.2 == 0) = true then (k : Int) else st.1, (k : Int) + 1) else st)
def hullN (xs : List Int) (v : Int) : Sp := hullFrom v xs 0 (0, 0)
theorem hullFrom_no {v x : Int} {l : List Int} {k : Nat} {st : Sp} (h : (x == v) = false) : hullFrom v (x :: l) k st = hullFrom v l (k + 1) st := by
  rw [hullFrom, if_neg (by rw [h]; decide)]
theorem hullFrom_first {v x a b : Int} {l : List Int} {k : Nat} (h : (x == v) = true) (hb : (b == 0) = true) : hullFrom v (x :: l) k (a, b) = hullFrom v l (k + 1) (k, (k : Int) + 1) := by
  rw [hullFrom, if_pos h, if_pos hb]
theorem hullFrom_more {v x a b : Int} {l : List Int} {k : Nat} (h : (x == v) = true) (hb : (b == 0) = false) : hullFrom v (x :: l) k (a, b) = hullFrom v l (k + 1) (a, (k : Int) + 1) := by
  rw [hullFrom, if_pos h, if_neg (by simp only [hb]; decide)]
theorem SpanBlk.put1 {w : World} {b : Nat} {s : Sp} (h : SpanBlk w b s) (y : Int) : SpanBlk (w.setCell ⟨b, 1, none⟩ (.int .i64 y)) b (s.1, y) := by
  obtain ⟨h0, h1, h2, h3⟩ := h
  refine ⟨?_, World.cell?_setCell_same (h := h1) .., ?_, ?_⟩
  · exact (World.cell?_setCell_other (h := by simp) ..).trans h0
  · rw [World.frozen?_setCell]; exact h2
  · rw [World.frozen?_setCell]; exact h3
theorem SpanBlk.far1 {w : World} {b b' : Nat} {s : Sp} (h : SpanBlk w b s) (hne : b ≠ b') (v : Value) : SpanBlk (w.setCell ⟨b', 1, none⟩ v) b s := by
  obtain ⟨h0, h1, h2, h3⟩ := h
  refine ⟨?_, ?_, ?_, ?_⟩
  · exact (World.cell?_setCell_other (h := by first | (simp; done) | (simp; omega)) ..).trans h0
  · exact (World.cell?_setCell_other (h := by first | (simp; done) | (simp; omega)) ..).trans h1
  · rw [World.frozen?_setCell]; exact h2
  · rw [World.frozen?_setCell]; exact h3

set_option maxRecDepth 100000 in
set_option maxHeartbeats 2000000 in
theorem refHullN_any (A : Option Addr) (n c : Nat) (xs : List Int) (v : Int) (w : World) (hr : Rd w 1 A n (xs.map (Value.int .i64))) (hn : n ≤ 100000000) :
    Calls Try.prog 75 #[.slice A n c, .int .i64 v] w fun e w' => e = .returned (.agg #[.int .i64 (hullN xs v).1, .int .i64 (hullN xs v).2]) ∧ Below w.heap.size w w' := by
  have hlen : xs.length = n := by have := hr.1; rw [List.length_map] at this; omega
  have HL := Lib.hid hlen
  clear hlen
  go_enter Try.func75, Try.ntmps75
  go_wp2
  go_loopw [6] (fun i wr => ∃ (k : Nat) (st : Sp), k ≤ n ∧ i = .int .i64 k ∧ hullN xs v = hullFrom v (xs.drop k) k st ∧ SpanBlk wr w.heap.size (0, 0) ∧ SpanBlk wr (w.heap.size + 1) st ∧ w.heap.size + 1 < wr.heap.size ∧ Below w.heap.size w wr) (fun i _ => n - (intOf i).toNat)
  case atStart =>
    refine ⟨0, (0, 0), Nat.zero_le _, rfl, rfl, ?_, ?_, by simp, ((Below.refl _ _).alloc (Nat.le_refl _) _).alloc (by simp) _⟩
    · refine ⟨?_, ?_, ?_, ?_⟩ <;> simp [go_sem]
    · refine ⟨?_, ?_, ?_, ?_⟩ <;> simp [go_sem]
  case round =>
    obtain ⟨k, st, hk, rfl, hh, ⟨r0, r1, r2, r3⟩, ⟨t0, t1, t2, t3⟩, hsz, hb⟩ := hrel
    have HH := Lib.hid hh
    clear hh
    by_cases hlt : k < n
    · obtain ⟨s, hsk⟩ : ∃ s, xs[k]? = some s := ⟨_, List.getElem?_eq_getElem (by rw [HL.out]; exact hlt)⟩
      have HD := Lib.hid (dropCons hsk)
      obtain ⟨ad, rfl, hab, hck⟩ := hr.at_ hlt
      have ck := (hb.cell (by rw [blockAdd]; exact hab)).trans (hck (.int .i64 s) (by rw [List.getElem?_map, hsk]; rfl))
      clear hsk hck
      obtain ⟨x, y⟩ := st
      simp only at r0 r1 t0 t1
      cases he : s == v with
      | false =>
        have HS := Lib.hid (hullFrom_no (l := xs.drop (k + 1)) (k := k) (st := (x, y)) he)
        go_wp2
        go_roundw
        case rel => exact ⟨k + 1, (x, y), by omega, by go_num, by rw [HH.out, HD.out, HS.out], ⟨r0, r1, r2, r3⟩, ⟨t0, t1, t2, t3⟩, hsz, hb⟩
        case measure => simp [intOf]; omega
      | true =>
        have B0 : SpanBlk wr w.heap.size (0, 0) := ⟨r0, r1, r2, r3⟩
        have B1 : SpanBlk wr (w.heap.size + 1) (x, y) := ⟨t0, t1, t2, t3⟩
        cases hy : y == 0 with
        | false =>
          have HS := Lib.hid (hullFrom_more (a := x) (l := xs.drop (k + 1)) (k := k) he hy)
          have HP := Lib.hid (B1.put1 ((k : Int) + 1))
          have HF := Lib.hid (B0.far1 (b' := w.heap.size + 1) (by omega) (.int .i64 ((k : Int) + 1)))
          have hbe := hb.setCell (p := ⟨w.heap.size + 1, 1, none⟩) (by simp) (.int .i64 ((k : Int) + 1))
          clear B0 B1
          go_wp2
          go_roundw
          case rel => exact ⟨k + 1, (x, (k : Int) + 1), by omega, by go_num, by rw [HH.out, HD.out, HS.out], HF.out, HP.out, by simpa [World.setCell] using hsz, hbe⟩
          case measure => simp [intOf]; omega
        | true =>
          have HS := Lib.hid (hullFrom_first (a := x) (l := xs.drop (k + 1)) (k := k) he hy)
          have HP := Lib.hid (B1.put (k : Int) ((k : Int) + 1))
          have HF := Lib.hid (B0.far (b' := w.heap.size + 1) (by omega) (.int .i64 (k : Int)) (.int .i64 ((k : Int) + 1)))
          have hbe := (hb.setCell (p := ⟨w.heap.size + 1, 0, none⟩) (by simp) (.int .i64 (k : Int))).setCell (p := ⟨w.heap.size + 1, 1, none⟩) (by simp) (.int .i64 ((k : Int) + 1))
          clear B0 B1
          go_wp2
          go_roundw
          case rel => exact ⟨k + 1, (k, (k : Int) + 1), by omega, by go_num, by rw [HH.out, HD.out, HS.out], HF.out, HP.out, by simpa [World.setCell] using hsz, hbe⟩
          case measure => simp [intOf]; omega
    · have HZ := Lib.hid (show hullN xs v = st by rw [HH.out, List.drop_eq_nil_of_le (by rw [HL.out]; omega)]; rfl)
      obtain ⟨x, y⟩ := st
      simp only at r0 r1 t0 t1
      have hbe := (hb.setCell (p := ⟨w.heap.size, 0, none⟩) (Nat.le_refl _) (.int .i64 x)).setCell (p := ⟨w.heap.size, 1, none⟩) (Nat.le_refl _) (.int .i64 y)
      have HR := Lib.hid (SpanBlk.put (w := wr) (b := w.heap.size) (s := (0, 0)) ⟨r0, r1, r2, r3⟩ x y)
      go_wp2
      generalize ((wr.setCell ⟨w.heap.size, 0, none⟩ (.int .i64 x)).setCell ⟨w.heap.size, 1, none⟩ (.int .i64 y)) = w5 at *
      obtain ⟨u0, u1, _, _⟩ := HR.out
      simp only at u0 u1
      exact bodyPost_ret (v := .agg #[.int .i64 x, .int .i64 y]) (by simp [results, Try.results75, go_sem, u0, u1]) rfl ⟨by rw [HZ.out], hbe⟩
end Go.Proofs.Ytcbiaeeifclieaa
/- The reference's linked: which places of what goes in are in a link. -/
namespace Go.Proofs.Ytcbiaeeifclieaa
open Go.RowKit

/-- All from lo on, below k, is true. -/
def fillB (xs : List Bool) (lo k : Nat) : List Bool := xs.take lo ++ List.replicate (k - lo) true ++ xs.drop k
theorem fillB_len {xs : List Bool} {lo k : Nat} (h : lo ≤ k) (hk : k ≤ xs.length) : (fillB xs lo k).length = xs.length := by
  simp [fillB]; omega
theorem fillB_start (xs : List Bool) (lo : Nat) : fillB xs lo lo = xs := by simp [fillB]
theorem fillB_step {xs : List Bool} {lo k : Nat} (h : lo ≤ k) (hk : k < xs.length) : (fillB xs lo k).set k true = fillB xs lo (k + 1) := by
  obtain ⟨x, hx⟩ : ∃ x, xs[k]? = some x := ⟨_, List.getElem?_eq_getElem hk⟩
  have hl : (xs.take lo ++ List.replicate (k - lo) true).length = k := by simp; omega
  unfold fillB
  rw [List.set_append_right _ _ (by omega), hl, dropCons hx]
  have e : k + 1 - lo = (k - lo) + 1 := by omega
  rw [e, List.replicate_succ']
  simp
def linkStep (out : List Bool) (c : Cl) : List Bool := fillB out c.1.1.toNat c.1.2.toNat
def linkedS (n : Nat) (l : List Cl) : List Bool := l.foldl linkStep (List.replicate n false)

set_option maxRecDepth 100000 in
set_option maxHeartbeats 2000000 in
theorem refLinked_any (A : Option Addr) (n m c : Nat) (l : List Cl) (w : World) (hr : Rd w 4 A m (cellsC l)) (hm : m ≤ 200000000) (hn : n ≤ 100000000) (hin : ∀ x ∈ l, ∃ lo hi : Nat, x.1 = ((lo : Int), (hi : Int)) ∧ lo ≤ hi ∧ hi ≤ n) :
    Calls Try.prog 72 #[.int .i64 (n : Int), .slice A m c] w fun e w' => ∃ v, e = .returned v ∧ w'.ownsRow w.heap.size 4 1 v n ((linkedS n l).map Value.bool) ∧ Below w.heap.size w w' := by
  have hlen : l.length = m := by have := hr.1; rw [cellsC_len] at this; omega
  have HL := Lib.hid hlen
  clear hlen
  go_enter Try.func72, Try.ntmps72
  go_wp2_with (at_make; refine wpList_mkFull rfl _ _ _ rfl (base := w.heap.size) (z := .bool false) (bytes := 1) Try.underlying109 (by kernel_rfl) rfl _ _ n rfl rfl rfl rfl (by omega) (by unfold maxLen; omega) (Nat.le_refl _) ?_; intro w0 hown0 hg0)
  have hb0 : Below w.heap.size w w0 := (Below.refl _ _).grown hg0 (Nat.le_refl _) (fun k h => by cases h)
  go_loopw [6] (fun i wr => ∃ (k : Nat) (xs : List Bool), k ≤ m ∧ i = .int .i64 k ∧ linkedS n l = (l.drop k).foldl linkStep xs ∧ xs.length = n ∧ wr.ownsRow w.heap.size 4 1 (.slice (some ⟨w.heap.size, 0, none⟩) n n) n (xs.map Value.bool) ∧ Below w.heap.size w wr) (fun i _ => m - (intOf i).toNat)
  case atStart =>
    exact ⟨0, List.replicate n false, Nat.zero_le _, rfl, rfl, by simp, by rw [List.map_replicate]; exact hown0, hb0⟩
  case round =>
    obtain ⟨k, xs, hk, rfl, hh, hxl, hown, hb⟩ := hrel
    have HH := Lib.hid hh
    have HX := Lib.hid hxl
    clear hh hxl hown0 hg0 hb0
    by_cases hlt : k < m
    · obtain ⟨s, hsk⟩ : ∃ s, l[k]? = some s := ⟨_, List.getElem?_eq_getElem (by rw [HL.out]; exact hlt)⟩
      have HD := Lib.hid (dropCons hsk)
      obtain ⟨lo, hi, hs, hlh, hhn⟩ := hin s (List.mem_of_getElem? hsk)
      obtain ⟨ad, rfl, hab, c1, c2, c3, c4⟩ := hr.clus hsk
      clear hsk c3 c4
      obtain ⟨⟨s1, s2⟩, s3, s4⟩ := s
      injection hs with e1 e2
      subst e1 e2
      simp only at c1 c2
      have c1' := (hb.cell (by rw [blockAdd]; exact hab)).trans c1
      have c2' := (hb.cell (p := ⟨(ad.add (k * 4)).block, (ad.add (k * 4)).off + 1, none⟩) (by show (ad.add (k * 4)).block < _; rw [blockAdd]; exact hab)).trans c2
      go_wp2
      go_loopw [7] (fun i ws => ∃ j : Nat, lo ≤ j ∧ j ≤ hi ∧ i = .int .i64 j ∧ ws.ownsRow w.heap.size 4 1 (.slice (some ⟨w.heap.size, 0, none⟩) n n) n ((fillB xs lo j).map Value.bool) ∧ Below w.heap.size w ws) (fun i _ => hi - (intOf i).toNat)
      case atStart => exact ⟨lo, Nat.le_refl _, hlh, rfl, by rw [fillB_start]; exact hown, hb⟩
      case round =>
        obtain ⟨j, hlj, hjh, rfl, hownr, hbr⟩ := hrel
        clear c1' c2'
        have d2 := (hbr.cell (p := ⟨(ad.add (k * 4)).block, (ad.add (k * 4)).off + 1, none⟩) (by show (ad.add (k * 4)).block < _; rw [blockAdd]; exact hab)).trans c2
        by_cases hjt : j < hi
        · have HS := Lib.hid (fillB_step (xs := xs) hlj (by rw [HX.out]; omega))
          have hfx := hownr.frozenAt j
          obtain ⟨bj, hbj⟩ : ∃ bj, wr.cell? ⟨w.heap.size, j, none⟩ = some bj := ⟨_, by rw [hownr.cellAt j (by omega)]; exact List.getElem?_eq_getElem (by rw [List.length_map, fillB_len hlj (by rw [HX.out]; omega), HX.out]; omega)⟩
          have hst := hownr.stored j (.bool true)
          rw [← List.map_set] at hst
          have HST := Lib.hid hst
          have hbe := hbr.setCell (p := ⟨w.heap.size, j, none⟩) (Nat.le_refl _) (.bool true)
          clear hst
          go_wp2
          go_roundw
          case rel => exact ⟨j + 1, by omega, by omega, by go_num, by rw [← HS.out]; exact HST.out.1, hbe⟩
          case measure => simp [intOf]; omega
        · have HJ := Lib.hid (show j = hi by omega)
          have hle : (fillB xs lo hi).length = n := by rw [fillB_len hlh (by rw [HX.out]; exact hhn), HX.out]
          have HE := Lib.hid hle
          clear hle
          go_wp2
          go_roundw
          case rel => exact ⟨k + 1, fillB xs lo hi, by omega, by go_num, by rw [HH.out, HD.out]; rfl, HE.out, by rw [← HJ.out]; exact hownr, hbr⟩
          case measure => simp [intOf]; omega
    · have HZ := Lib.hid (show linkedS n l = xs by rw [HH.out, List.drop_eq_nil_of_le (by rw [HL.out]; omega)]; rfl)
      go_wp2
      go_ret
      exact ⟨_, rfl, by rw [HZ.out]; exact hown, hb⟩
end Go.Proofs.Ytcbiaeeifclieaa
/- The reference's ahead: joins the places ahead of all that are in a link to the next one. -/
namespace Go.Proofs.Ytcbiaeeifclieaa
open Go.RowKit

def aheadFrom : List Bool → Nat → List Cl
  | [], _ => []
  | true :: _, k => if 0 < k then [((0, (k : Int) + 1), (0, 0))] else []
  | false :: l, k => aheadFrom l (k + 1)
def aheadS (l : List Bool) : List Cl := aheadFrom l 0

def AheadGives (l : List Bool) (w : World) (e : Ending) (w' : World) : Prop := ∃ A' n' c', e = .returned (.slice A' n' c') ∧ n' ≤ 1 ∧ Rd w' 4 A' n' (cellsC (aheadS l)) ∧ Below w.heap.size w w'

set_option maxRecDepth 100000 in
set_option maxHeartbeats 1000000 in
theorem refAhead_any (A : Option Addr) (n c : Nat) (l : List Bool) (w : World) (hr : Rd w 1 A n (l.map Value.bool)) (hn : n ≤ 100000000) :
    Calls Try.prog 73 #[.slice A n c] w (AheadGives l w) := by
  have hlen : l.length = n := by have := hr.1; rw [List.length_map] at this; omega
  have HL := Lib.hid hlen
  clear hlen
  go_enter Try.func73, Try.ntmps73
  go_wp2
  go_loop [3] (fun i => ∃ k : Nat, k ≤ n ∧ i = .int .i64 k ∧ aheadS l = aheadFrom (l.drop k) k) (fun i => n - (intOf i).toNat)
  case atStart => exact ⟨0, Nat.zero_le _, rfl, rfl⟩
  case round =>
    obtain ⟨k, hk, rfl, hh⟩ := hrel
    have HH := Lib.hid hh
    clear hh
    by_cases hlt : k < n
    · obtain ⟨x, hxk⟩ : ∃ x, l[k]? = some x := ⟨_, List.getElem?_eq_getElem (by rw [HL.out]; exact hlt)⟩
      have HD := Lib.hid (dropCons hxk)
      obtain ⟨ad, rfl, hab, hck⟩ := hr.at_ hlt
      have ck := hck (.bool x) (by rw [List.getElem?_map, hxk]; rfl)
      clear hxk hck
      cases x with
      | false =>
        go_wp2
        go_round
        case rel => exact ⟨k + 1, by omega, by go_num, by rw [HH.out, HD.out]; rfl⟩
        case measure => simp [intOf]; omega
      | true =>
        by_cases h0 : 0 < k
        · have HZ := Lib.hid (show aheadS l = [((0, (k : Int) + 1), (0, 0))] by rw [HH.out, HD.out]; exact if_pos h0)
          go_wp2
          go_ret
          exact ⟨_, _, _, rfl, Nat.le_refl _, by rw [HZ.out]; exact ⟨rfl, fun _ => ⟨_, rfl, by simp, cells_new w [.int .i64 0, .int .i64 ((k : Int) + 1), .int .i64 0, .int .i64 0] _⟩⟩, below_new w _⟩
        · have HZ := Lib.hid (show aheadS l = [] by rw [HH.out, HD.out]; exact if_neg h0)
          go_wp2
          go_ret
          exact ⟨_, _, _, rfl, by omega, by rw [HZ.out]; exact Rd.nil_, Below.refl _ _⟩
    · have HZ := Lib.hid (show aheadS l = [] by rw [HH.out, List.drop_eq_nil_of_le (by rw [HL.out]; omega)]; rfl)
      go_wp2
      go_ret
      exact ⟨_, _, _, rfl, by omega, by rw [HZ.out]; exact Rd.nil_, Below.refl _ _⟩
end Go.Proofs.Ytcbiaeeifclieaa
/- make of ints, as a run. -/
namespace Go.Proofs.Ytcbiaeeifclieaa
open Go.RowKit
theorem mk_intsZ (n : Nat) (hn : n ≤ 100000000) (w : World) : (Instr.makeSlice 31 (.int .i64 (n : Int)) (.int .i64 (n : Int))).run Try.prog w = .ok (.slice (some ⟨w.heap.size, 0, none⟩) n n) (w.alloc (.cells (intsZ (List.replicate n 0)).toArray 3)) := by
  have hin : (Try.prog.info? 3).map (fun i => (i.zero, i.size, i.bytes)) = some (some (.int .i64 0), 1, 8) := by kernel_rfl
  obtain ⟨i, h1, h2, h3, h4⟩ := info_parts hin
  have h := run_make (P := Try.prog) w 31 3 i (.int .i64 0) Try.underlying31 h1 h2 .i64 .i64 n n (by omega) (Int.le_refl _) (by rw [h4]; omega) (by omega)
  rw [h3] at h
  simp only [Int.toNat_natCast, Nat.mul_one] at h
  rw [h]
  refine congrArg (fun c => Result.ok _ (w.alloc (.cells c _))) ?_
  apply Array.toList_inj.1
  rw [show (Value.int .i64 0).cells = #[.int .i64 0] from rfl, toList_madeCells_one]
  simp [intsZ]
end Go.Proofs.Ytcbiaeeifclieaa
/- slices.Equal at []int: whether the two slices read alike; the world is as it was, but for draws. -/
namespace Go.Proofs.Ytcbiaeeifclieaa
open Go.RowKit

theorem take_eq_succ {xs ys : List Int} {k : Nat} (h : xs.take k = ys.take k) {x : Int} (h1 : xs[k]? = some x) (h2 : ys[k]? = some x) : xs.take (k + 1) = ys.take (k + 1) := by
  rw [List.take_add_one, List.take_add_one, h, h1, h2]

set_option maxRecDepth 100000 in
set_option maxHeartbeats 1000000 in
theorem equalInt_same (n : Nat) (A B : Option Addr) (c d : Nat) (xs ys : List Int) (w : World) (hxn : xs.length = n) (hyn : ys.length = n)
    (hx : Rd w 1 A n (xs.map (Value.int .i64))) (hy : Rd w 1 B n (ys.map (Value.int .i64))) (hn : n ≤ maxLen) :
    Calls Try.prog 12 #[.slice A n c, .slice B n d] w fun e w' => e = .returned (.bool (decide (xs = ys))) ∧ ∃ q, w' = w.drewN q := by
  unfold maxLen at hn
  have HX := Lib.hid hxn
  have HY := Lib.hid hyn
  clear hxn hyn
  go_enter Try.func12, Try.ntmps12
  go_wp2
  go_loopw [13] (fun i wr => ∃ k q : Nat, k ≤ n ∧ i = .int .i64 k ∧ wr = w.drewN q ∧ xs.take k = ys.take k) (fun i _ => n - (intOf i).toNat)
  case atStart => exact ⟨0, 0, Nat.zero_le _, rfl, rfl, rfl⟩
  case round =>
    obtain ⟨k, q, hk, rfl, rfl, ht⟩ := hrel
    have HT := Lib.hid ht
    clear ht
    by_cases hlt : k < n
    · obtain ⟨x, hxk⟩ : ∃ x, xs[k]? = some x := ⟨_, List.getElem?_eq_getElem (by rw [HX.out]; exact hlt)⟩
      obtain ⟨y, hyk⟩ : ∃ y, ys[k]? = some y := ⟨_, List.getElem?_eq_getElem (by rw [HY.out]; exact hlt)⟩
      obtain ⟨a, rfl, _, ha⟩ := hx.at_ hlt
      obtain ⟨b, rfl, _, hb⟩ := hy.at_ hlt
      have ca : w.cell? (a.add k) = some (.int .i64 x) := ha _ (by rw [List.getElem?_map, hxk]; rfl)
      have cb : w.cell? (b.add k) = some (.int .i64 y) := hb _ (by rw [List.getElem?_map, hyk]; rfl)
      have HXK := Lib.hid hxk
      have HYK := Lib.hid hyk
      clear hxk hyk ha hb
      by_cases he : x = y
      · subst he
        go_wp2
        go_quiet (fail)
        go_wp2
        go_roundw
        case rel => exact ⟨k + 1, _, by omega, by go_num, rfl, take_eq_succ HT.out HXK.out HYK.out⟩
        case measure => simp [intOf]; omega
      · have hne : (x == y) = false := by simpa using he
        have hne' : (x != y) = true := by simpa using he
        have hf : decide (xs = ys) = false := decide_eq_false (fun e => he (by have h1 := HXK.out; rw [e, HYK.out] at h1; injection h1 with h1; exact h1.symm))
        clear he
        go_wp2
        go_quiet (fail)
        go_wp2
        go_ret
        exact ⟨retB (by simp [hf]), _, World.drewN_drewN _ _ _⟩
    · have hkn : k = n := by omega
      have htr : decide (xs = ys) = true := decide_eq_true (by
        have h := HT.out
        rwa [List.take_of_length_le (by rw [HX.out]; omega), List.take_of_length_le (by rw [HY.out]; omega)] at h)
      clear hkn
      go_wp2
      go_ret
      exact ⟨retB (by simp [htr]), _, rfl⟩

theorem equalInt_any (A B : Option Addr) (n m c d : Nat) (xs ys : List Int) (w : World) (hx : Rd w 1 A n (xs.map (Value.int .i64))) (hy : Rd w 1 B m (ys.map (Value.int .i64))) (hn : n ≤ maxLen) (hm : m ≤ maxLen) :
    Calls Try.prog 12 #[.slice A n c, .slice B m d] w fun e w' => e = .returned (.bool (decide (xs = ys))) ∧ ∃ q, w' = w.drewN q := by
  have hxl : xs.length = n := by simpa using hx.len1
  have hyl : ys.length = m := by simpa using hy.len1
  by_cases h : n = m
  · subst h
    exact equalInt_same n A B c d xs ys w hxl hyl hx hy hn
  · have hne : decide (xs = ys) = false := decide_eq_false (fun e => h (by rw [← hxl, ← hyl, e]))
    have h1 : ((n : Int) == m) = false := by simp; omega
    have h2 : ((n : Int) != m) = true := by simp; omega
    clear hxl hyl
    go_enter Try.func12, Try.ntmps12
    go_wp2
    go_ret
    exact ⟨retB (by simp [hne]), 0, rfl⟩
theorem equalInt_b (A B : Option Addr) (n m c d : Nat) (xs ys : List Int) (w : World) (hx : Rd w 1 A n (xs.map (Value.int .i64))) (hy : Rd w 1 B m (ys.map (Value.int .i64))) (hn : n ≤ maxLen) (hm : m ≤ maxLen) :
    Calls Try.prog 12 #[.slice A n c, .slice B m d] w fun e w' => e = .returned (.bool (decide (xs = ys))) ∧ Below w.heap.size w w' :=
  (equalInt_any A B n m c d xs ys w hx hy hn hm).mono fun _ _ ⟨he, q, hq⟩ => ⟨he, hq ▸ drewBelow q⟩
end Go.Proofs.Ytcbiaeeifclieaa
/- slices.Equal at []api.Cluster: whether the two slices read alike. -/
namespace Go.Proofs.Ytcbiaeeifclieaa
open Go.RowKit

theorem eqSpanAt (d : Nat) (a b : Sp) (w : World) : (Op.equalIn (d + 2) 33 (.agg #[.int .i64 a.1, .int .i64 a.2]) (.agg #[.int .i64 b.1, .int .i64 b.2])).run Try.prog w = .ok (decide (a = b)) w := by
  have u3 := Try.underlying3
  have a3 := Try.isAgg3
  have z3 := Try.sizeOf3
  have hS : Try.prog.underlying 33 = some (.struct (Try.prog.fieldsOf 33)) := by kernel_rfl
  have hp : Try.prog.stoodInHeld 33 = false := by kernel_rfl
  rw [show d + 2 = (d + 1) + 1 from rfl, run_equalIn_agg w (d + 1) 33 _ _ hS hp]
  simp only [Program.fieldsOf, Try.underlying33]
  go_simp
  obtain ⟨a1, a2⟩ := a
  obtain ⟨b1, b2⟩ := b
  by_cases h1 : a1 = b1 <;> by_cases h2 : a2 = b2 <;> simp [h1, h2]
theorem eqClusAt (d : Nat) (a b : Cl) (w : World) : (Op.equalIn (d + 3) 45 (.agg #[.int .i64 a.1.1, .int .i64 a.1.2, .int .i64 a.2.1, .int .i64 a.2.2]) (.agg #[.int .i64 b.1.1, .int .i64 b.1.2, .int .i64 b.2.1, .int .i64 b.2.2])).run Try.prog w = .ok (decide (a = b)) w := by
  have hS : Try.prog.underlying 45 = some (.struct (Try.prog.fieldsOf 45)) := by kernel_rfl
  have hp : Try.prog.stoodInHeld 45 = false := by kernel_rfl
  have ag2 := Try.isAgg33
  have z2 := Try.sizeOf33
  have h1 := eqSpanAt d a.1 b.1 w
  have h2 := eqSpanAt d a.2 b.2 w
  rw [show d + 3 = (d + 2) + 1 from rfl, run_equalIn_agg w (d + 2) 45 _ _ hS hp]
  simp only [Program.fieldsOf, Try.underlying45]
  obtain ⟨⟨a1, a2⟩, a3, a4⟩ := a
  obtain ⟨⟨b1, b2⟩, b3, b4⟩ := b
  simp only at h1 h2
  go_simp
  by_cases e1 : a1 = b1 <;> by_cases e2 : a2 = b2 <;> by_cases e3 : a3 = b3 <;> by_cases e4 : a4 = b4 <;> simp [e1, e2, e3, e4]
theorem neqC (a b : Cl) (w : World) : (binOp .neq 45 (.agg #[.int .i64 a.1.1, .int .i64 a.1.2, .int .i64 a.2.1, .int .i64 a.2.2]) (.agg #[.int .i64 b.1.1, .int .i64 b.1.2, .int .i64 b.2.1, .int .i64 b.2.2])).run Try.prog w = .ok (.bool (!(decide (a = b)))) w := by
  rw [run_neq_struct, show (10000 : Nat) = 9997 + 3 from rfl, eqClusAt 9997 a b w]
  rfl
theorem guardC : Try.prog.eqGuardType Try.prog.depth 45 = false := by kernel_rfl

theorem take_eq_succC {xs ys : List Cl} {k : Nat} (h : xs.take k = ys.take k) {x : Cl} (h1 : xs[k]? = some x) (h2 : ys[k]? = some x) : xs.take (k + 1) = ys.take (k + 1) := by
  rw [List.take_add_one, List.take_add_one, h, h1, h2]

set_option maxRecDepth 100000 in
set_option maxHeartbeats 1000000 in
theorem equalC_same (n : Nat) (A B : Option Addr) (c d : Nat) (xs ys : List Cl) (w : World) (hxn : xs.length = n) (hyn : ys.length = n)
    (hx : Rd w 4 A n (cellsC xs)) (hy : Rd w 4 B n (cellsC ys)) (hn : n ≤ maxLen) :
    Calls Try.prog 19 #[.slice A n c, .slice B n d] w fun e w' => e = .returned (.bool (decide (xs = ys))) ∧ ∃ q, w' = w.drewN q := by
  unfold maxLen at hn
  have HX := Lib.hid hxn
  have HY := Lib.hid hyn
  clear hxn hyn
  have hg := guardC
  go_enter Try.func19, Try.ntmps19
  go_wp2
  go_loopw [13] (fun i wr => ∃ k q : Nat, k ≤ n ∧ i = .int .i64 k ∧ wr = w.drewN q ∧ xs.take k = ys.take k) (fun i _ => n - (intOf i).toNat)
  case atStart => exact ⟨0, 0, Nat.zero_le _, rfl, rfl, rfl⟩
  case round =>
    obtain ⟨k, q, hk, rfl, rfl, ht⟩ := hrel
    have HT := Lib.hid ht
    clear ht
    by_cases hlt : k < n
    · obtain ⟨x, hxk⟩ : ∃ x, xs[k]? = some x := ⟨_, List.getElem?_eq_getElem (by rw [HX.out]; exact hlt)⟩
      obtain ⟨y, hyk⟩ : ∃ y, ys[k]? = some y := ⟨_, List.getElem?_eq_getElem (by rw [HY.out]; exact hlt)⟩
      obtain ⟨a, rfl, _, a1, a2, a3, a4⟩ := hx.clus hxk
      obtain ⟨b, rfl, _, b1, b2, b3, b4⟩ := hy.clus hyk
      have hq := neqC x y
      have HXK := Lib.hid hxk
      have HYK := Lib.hid hyk
      clear hxk hyk
      by_cases he : x = y
      · subst he
        simp only [decide_true, Bool.not_true] at hq
        obtain ⟨⟨x1, x2⟩, x3, x4⟩ := x
        simp only at a1 a2 a3 a4 b1 b2 b3 b4 hq
        go_wp2
        go_quiet (fail)
        go_wp2
        go_roundw
        case rel => exact ⟨k + 1, _, by omega, by go_num, rfl, take_eq_succC HT.out HXK.out HYK.out⟩
        case measure => simp [intOf]; omega
      · have hf : decide (xs = ys) = false := decide_eq_false (fun e => he (by have h1 := HXK.out; rw [e, HYK.out] at h1; injection h1 with h1; exact h1.symm))
        rw [decide_eq_false he] at hq
        simp only [Bool.not_false] at hq
        clear he
        obtain ⟨⟨x1, x2⟩, x3, x4⟩ := x
        obtain ⟨⟨y1, y2⟩, y3, y4⟩ := y
        simp only at a1 a2 a3 a4 b1 b2 b3 b4 hq
        go_wp2
        go_quiet (fail)
        go_wp2
        go_ret
        exact ⟨retB (by simp [hf]), _, World.drewN_drewN _ _ _⟩
    · have htr : decide (xs = ys) = true := decide_eq_true (by
        have h := HT.out
        rwa [List.take_of_length_le (by rw [HX.out]; omega), List.take_of_length_le (by rw [HY.out]; omega)] at h)
      go_wp2
      go_ret
      exact ⟨retB (by simp [htr]), _, rfl⟩

theorem equalC_b (A B : Option Addr) (n m c d : Nat) (xs ys : List Cl) (w : World) (hx : Rd w 4 A n (cellsC xs)) (hy : Rd w 4 B m (cellsC ys)) (hn : n ≤ maxLen) (hm : m ≤ maxLen) :
    Calls Try.prog 19 #[.slice A n c, .slice B m d] w fun e w' => e = .returned (.bool (decide (xs = ys))) ∧ Below w.heap.size w w' := by
  have hxl : xs.length = n := by have := hx.1; rw [cellsC_len] at this; omega
  have hyl : ys.length = m := by have := hy.1; rw [cellsC_len] at this; omega
  by_cases h : n = m
  · subst h
    exact (equalC_same n A B c d xs ys w hxl hyl hx hy hn).mono fun _ _ ⟨he, q, hq⟩ => ⟨he, hq ▸ drewBelow q⟩
  · have hne : decide (xs = ys) = false := decide_eq_false (fun e => h (by rw [← hxl, ← hyl, e]))
    have h1 : ((n : Int) == m) = false := by simp; omega
    have h2 : ((n : Int) != m) = true := by simp; omega
    clear hxl hyl
    go_enter Try.func19, Try.ntmps19
    go_wp2
    go_ret
    exact ⟨retB (by simp [hne]), Below.refl _ _⟩
end Go.Proofs.Ytcbiaeeifclieaa
