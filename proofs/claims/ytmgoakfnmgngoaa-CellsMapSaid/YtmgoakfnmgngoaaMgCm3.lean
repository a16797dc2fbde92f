/- Texts of one claim, one behind the other. -/
import Derived.Maps.OwnSet
import Derived.Maps.Views
import Derived.Laws.StructEq
import Derived.Test.YtmgoakfnmgngoaaMgCm1
import Derived.Test.YtmgoakfnmgngoaaMgCm2
/- A map of spans that the call itself has made, as a function of the place: looked up, stored, deleted. -/
namespace Go.Proofs.Ytmgoakfnmgngoaa
open Go.RowKit

def spanD (s : Sp) : DataW Unit := .agg [.lit (.int .i64 s.1), .lit (.int .i64 s.2)]
/-- How a span in a map reads. -/
def spanElem : Value → Option (DataW Unit × List MemPlace)
  | .agg ⟨[.int .i64 a, .int .i64 b]⟩ => some (spanD (a, b), [])
  | _ => none
theorem spanElem_mk (s : Sp) : spanElem (valS s) = some (spanD s, []) := rfl
theorem spanElem_inv {v : Value} {z : DataW Unit × List MemPlace} (h : spanElem v = some z) : ∃ s : Sp, v = valS s ∧ z = (spanD s, []) := by
  unfold spanElem at h
  split at h
  · rename_i a b
    exact ⟨(a, b), rfl, (Option.some.inj h).symm⟩
  · simp at h
theorem spanD_inj {s t : Sp} (h : spanD s = spanD t) : s = t := by
  unfold spanD at h
  simp only [DataW.agg.injEq, List.cons.injEq, DataW.lit.injEq, Lit.int.injEq, true_and, and_true] at h
  exact Prod.ext h.1 h.2
theorem key_wf {k : Nat} (h : k ≤ 100000000) : (Lit.int .i64 (k : Int)).wf = true := by
  simp [Lit.wf, IntKind.min, IntKind.max, IntKind.signed, IntKind.bits]; omega
/-- How many places below n have a span. -/
def cntM (M : Nat → Option Sp) : Nat → Nat
  | 0 => 0
  | n + 1 => cntM M n + (if (M n).isSome = true then 1 else 0)
theorem cntM_le (M : Nat → Option Sp) (n : Nat) : cntM M n ≤ n := by
  induction n with
  | zero => exact Nat.le_refl _
  | succ n ih => unfold cntM; split <;> omega
def putM (M : Nat → Option Sp) (k : Nat) (s : Sp) : Nat → Option Sp := fun j => if j = k then some s else M j
def delM (M : Nat → Option Sp) (k : Nat) : Nat → Option Sp := fun j => if j = k then none else M j
theorem cntM_far {M N : Nat → Option Sp} {n : Nat} (h : ∀ j, j < n → M j = N j) : cntM M n = cntM N n := by
  induction n with
  | zero => rfl
  | succ n ih => unfold cntM; rw [ih (fun j hj => h j (by omega)), h n (by omega)]
theorem cntM_put {M : Nat → Option Sp} {n k : Nat} (hk : k < n) (s : Sp) : cntM (putM M k s) n = if (M k).isSome = true then cntM M n else cntM M n + 1 := by
  induction n with
  | zero => omega
  | succ n ih =>
    by_cases e : k = n
    · subst e
      unfold cntM
      rw [cntM_far (M := putM M k s) (N := M) (fun j hj => if_neg (by omega)), show putM M k s k = some s from if_pos rfl]
      cases hm : (M k).isSome <;> simp
    · have h1 := ih (by omega)
      unfold cntM
      rw [h1, show putM M k s n = M n from if_neg (fun h => e h.symm)]
      cases hm : (M k).isSome <;> simp <;> omega
theorem cntM_del {M : Nat → Option Sp} {n k : Nat} (hk : k < n) : cntM (delM M k) n + (if (M k).isSome = true then 1 else 0) = cntM M n := by
  induction n with
  | zero => omega
  | succ n ih =>
    by_cases e : k = n
    · subst e
      unfold cntM
      rw [cntM_far (M := delM M k) (N := M) (fun j hj => if_neg (by omega)), show delM M k k = none from if_pos rfl]
      simp
    · have h1 := ih (by omega)
      unfold cntM
      rw [show delM M k n = M n from if_neg (fun h => e h.symm)]
      omega
/-- Block m is a map of places below n that has these spans. -/
def MapAt (w : World) (m n : Nat) (M : Nat → Option Sp) : Prop :=
  (∃ D : DataW Unit, w.ownsMap Try.prog 3 spanElem m n D ∧ Maps.size D = cntM M n ∧ ∀ k : Nat, Maps.has D (.int .i64 (k : Int)) = (M k).isSome ∧ D.atKey (.int .i64 (k : Int)) (spanD (0, 0)) = spanD ((M k).getD (0, 0)))
section
variable {w w' : World} {m n : Nat} {M : Nat → Option Sp}
theorem MapAt.drew (h : MapAt w m n M) : MapAt w.drew m n M := h
theorem MapAt.lt (h : MapAt w m n M) : m < w.heap.size := by obtain ⟨D, h, _⟩ := h; exact h.lt
theorem MapAt.heap (h : MapAt w m n M) (he : w'.heap[m]? = w.heap[m]?) : MapAt w' m n M := by
  obtain ⟨D, ⟨es, clock, h1, h2, h3, h4⟩, h5⟩ := h
  exact ⟨D, ⟨es, clock, he.trans h1, h2, h3, h4⟩, h5⟩
theorem MapAt.kept {S : List Nat} (h : MapAt w m n M) (hk : Kept w w' S) (hs : m ∉ S) : MapAt w' m n M := h.heap (hk.block m h.lt hs)
theorem fit_none : WideElems.Fit Try.prog 3 spanElem #[] 0 := by
  obtain ⟨es, clock, h1, h2, _⟩ := World.ownsMap_made (default : World) Try.prog 3 spanElem
  rw [heap_alloc_new] at h1
  injection h1 with h1
  injection h1 with h1 h3
  subst h1 h3
  exact h2
theorem cntM_none (n : Nat) : cntM (fun _ => none) n = 0 := by
  induction n with
  | zero => rfl
  | succ n ih => unfold cntM; rw [ih]; rfl
theorem MapAt.none_ (h : w.heap[m]? = some (.map #[] 0)) (n : Nat) : MapAt w m n (fun _ => none) :=
  ⟨.map [], ⟨#[], 0, h, fit_none, Nat.zero_le _, by simp⟩, by rw [cntM_none]; rfl, fun k => ⟨rfl, rfl⟩⟩
theorem own_fit {k : TypeId} {R : Value → Option (DataW Unit × List MemPlace)} {b c : Nat} {D : DataW Unit} (h : w.ownsMap Try.prog k R b c D) {c' : Nat} (hc : Maps.size D ≤ c') : w.ownsMap Try.prog k R b c' D := by
  obtain ⟨es, clock, h1, h2, h3, rfl⟩ := h
  refine ⟨es, clock, h1, h2, ?_, rfl⟩
  have := length_read (P := Try.prog) (k := k) (R0 := R) es
  unfold Maps.size at hc
  simp only [this] at hc
  exact hc
theorem int_map : Maps.Keyed Try.prog 3 := Maps.int_keyed Try.underlying3
theorem map_type : Try.prog.underlying 115 = some (.map 3 31) := Try.underlying115
theorem span_zero (w : World) : (zeroValue 31).run Try.prog w = .ok (valS (0, 0)) w := Try.zeroValue31 w
theorem MapAt.look (h : MapAt w m n M) {k : Nat} (hk : k ≤ 100000000) : (Instr.lookup 115 (.map (some m)) (.int .i64 (k : Int)) false).run Try.prog w = .ok (valS ((M k).getD (0, 0))) w := by
  obtain ⟨D, h1, _, h2⟩ := h
  obtain ⟨v, ps, hrun, hv⟩ := h1.lookup int_map map_type (span_zero w) (spanElem_mk (0, 0)) (Maps.keyOf_int_mk Try.underlying3 (key_wf hk))
  obtain ⟨s, rfl, hz⟩ := spanElem_inv hv
  rw [(h2 k).2] at hz
  rw [hrun, spanD_inj (congrArg Prod.fst hz)]
theorem MapAt.look_ok (h : MapAt w m n M) {k : Nat} (hk : k ≤ 100000000) : (Instr.lookup 115 (.map (some m)) (.int .i64 (k : Int)) true).run Try.prog w = .ok (.tuple #[valS ((M k).getD (0, 0)), .bool (M k).isSome]) w := by
  obtain ⟨D, h1, _, h2⟩ := h
  obtain ⟨v, ps, hrun, hv⟩ := h1.look_ok int_map map_type (span_zero w) (spanElem_mk (0, 0)) (Maps.keyOf_int_mk Try.underlying3 (key_wf hk))
  obtain ⟨s, rfl, hz⟩ := spanElem_inv hv
  rw [(h2 k).2] at hz
  rw [hrun, (h2 k).1, spanD_inj (congrArg Prod.fst hz)]
set_option maxRecDepth 100000 in
theorem MapAt.store (h : MapAt w m n M) {k : Nat} (hk : k < n) (hc : n ≤ 100000000) (s : Sp) : ∃ w', (Instr.mapUpdate 115 (.map (some m)) (.int .i64 (k : Int)) (valS s)).run Try.prog w = .ok () w' ∧ MapAt w' m n (putM M k s) ∧ w.mapTurned w' m := by
  obtain ⟨D, h1, hsz, h2⟩ := h
  have hl : WideAt.IsKeyLit (.int .i64 (k : Int)) := trivial
  have htd := h1.tidy int_map
  obtain ⟨w', hrun, h3, h4⟩ := h1.store int_map map_type (by unfold maxLen; omega) (Maps.keyOf_int_mk Try.underlying3 (key_wf (k := k) (by omega))) (spanElem_mk s)
  have hsz2 : Maps.size (D.put (.int .i64 (k : Int)) (spanD s)) = cntM (putM M k s) n := by
    rw [Maps.size_put htd, (h2 k).1, hsz, cntM_put hk]
  refine ⟨w', hrun, ⟨_, own_fit h3 (by rw [hsz2]; exact cntM_le _ _), hsz2, fun j => ?_⟩, h4⟩
  unfold putM
  by_cases e : j = k
  · subst e
    rw [if_pos rfl]
    exact ⟨Maps.has_put_same h1.isMap hl _, Maps.atKey_put_same h1.isMap hl _ _⟩
  · rw [if_neg e]
    have hne : (Lit.int .i64 (j : Int)) ≠ .int .i64 (k : Int) := fun e9 => e (by have := (Lit.int.inj e9).2; omega)
    exact ⟨(Maps.has_put_other hne _).trans (h2 j).1, (Maps.atKey_put_other hne _ _).trans (h2 j).2⟩
set_option maxRecDepth 100000 in
theorem MapAt.drop (h : MapAt w m n M) {k : Nat} (hk : k < n) (hc : n ≤ 100000000) (ty : TypeId) : ∃ w', (Builtin.delete_ #[115, 3] ty #[.map (some m), .int .i64 (k : Int)]).run Try.prog w = .ok (.tuple #[]) w' ∧ MapAt w' m n (delM M k) ∧ w.mapTurned w' m := by
  obtain ⟨D, h1, hsz, h2⟩ := h
  have htd := h1.tidy int_map
  obtain ⟨w', hrun, h3, h4⟩ := h1.drop int_map map_type (Maps.keyOf_int_mk Try.underlying3 (key_wf (k := k) (by omega))) ty
  have hsz2 : Maps.size (D.del (.int .i64 (k : Int))) = cntM (delM M k) n := by
    have e1 := Maps.size_del (k := .int .i64 (k : Int)) htd
    have e2 := cntM_del (M := M) hk
    rw [(h2 k).1] at e1
    omega
  refine ⟨w', hrun, ⟨_, h3, hsz2, fun j => ?_⟩, h4⟩
  unfold delM
  by_cases e : j = k
  · subst e
    rw [if_pos rfl]
    exact ⟨Maps.has_del_same, Maps.atKey_del_same _⟩
  · rw [if_neg e]
    have hne : (Lit.int .i64 (j : Int)) ≠ .int .i64 (k : Int) := fun e9 => e (by have := (Lit.int.inj e9).2; omega)
    exact ⟨(Maps.has_del_other hne).trans (h2 j).1, (Maps.atKey_del_other hne _).trans (h2 j).2⟩
theorem kept_turned (h : w.mapTurned w' m) : Kept w w' [m] := Kept.of_grown h.grown (List.mem_singleton_self _)
end
end Go.Proofs.Ytmgoakfnmgngoaa
/- The hull of spans, as plain mathematics. -/
namespace Go.Proofs.Ytmgoakfnmgngoaa
open Go.RowKit
/-- The span around two. -/
def hullMore (st s : Sp) : Sp := (if s.1 < st.1 then s.1 else st.1, if st.2 < s.2 then s.2 else st.2)
def hullStep (st s : Sp) : Sp := if rightB s = true then hullMore (if rightB st = true then st else s) s else st
def hullS (l : List Sp) : Sp := l.foldl hullStep (0, 0)
end Go.Proofs.Ytmgoakfnmgngoaa
/- The project's Parts of spans. -/
namespace Go.Proofs.Ytmgoakfnmgngoaa
open Go.RowKit

set_option maxRecDepth 100000 in
set_option maxHeartbeats 1000000 in
theorem prParts_any (A : Option Addr) (n c : Nat) (l : List Sp) (m : Int) (w : World) (hr : Rd w 2 A n (cellsS l)) (hn : n ≤ maxLen) :
    Calls Try.prog 42 #[.slice A n c, .int .i64 m] w fun e w' => e = .returned (.bool (partsS l m)) ∧ Below w.heap.size w w' := by
  have hlen : l.length = n := by have := hr.1; rw [cellsS_len] at this; omega
  have HL := Lib.hid hlen
  clear hlen
  unfold maxLen at hn
  go_enter Try.func42, Try.ntmps42
  go_wp2
  go_loopw [5, 10] (fun e i wr => ∃ (k : Nat) (x : Int), k ≤ n ∧ i = .int .i64 k ∧ e = .int .i64 x ∧ partsS l m = partsFrom x (l.drop k) m ∧ Below w.heap.size w wr) (fun _ i _ => n - (intOf i).toNat)
  case atStart => exact ⟨0, 0, Nat.zero_le _, rfl, rfl, rfl, Below.refl _ _⟩
  case round =>
    obtain ⟨k, x, hk, rfl, rfl, hp, hb⟩ := hrel
    have HP := Lib.hid hp
    clear hp
    by_cases hlt : k < n
    · obtain ⟨s, hsk⟩ : ∃ s, l[k]? = some s := ⟨_, List.getElem?_eq_getElem (by rw [HL.out]; exact hlt)⟩
      obtain ⟨ad, rfl, hab, c1, c2⟩ := (hr.below hb).span hsk
      have HD := Lib.hid (dropCons hsk)
      clear hsk
      obtain ⟨lo, hi⟩ := s
      simp only at c1 c2
      go_wp2_with fail
      refine (prRight_any lo hi _).mono ?_
      rintro e w1 ⟨rfl, hb1⟩
      have hb2 := hb.trans ((below_self (below_new wr _) hb1).mono hb.size)
      have d1 : w1.cell? ⟨wr.heap.size, 0, none⟩ = some (.int .i64 lo) := cell_below hb1 (by rw [World.cell?_alloc_at _ _ _ _ rfl]; rfl)
      have d2 : w1.cell? ⟨wr.heap.size, 1, none⟩ = some (.int .i64 hi) := cell_below hb1 (by rw [World.cell?_alloc_at _ _ _ _ rfl]; rfl)
      clear hb1 c1 c2
      cases hr1 : rightB (lo, hi) with
      | false =>
        have HF := Lib.hid (show partsS l m = false by rw [HP.out, HD.out]; exact partsFrom_no (.inl hr1))
        go_wp2
        go_ret
        exact ⟨retB (by simp [HF.out]), hb2⟩
      | true =>
        cases he : (lo == x) with
        | false =>
          have hne : (lo != x) = true := by simpa using he
          have HF := Lib.hid (show partsS l m = false by rw [HP.out, HD.out]; exact partsFrom_no (.inr he))
          go_wp2
          go_ret
          exact ⟨retB (by simp [HF.out]), hb2⟩
        | true =>
          have hne : (lo != x) = false := by simpa using he
          have HF := Lib.hid (show partsS l m = partsFrom hi (l.drop (k + 1)) m by rw [HP.out, HD.out]; exact partsFrom_yes hr1 he)
          go_wp2
          go_roundw
          case rel => exact ⟨k + 1, hi, by omega, by go_num, rfl, HF.out, hb2⟩
          case measure => simp [intOf]; omega
    · have HF := Lib.hid (show partsS l m = (x == m) by rw [HP.out, List.drop_eq_nil_of_le (by rw [HL.out]; omega)]; rfl)
      go_wp2
      go_ret
      exact ⟨retB (by simp [HF.out]), hb⟩
end Go.Proofs.Ytmgoakfnmgngoaa
/- prHas_any. -/
namespace Go.Proofs.Ytmgoakfnmgngoaa
open Go.RowKit

theorem prHas_any (lo hi p : Int) (w : World) :
    Calls Try.prog 71 #[.agg #[.int .i64 lo, .int .i64 hi], .int .i64 p] w fun e w' => e = .returned (.bool (hasB (lo, hi) p)) ∧ Below w.heap.size w w' := by
  have hc : p < lo ∨ (lo ≤ p ∧ p < hi) ∨ (lo ≤ p ∧ hi ≤ p) := by omega
  rcases hc with h | ⟨h, h'⟩ | ⟨h, h'⟩ <;>
    (go_enter Try.func71, Try.ntmps71
     go_wp2
     go_ret
     refine ⟨retB ?_, below_new _ _⟩
     simp [hasB]
     try omega)

end Go.Proofs.Ytmgoakfnmgngoaa
/- slices.Clone at []int: a row of the call's own that reads as the argument does. -/
namespace Go.Proofs.Ytmgoakfnmgngoaa
open Go.RowKit

theorem cloneInt_slice : SliceOf Try.prog 46 3 1 8 := .mk_ (z := .int .i64 0) Try.underlying46 (by kernel_rfl) rfl
theorem cloneInt_any (A : Option Addr) (n c : Nat) (xs : List Value) (w : World) (hr : Rd w 1 A n xs) (h1 : ∀ u ∈ xs, u.oneCell' = true) (hm : n ≤ 16777216) :
    Calls Try.prog 63 #[.slice A n c] w fun e w' => ∃ v, e = .returned v ∧ w'.ownsRow w.heap.size 3 1 v n xs ∧ Below w.heap.size w w' := by
  rcases A with _ | ad
  · have h0 : n = 0 := by
      rcases Nat.eq_zero_or_pos n with h | h
      · exact h
      · obtain ⟨_, e, _⟩ := hr.2 h
        cases e
    subst h0
    have hx : xs = [] := List.eq_nil_of_length_eq_zero (by simpa using hr.1)
    subst hx
    have hq := fun w => Lib.run_eql_slice_nil (P := Try.prog) w 46 3 none 0 c 0 0 Try.underlying46
    go_enter Try.func63, Try.ntmps63
    go_wp2
    go_ret
    exact ⟨_, rfl, ⟨rfl, .inl ⟨rfl, rfl⟩⟩, Below.refl _ _⟩
  · have hq := fun w => Lib.run_eql_slice_nil (P := Try.prog) w 46 3 (some ad) n c 0 0 Try.underlying46
    have hown : (w.alloc (.cells #[] 3)).ownsRow w.heap.size 3 1 (.slice (some ⟨w.heap.size, 0, none⟩) 0 0) 0 [] := World.ownsRow_made w #[] 0 (Nat.le_refl _) (Nat.zero_le _) rfl
    go_enter Try.func63, Try.ntmps63
    go_wp2_with (at_builtin; refine wpList_app rfl _ _ _ rfl cloneInt_slice (by decide) _ 0 [] rfl hown ad n c xs rfl (by have := hr.1; omega) (hr.alloc _).news h1 (by omega) (by unfold maxLen; omega) (by simp) ?_; intro v1 w1 hown1 hg1 hat1)
    go_ret
    exact ⟨v1, rfl, by simpa using hown1, below_app ((Below.refl _ _).alloc (Nat.le_refl _) _) hg1 hown (by simp)⟩
end Go.Proofs.Ytmgoakfnmgngoaa
/- What writes to some blocks alone leaves: rows, what lies below. -/
namespace Go.Proofs.Ytmgoakfnmgngoaa
open Go.RowKit

theorem own_kept {w w' : World} {base : Nat} {e : TypeId} {size n : Nat} {v : Value} {xs : List Value} {S : List Nat} (h : w.ownsRow base e size v n xs) (hk : Kept w w' S) (hs : ∀ x ∈ S, x < base) : w'.ownsRow base e size v n xs :=
  ⟨h.1, h.2.imp id fun ⟨g, cap, cur, e1, hb, hg, r⟩ => ⟨g, cap, cur, e1, hb, hk.heap hg (fun hm => by have := hs g hm; omega), r⟩⟩
theorem own_keptG {w w' : World} {base : Nat} {e : TypeId} {size n g c : Nat} {xs : List Value} {S : List Nat} (h : w.ownsRow base e size (.slice (some ⟨g, 0, none⟩) n c) n xs) (hk : Kept w w' S) (hs : g ∉ S) : w'.ownsRow base e size (.slice (some ⟨g, 0, none⟩) n c) n xs := by
  refine ⟨h.1, h.2.imp id fun ⟨g', cap, cur, e1, hb, hg, r⟩ => ⟨g', cap, cur, e1, hb, hk.heap hg (fun hm => ?_), r⟩⟩
  simp only [Value.slice.injEq, Option.some.injEq, Addr.mk.injEq, and_true] at e1
  obtain ⟨rfl, _⟩ := e1
  exact hs hm
theorem Kept.lower {a b w : World} {S : List Nat} {B : Nat} (h : Kept a b S) (hb : Below B w a) (hB : B ≤ a.heap.size) (hs : ∀ x ∈ S, B ≤ x) : Below B w b :=
  ⟨h.os.trans hb.os, h.tape.trans hb.tape, h.output.trans hb.output, Nat.le_trans hb.size h.size, fun k hk => (h.block k (Nat.lt_of_lt_of_le hk hB) (fun hm => by have := hs k hm; omega)).trans (hb.block k hk)⟩
theorem Kept.belowE {w b : World} (h : Kept w b []) : Below w.heap.size w b := h.lower (Below.refl _ _) (Nat.le_refl _) (by simp)
theorem Kept.moreS {a b : World} {S T : List Nat} (h : Kept a b S) (hs : ∀ x ∈ S, x ∈ T) : Kept a b T := ⟨h.os, h.tape, h.output, h.size, fun i hi hn => h.block i hi (fun hm => hn (hs i hm))⟩
/-- Writes to new blocks are no writes. -/
theorem Kept.less {a b : World} {S T : List Nat} (h : Kept a b S) (hs : ∀ x ∈ S, x ∈ T ∨ a.heap.size ≤ x) : Kept a b T := ⟨h.os, h.tape, h.output, h.size, fun i hi hn => h.block i hi (fun hm => by
  rcases hs i hm with h' | h'
  · exact hn h'
  · omega)⟩
end Go.Proofs.Ytmgoakfnmgngoaa
/- slices.Equal at []int: whether the two slices read alike; the world is as it was, but for draws. -/
namespace Go.Proofs.Ytmgoakfnmgngoaa
open Go.RowKit

theorem take_eq_succ {xs ys : List Int} {k : Nat} (h : xs.take k = ys.take k) {x : Int} (h1 : xs[k]? = some x) (h2 : ys[k]? = some x) : xs.take (k + 1) = ys.take (k + 1) := by
  rw [List.take_add_one, List.take_add_one, h, h1, h2]

set_option maxRecDepth 100000 in
set_option maxHeartbeats 1000000 in
theorem equalInt_same (n : Nat) (A B : Option Addr) (c d : Nat) (xs ys : List Int) (w : World) (hxn : xs.length = n) (hyn : ys.length = n)
    (hx : Rd w 1 A n (xs.map (Value.int .i64))) (hy : Rd w 1 B n (ys.map (Value.int .i64))) (hn : n ≤ maxLen) :
    Calls Try.prog 29 #[.slice A n c, .slice B n d] w fun e w' => e = .returned (.bool (decide (xs = ys))) ∧ ∃ q, w' = w.drewN q := by
  unfold maxLen at hn
  have HX := Lib.hid hxn
  have HY := Lib.hid hyn
  clear hxn hyn
  go_enter Try.func29, Try.ntmps29
  go_wp2
  go_loopw [13] (fun i wr => ∃ k q : Nat, k ≤ n ∧ i = .int .i64 k ∧ wr = w.drewN q ∧ xs.take k = ys.take k) (fun i _ => n - (intOf i).toNat)
  case atStart => exact ⟨0, 0, Nat.zero_le _, rfl, rfl, rfl⟩
  case round =>
    obtain ⟨k, q, hk, rfl, rfl, ht⟩ := hrel
    have HT := Lib.hid ht
    clear ht
    by_cases hlt : k < n
    · obtain ⟨x, hxk⟩ : ∃ x, xs[k]? = some x := ⟨_, List.getElem?_eq_getElem (by rw [HX.out]; exact hlt)⟩
      obtain ⟨y, hyk⟩ : ∃ y, ys[k]? = some y := ⟨_, List.getElem?_eq_getElem (by rw [HY.out]; exact hlt)⟩
      obtain ⟨a, rfl, _, ha⟩ := hx.at_ hlt
      obtain ⟨b, rfl, _, hb⟩ := hy.at_ hlt
      have ca : w.cell? (a.add k) = some (.int .i64 x) := ha _ (by rw [List.getElem?_map, hxk]; rfl)
      have cb : w.cell? (b.add k) = some (.int .i64 y) := hb _ (by rw [List.getElem?_map, hyk]; rfl)
      have HXK := Lib.hid hxk
      have HYK := Lib.hid hyk
      clear hxk hyk ha hb
      by_cases he : x = y
      · subst he
        go_wp2
        go_quiet (fail)
        go_wp2
        go_roundw
        case rel => exact ⟨k + 1, _, by omega, by go_num, rfl, take_eq_succ HT.out HXK.out HYK.out⟩
        case measure => simp [intOf]; omega
      · have hne : (x == y) = false := by simpa using he
        have hne' : (x != y) = true := by simpa using he
        have hf : decide (xs = ys) = false := decide_eq_false (fun e => he (by have h1 := HXK.out; rw [e, HYK.out] at h1; injection h1 with h1; exact h1.symm))
        clear he
        go_wp2
        go_quiet (fail)
        go_wp2
        go_ret
        exact ⟨retB (by simp [hf]), _, World.drewN_drewN _ _ _⟩
    · have hkn : k = n := by omega
      have htr : decide (xs = ys) = true := decide_eq_true (by
        have h := HT.out
        rwa [List.take_of_length_le (by rw [HX.out]; omega), List.take_of_length_le (by rw [HY.out]; omega)] at h)
      clear hkn
      go_wp2
      go_ret
      exact ⟨retB (by simp [htr]), _, rfl⟩

theorem equalInt_any (A B : Option Addr) (n m c d : Nat) (xs ys : List Int) (w : World) (hx : Rd w 1 A n (xs.map (Value.int .i64))) (hy : Rd w 1 B m (ys.map (Value.int .i64))) (hn : n ≤ maxLen) (hm : m ≤ maxLen) :
    Calls Try.prog 29 #[.slice A n c, .slice B m d] w fun e w' => e = .returned (.bool (decide (xs = ys))) ∧ ∃ q, w' = w.drewN q := by
  have hxl : xs.length = n := by simpa using hx.len1
  have hyl : ys.length = m := by simpa using hy.len1
  by_cases h : n = m
  · subst h
    exact equalInt_same n A B c d xs ys w hxl hyl hx hy hn
  · have hne : decide (xs = ys) = false := decide_eq_false (fun e => h (by rw [← hxl, ← hyl, e]))
    have h1 : ((n : Int) == m) = false := by simp; omega
    have h2 : ((n : Int) != m) = true := by simp; omega
    clear hxl hyl
    go_enter Try.func29, Try.ntmps29
    go_wp2
    go_ret
    exact ⟨retB (by simp [hne]), 0, rfl⟩
theorem equalInt_b (A B : Option Addr) (n m c d : Nat) (xs ys : List Int) (w : World) (hx : Rd w 1 A n (xs.map (Value.int .i64))) (hy : Rd w 1 B m (ys.map (Value.int .i64))) (hn : n ≤ maxLen) (hm : m ≤ maxLen) :
    Calls Try.prog 29 #[.slice A n c, .slice B m d] w fun e w' => e = .returned (.bool (decide (xs = ys))) ∧ Below w.heap.size w w' :=
  (equalInt_any A B n m c d xs ys w hx hy hn hm).mono fun _ _ ⟨he, q, hq⟩ => ⟨he, hq ▸ drewBelow q⟩
end Go.Proofs.Ytmgoakfnmgngoaa
/- slices.Equal at []api.Cluster: whether the two slices read alike. -/
namespace Go.Proofs.Ytmgoakfnmgngoaa
open Go.RowKit

theorem eqSpanAt (d : Nat) (a b : Sp) (w : World) : (Op.equalIn (d + 2) 31 (.agg #[.int .i64 a.1, .int .i64 a.2]) (.agg #[.int .i64 b.1, .int .i64 b.2])).run Try.prog w = .ok (decide (a = b)) w := by
  have u3 := Try.underlying3
  have a3 := Try.isAgg3
  have z3 := Try.sizeOf3
  have hS : Try.prog.underlying 31 = some (.struct (Try.prog.fieldsOf 31)) := by kernel_rfl
  have hp : Try.prog.stoodInHeld 31 = false := by kernel_rfl
  rw [show d + 2 = (d + 1) + 1 from rfl, run_equalIn_agg w (d + 1) 31 _ _ hS hp]
  simp only [Program.fieldsOf, Try.underlying31]
  go_simp
  obtain ⟨a1, a2⟩ := a
  obtain ⟨b1, b2⟩ := b
  by_cases h1 : a1 = b1 <;> by_cases h2 : a2 = b2 <;> simp [h1, h2]
theorem eqClusAt (d : Nat) (a b : Cl) (w : World) : (Op.equalIn (d + 3) 33 (.agg #[.int .i64 a.1.1, .int .i64 a.1.2, .int .i64 a.2.1, .int .i64 a.2.2]) (.agg #[.int .i64 b.1.1, .int .i64 b.1.2, .int .i64 b.2.1, .int .i64 b.2.2])).run Try.prog w = .ok (decide (a = b)) w := by
  have hS : Try.prog.underlying 33 = some (.struct (Try.prog.fieldsOf 33)) := by kernel_rfl
  have hp : Try.prog.stoodInHeld 33 = false := by kernel_rfl
  have ag2 := Try.isAgg31
  have z2 := Try.sizeOf31
  have h1 := eqSpanAt d a.1 b.1 w
  have h2 := eqSpanAt d a.2 b.2 w
  rw [show d + 3 = (d + 2) + 1 from rfl, run_equalIn_agg w (d + 2) 33 _ _ hS hp]
  simp only [Program.fieldsOf, Try.underlying33]
  obtain ⟨⟨a1, a2⟩, a3, a4⟩ := a
  obtain ⟨⟨b1, b2⟩, b3, b4⟩ := b
  simp only at h1 h2
  go_simp
  by_cases e1 : a1 = b1 <;> by_cases e2 : a2 = b2 <;> by_cases e3 : a3 = b3 <;> by_cases e4 : a4 = b4 <;> simp [e1, e2, e3, e4]
theorem neqC (a b : Cl) (w : World) : (binOp .neq 33 (.agg #[.int .i64 a.1.1, .int .i64 a.1.2, .int .i64 a.2.1, .int .i64 a.2.2]) (.agg #[.int .i64 b.1.1, .int .i64 b.1.2, .int .i64 b.2.1, .int .i64 b.2.2])).run Try.prog w = .ok (.bool (!(decide (a = b)))) w := by
  rw [run_neq_struct, show (10000 : Nat) = 9997 + 3 from rfl, eqClusAt 9997 a b w]
  rfl
theorem guardC : Try.prog.eqGuardType Try.prog.depth 33 = false := by kernel_rfl

theorem take_eq_succC {xs ys : List Cl} {k : Nat} (h : xs.take k = ys.take k) {x : Cl} (h1 : xs[k]? = some x) (h2 : ys[k]? = some x) : xs.take (k + 1) = ys.take (k + 1) := by
  rw [List.take_add_one, List.take_add_one, h, h1, h2]

set_option maxRecDepth 100000 in
set_option maxHeartbeats 1000000 in
theorem equalC_same (n : Nat) (A B : Option Addr) (c d : Nat) (xs ys : List Cl) (w : World) (hxn : xs.length = n) (hyn : ys.length = n)
    (hx : Rd w 4 A n (cellsC xs)) (hy : Rd w 4 B n (cellsC ys)) (hn : n ≤ maxLen) :
    Calls Try.prog 18 #[.slice A n c, .slice B n d] w fun e w' => e = .returned (.bool (decide (xs = ys))) ∧ ∃ q, w' = w.drewN q := by
  unfold maxLen at hn
  have HX := Lib.hid hxn
  have HY := Lib.hid hyn
  clear hxn hyn
  have hg := guardC
  go_enter Try.func18, Try.ntmps18
  go_wp2
  go_loopw [13] (fun i wr => ∃ k q : Nat, k ≤ n ∧ i = .int .i64 k ∧ wr = w.drewN q ∧ xs.take k = ys.take k) (fun i _ => n - (intOf i).toNat)
  case atStart => exact ⟨0, 0, Nat.zero_le _, rfl, rfl, rfl⟩
  case round =>
    obtain ⟨k, q, hk, rfl, rfl, ht⟩ := hrel
    have HT := Lib.hid ht
    clear ht
    by_cases hlt : k < n
    · obtain ⟨x, hxk⟩ : ∃ x, xs[k]? = some x := ⟨_, List.getElem?_eq_getElem (by rw [HX.out]; exact hlt)⟩
      obtain ⟨y, hyk⟩ : ∃ y, ys[k]? = some y := ⟨_, List.getElem?_eq_getElem (by rw [HY.out]; exact hlt)⟩
      obtain ⟨a, rfl, _, a1, a2, a3, a4⟩ := hx.clus hxk
      obtain ⟨b, rfl, _, b1, b2, b3, b4⟩ := hy.clus hyk
      have hq := neqC x y
      have HXK := Lib.hid hxk
      have HYK := Lib.hid hyk
      clear hxk hyk
      by_cases he : x = y
      · subst he
        simp only [decide_true, Bool.not_true] at hq
        obtain ⟨⟨x1, x2⟩, x3, x4⟩ := x
        simp only at a1 a2 a3 a4 b1 b2 b3 b4 hq
        go_wp2
        go_quiet (fail)
        go_wp2
        go_roundw
        case rel => exact ⟨k + 1, _, by omega, by go_num, rfl, take_eq_succC HT.out HXK.out HYK.out⟩
        case measure => simp [intOf]; omega
      · have hf : decide (xs = ys) = false := decide_eq_false (fun e => he (by have h1 := HXK.out; rw [e, HYK.out] at h1; injection h1 with h1; exact h1.symm))
        rw [decide_eq_false he] at hq
        simp only [Bool.not_false] at hq
        clear he
        obtain ⟨⟨x1, x2⟩, x3, x4⟩ := x
        obtain ⟨⟨y1, y2⟩, y3, y4⟩ := y
        simp only at a1 a2 a3 a4 b1 b2 b3 b4 hq
        go_wp2
        go_quiet (fail)
        go_wp2
        go_ret
        exact ⟨retB (by simp [hf]), _, World.drewN_drewN _ _ _⟩
    · have htr : decide (xs = ys) = true := decide_eq_true (by
        have h := HT.out
        rwa [List.take_of_length_le (by rw [HX.out]; omega), List.take_of_length_le (by rw [HY.out]; omega)] at h)
      go_wp2
      go_ret
      exact ⟨retB (by simp [htr]), _, rfl⟩

theorem equalC_b (A B : Option Addr) (n m c d : Nat) (xs ys : List Cl) (w : World) (hx : Rd w 4 A n (cellsC xs)) (hy : Rd w 4 B m (cellsC ys)) (hn : n ≤ maxLen) (hm : m ≤ maxLen) :
    Calls Try.prog 18 #[.slice A n c, .slice B m d] w fun e w' => e = .returned (.bool (decide (xs = ys))) ∧ Below w.heap.size w w' := by
  have hxl : xs.length = n := by have := hx.1; rw [cellsC_len] at this; omega
  have hyl : ys.length = m := by have := hy.1; rw [cellsC_len] at this; omega
  by_cases h : n = m
  · subst h
    exact (equalC_same n A B c d xs ys w hxl hyl hx hy hn).mono fun _ _ ⟨he, q, hq⟩ => ⟨he, hq ▸ drewBelow q⟩
  · have hne : decide (xs = ys) = false := decide_eq_false (fun e => h (by rw [← hxl, ← hyl, e]))
    have h1 : ((n : Int) == m) = false := by simp; omega
    have h2 : ((n : Int) != m) = true := by simp; omega
    clear hxl hyl
    go_enter Try.func18, Try.ntmps18
    go_wp2
    go_ret
    exact ⟨retB (by simp [hne]), Below.refl _ _⟩
end Go.Proofs.Ytmgoakfnmgngoaa
