/- A map from codes to their mirrors that the call itself has made: what it has is right. -/
import Derived.Maps.OwnSet
import Derived.Maps.Views
import Derived.Test.YtbnjflkafdkcpaaPrPm
import Derived.Test.YtbnjflkafdkcpaaKp
namespace Go.Proofs.Ytbnjflkafdkcpaa
open Go.RowKit

def codD (s : Int) : DataW Unit := .lit (.int .i64 s)
def codElem : Value → Option (DataW Unit × List MemPlace)
  | .int .i64 a => some (codD a, [])
  | _ => none
theorem codElem_inv {v : Value} {z : DataW Unit × List MemPlace} (h : codElem v = some z) : ∃ s : Int, v = .int .i64 s ∧ z = (codD s, []) := by
  unfold codElem at h
  split at h
  · exact ⟨_, rfl, (Option.some.inj h).symm⟩
  · simp at h
theorem codD_inj {s t : Int} (h : codD s = codD t) : s = t := by
  unfold codD at h
  simpa using h
/-- Block m is a map of at most n codes; each that it has goes to its mirror. -/
def MirAt (w : World) (m n : Nat) : Prop :=
  ∃ D : DataW Unit, w.ownsMap Try.prog 3 codElem m n D ∧ ∀ c : Int, Maps.has D (.int .i64 c) = true → D.atKey (.int .i64 c) (codD 0) = codD (mirF c)
theorem int_mapC : Maps.Keyed Try.prog 3 := Maps.int_keyed Try.underlying3
theorem map_typeC : Try.prog.underlying 52 = some (.map 3 3) := Try.underlying52
section
variable {w w' : World} {m n : Nat}
theorem MirAt.lt (h : MirAt w m n) : m < w.heap.size := by obtain ⟨D, h, _⟩ := h; exact h.lt
theorem MirAt.heap (h : MirAt w m n) (he : w'.heap[m]? = w.heap[m]?) : MirAt w' m n := by
  obtain ⟨D, ⟨es, clock, h1, h2, h3, h4⟩, h5⟩ := h
  exact ⟨D, ⟨es, clock, he.trans h1, h2, h3, h4⟩, h5⟩
theorem MirAt.low (h : MirAt w m n) (hb : Below w.heap.size w w') : MirAt w' m n := h.heap (hb.block m h.lt)
theorem MirAt.made (w : World) : MirAt (w.alloc (.map #[] 0)) w.heap.size 0 := ⟨.map [], World.ownsMap_made w _ _ _, fun c h => by cases h⟩
theorem MirAt.obj (h : MirAt w m n) : ∃ o, w.heap[m]? = some o ∧ ∀ cs t z, o ≠ .cells cs t z := by
  obtain ⟨D, ⟨es, clock, h1, _⟩, _⟩ := h
  exact ⟨_, h1, fun _ _ _ e => by cases e⟩
theorem MirAt.look (h : MirAt w m n) {c : Int} (hc : (Lit.int .i64 c).wf = true) : ∃ (a : Int) (b : Bool), (Instr.lookup 52 (.map (some m)) (.int .i64 c) true).run Try.prog w = .ok (.tuple #[.int .i64 a, .bool b]) w ∧ (b = true → a = mirF c) := by
  obtain ⟨D, h1, h2⟩ := h
  obtain ⟨v, ps, hrun, hv⟩ := h1.look_ok int_mapC map_typeC (Try.zeroValue3 w) (show codElem (.int .i64 0) = some (codD 0, []) from rfl) (Maps.keyOf_int_mk Try.underlying3 hc)
  obtain ⟨s, rfl, hz⟩ := codElem_inv hv
  refine ⟨s, _, hrun, fun hb => ?_⟩
  exact codD_inj ((congrArg Prod.fst hz).symm.trans (h2 c hb))
theorem MirAt.store (h : MirAt w m n) {c : Int} (hc : (Lit.int .i64 c).wf = true) (hn : n ≤ 100000) : ∃ w', (Instr.mapUpdate 52 (.map (some m)) (.int .i64 c) (.int .i64 (mirF c))).run Try.prog w = .ok () w' ∧ MirAt w' m (n + 1) ∧ w.mapTurned w' m := by
  obtain ⟨D, h1, h2⟩ := h
  have hl : WideAt.IsKeyLit (.int .i64 c) := trivial
  obtain ⟨w', hrun, h3, h4⟩ := h1.store int_mapC map_typeC (by unfold maxLen; omega) (Maps.keyOf_int_mk Try.underlying3 hc) (show codElem (.int .i64 (mirF c)) = some (codD (mirF c), []) from rfl)
  refine ⟨w', hrun, ⟨_, h3, fun j hj => ?_⟩, h4⟩
  by_cases e : j = c
  · subst e
    exact Maps.atKey_put_same h1.isMap hl _ _
  · have hne : (Lit.int .i64 j) ≠ .int .i64 c := fun e9 => e (Lit.int.inj e9).2
    rw [Maps.has_put_other hne] at hj
    rw [Maps.atKey_put_other hne]
    exact h2 j hj
theorem kept_turnedC (h : w.mapTurned w' m) : Kept w w' [m] := Kept.of_grown h.grown (List.mem_singleton_self _)
end
end Go.Proofs.Ytbnjflkafdkcpaa
