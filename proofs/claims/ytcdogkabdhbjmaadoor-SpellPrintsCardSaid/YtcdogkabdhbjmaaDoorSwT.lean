/- Options as words: the words as the program lays them, read. -/
import Derived.Test.YtcdogkabdhbjmaaDoorSwD
import Derived.Test.YtcdogkabdhbjmaaDoorOpRow
import Derived.Test.YtcdogkabdhbjmaaDoorLoadV
namespace Go.Proofs.YtcdogkabdhbjmaaDoor
open Go.RowKit

def termCells : List Value := termsL.flatMap fun t => [Value.string t.1, .int .i64 (t.2.1 : Nat), .int .i64 t.2.2]
def termsA : Array Value := termCells.toArray
def TermsAt (w : World) : Prop := ∀ j v, termCells[j]? = some v → w.cell? ⟨0, j, none⟩ = some v
theorem TermsAt.below {w w' : World} (h : TermsAt w) (hb : Below w.heap.size w w') : TermsAt w' := fun j v hv => cell_below hb (h j v hv)
theorem TermsAt.upto {W W' : World} {B : Nat} (h : TermsAt W) (hb : Below B W W') (hl : 0 < B) : TermsAt W' := fun j v hv => (cell_upto hb hl).trans (h j v hv)
theorem loadTerms {w : World} (h : TermsAt w) : (loadVar 66 ⟨0, 0, none⟩).run Tryd.prog w = .ok (.agg termsA) w := by
  have hl2 : (loadCells ⟨0, 0, none⟩ termCells.length).run Tryd.prog w = .ok termCells.toArray w :=
    run_loadCells_list (P := Tryd.prog) w ⟨0, 0, none⟩ termCells (fun j v hv => by rw [addNew]; exact h j v hv)
  have hn : termCells.length = 78 := by decide +kernel
  rw [hn] at hl2
  have ha := Tryd.isAgg66 w
  simp [loadVar, Sem.run_bind, ha, hl2, termsA]
def termV (t : ByteArray × Nat × Int) : Value := .agg #[.string t.1, .int .i64 (t.2.1 : Nat), .int .i64 t.2.2]
section
variable {P : Program}
theorem run_indexS {t e : TypeId} {n : Nat} {i : TypeInfo} (hu : P.underlying t = some (.array n e)) (hi : P.info? e = some i) (ha : ∀ w, (isAgg e).run P w = .ok true w) {cs : Array Value} {j k : Nat} (hk : P.cellsOf e = k) (hj : j < n) (w : World) :
    (Instr.index t (.agg cs) (.int .i64 (j : Int))).run P w = .ok (.agg (cs.extract (j * k) (j * k + k))) w := by
  subst hk
  have hs := run_sizeOf (P := P) w hi
  unfold Instr.index
  simp [asIntOf, run_underlying hu, hj, hs, part, ha]
end
theorem termsA_at : ∀ i t, termsL[i]? = some t → termsA.extract (i * 3) (i * 3 + 3) = #[.string t.1, .int .i64 (t.2.1 : Nat), .int .i64 t.2.2] := by
  have h : ∀ i, i < 26 → ∃ t, termsL[i]? = some t ∧ termsA.extract (i * 3) (i * 3 + 3) = #[.string t.1, .int .i64 (t.2.1 : Nat), .int .i64 t.2.2] := by
    intro i hi
    match i, hi with
    | 0, _ => exact ⟨_, rfl, rfl⟩
    | 1, _ => exact ⟨_, rfl, rfl⟩
    | 2, _ => exact ⟨_, rfl, rfl⟩
    | 3, _ => exact ⟨_, rfl, rfl⟩
    | 4, _ => exact ⟨_, rfl, rfl⟩
    | 5, _ => exact ⟨_, rfl, rfl⟩
    | 6, _ => exact ⟨_, rfl, rfl⟩
    | 7, _ => exact ⟨_, rfl, rfl⟩
    | 8, _ => exact ⟨_, rfl, rfl⟩
    | 9, _ => exact ⟨_, rfl, rfl⟩
    | 10, _ => exact ⟨_, rfl, rfl⟩
    | 11, _ => exact ⟨_, rfl, rfl⟩
    | 12, _ => exact ⟨_, rfl, rfl⟩
    | 13, _ => exact ⟨_, rfl, rfl⟩
    | 14, _ => exact ⟨_, rfl, rfl⟩
    | 15, _ => exact ⟨_, rfl, rfl⟩
    | 16, _ => exact ⟨_, rfl, rfl⟩
    | 17, _ => exact ⟨_, rfl, rfl⟩
    | 18, _ => exact ⟨_, rfl, rfl⟩
    | 19, _ => exact ⟨_, rfl, rfl⟩
    | 20, _ => exact ⟨_, rfl, rfl⟩
    | 21, _ => exact ⟨_, rfl, rfl⟩
    | 22, _ => exact ⟨_, rfl, rfl⟩
    | 23, _ => exact ⟨_, rfl, rfl⟩
    | 24, _ => exact ⟨_, rfl, rfl⟩
    | 25, _ => exact ⟨_, rfl, rfl⟩
    | n + 26, h => omega
  intro i t ht
  have hi : i < 26 := (List.getElem?_eq_some_iff.1 ht).1
  obtain ⟨t', h1, h2⟩ := h i hi
  rw [ht] at h1
  obtain rfl := Option.some.inj h1
  exact h2
theorem idxTerms {i : Nat} {t : ByteArray × Nat × Int} (h : termsL[i]? = some t) (w : World) : (Instr.index 66 (.agg termsA) (.int .i64 (i : Int))).run Tryd.prog w = .ok (termV t) w := by
  have hi : i < 26 := (List.getElem?_eq_some_iff.1 h).1
  rw [run_indexS (e := 65) (i := (Tryd.prog.info? 65).getD default) (k := 3) Tryd.underlying66 (by kernel_rfl) (fun w => Tryd.isAgg65 w) (by kernel_rfl) hi w, termsA_at i t h]
  rfl
end Go.Proofs.YtcdogkabdhbjmaaDoor
