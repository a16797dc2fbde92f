/- Blocks of 128 whole numbers and the table's struct: their zeros; whole blocks loaded and stored. -/
import Derived.Test.YtcbiaeeifclieaaTrBlk
import Derived.Deep.WholeRow
import Derived.Laws.ResultCell
import Derived.KernelRfl
namespace Go.Proofs.Ytcbiaeeifclieaa
open Go.RowKit

/-- The cells of whole numbers. -/
def intsA (xs : List Int) : Array Value := (xs.map (Value.int .i64)).toArray
theorem intsA_size (xs : List Int) : (intsA xs).size = xs.length := by simp [intsA]
theorem intsA_one (xs : List Int) : (intsA xs).all (·.oneCell') = true := by
  rw [Array.all_eq_true_iff_forall_mem]
  intro v hv
  simp [intsA] at hv
  obtain ⟨x, _, rfl⟩ := hv
  rfl
theorem IntBlk.cells {w : World} {b : Nat} {xs : List Int} (h : IntBlk w b xs) : ∃ t, w.heap[b]? = some (.cells (intsA xs) t (0, 0)) := h
theorem blkZero : ∃ Z : Array Value, Z = intsA (List.replicate 128 0) ∧ ∀ w, (zeroValue 154).run Try.prog w = .ok (.agg Z) w :=
  ⟨_, rfl, (zero_of_info (n := 128) (by kernel_rfl)).1⟩
theorem blkSize {xs : List Int} (h : xs.length = 128) : (Try.prog.info? 154).map (·.size) = some (intsA xs).size := by
  rw [intsA_size, h]
  kernel_rfl
theorem modify_same {α : Type} {h : Array α} {g : Nat} {o : α} {f : α → α} (hg : h[g]? = some o) (hf : f o = o) : h.modify g f = h := by
  apply Array.ext_getElem?
  intro i
  rw [Array.getElem?_modify]
  by_cases hi : g = i
  · subst hi
    rw [if_pos rfl, hg]
    simp [hf]
  · rw [if_neg hi]
theorem setRow_same {w : World} {g : Nat} {cs : Array Value} {t : TypeId} (h : w.heap[g]? = some (.cells cs t (0, 0))) : w.setRow g cs = w := by
  unfold World.setRow
  rw [modify_same h rfl]
/-- A whole block stored. -/
theorem run_storeBlk {w : World} {g : Nat} {xs ys : List Int} {T : TypeId} (h : w.heap[g]? = some (.cells (intsA xs) T (0, 0))) (hx : xs.length = 128) (hy : ys.length = 128) :
    (storeCells ⟨g, 0, none⟩ (intsA ys).toList 0).run Try.prog w = .ok () (w.setRow g (intsA ys)) := by
  have hi := blkSize hy
  have := run_storeVar_row (P := Try.prog) w g T 154 _ (intsA ys) h hi (by rw [intsA_size, intsA_size, hx, hy]) (intsA_one ys)
  cases hq : Try.prog.info? 154 with
  | none => simp [hq] at hi
  | some i =>
    have hs : (intsA ys).size = i.size := by simp [hq] at hi; omega
    simpa [storeVar, sizeOf, typeInfo, hq, Value.cells, hs] using this
theorem run_storeBlk_same {w : World} {g : Nat} {xs : List Int} {T : TypeId} (h : w.heap[g]? = some (.cells (intsA xs) T (0, 0))) (hx : xs.length = 128) :
    (storeCells ⟨g, 0, none⟩ (intsA xs).toList 0).run Try.prog w = .ok () w := by
  rw [run_storeBlk h hx hx, setRow_same h]
end Go.Proofs.Ytcbiaeeifclieaa
