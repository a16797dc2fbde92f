/- '==' of arrays whose elements are one cell each. -/
import Derived.Test.YtcdogkabdhbjmaaDoorMem
import Derived.ChangeKeysEq
import Derived.Laws.StructEq
namespace Go.Proofs.YtcdogkabdhbjmaaDoor
open Go.RowKit

section
variable {P : Program} {α : Type} [BEq α] (mk : α → Value)
theorem eqItems_one (d : Nat) {e : TypeId} (he : P.plainKey e = true) (hc : P.cellsOf e = 1) (heq : ∀ a b w, (Op.equalIn d e (mk a) (mk b)).run P w = .ok (a == b) w) (xs ys : Array Value) (f g : Nat → α) (w : World) :
    ∀ is : List Nat, (∀ i ∈ is, xs[i]? = some (mk (f i)) ∧ ys[i]? = some (mk (g i))) → (Op.eqItems d e (P.cellsOf e) xs ys is).run P w = .ok (is.all fun i => f i == g i) w
  | [], _ => rfl
  | i :: is, h => by
    obtain ⟨h1, h2⟩ := h i (by simp)
    have ih := eqItems_one d he hc heq xs ys f g w is fun j hj => h j (by simp [hj])
    rw [hc] at ih ⊢
    have p1 := run_part_plain (P := P) w he (xs := xs) (off := i * 1) (by rw [Nat.mul_one]; exact h1)
    have p2 := run_part_plain (P := P) w he (xs := ys) (off := i * 1) (by rw [Nat.mul_one]; exact h2)
    simp only [Op.eqItems, Sem.run_bind, p1, p2, Result.andThen_ok, heq, List.all_cons]
    cases f i == g i
    · simp
    · simp [ih]
theorem equal_one (d n : Nat) {t e : TypeId} {i : TypeInfo} (hu : P.underlying t = some (.array n e)) (hi : P.info? e = some i) (he : P.plainKey e = true) (hc : P.cellsOf e = 1) (heq : ∀ a b w, (Op.equalIn d e (mk a) (mk b)).run P w = .ok (a == b) w)
    (xs ys : Array Value) (f g : Nat → α) (h : ∀ i, i < n → xs[i]? = some (mk (f i)) ∧ ys[i]? = some (mk (g i))) (w : World) :
    (Op.equalIn (d + 1) t (.agg xs) (.agg ys)).run P w = .ok ((List.range n).all fun i => f i == g i) w := by
  rw [run_equalIn_array w d xs ys hu hi]
  exact eqItems_one mk d he hc heq xs ys f g w _ fun j hj => h j (by simpa using hj)
end
end Go.Proofs.YtcdogkabdhbjmaaDoor
