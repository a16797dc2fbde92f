/- Slices of pairs that came in. -/
import Derived.Test.YtcjcimdembkbkaaOpenI
namespace Go.Proofs.Ytcjcimdembkbkaa
open Go.RowKit

section
variable {H : Type} {enc : TypeId × Value → H} {W : World} {base : Nat} {sp : Nat → Bool} {held : Bool}
set_option maxRecDepth 100000 in
theorem pair_of {b fuel : Nat} {cs : List Value} {x : DataW H × List MemPlace} (h : DataW.trod enc Try.prog W b sp held fuel 37 cs = some x) : ∃ s : Sp, cs = encS s ∧ FitS s := by
  obtain ⟨xs, m, _, _, hl, hn, hf⟩ := DataW.trod_struct Try.underlying37 h
  have hc : Try.prog.cellsOf 37 = 2 := by kernel_rfl
  have hi : Try.prog.cellsOf 3 = 1 := by kernel_rfl
  rw [hc] at hl
  match cs, hl with
  | [u, v], _ =>
    match xs, hn with
    | [x0, x1], _ =>
      have f0 := hf 0 _ rfl
      have f1 := hf 1 _ rfl
      simp [hi] at f0 f1
      obtain ⟨a, e0, _, w0⟩ := DataW.trod_int Try.underlying3 f0
      obtain ⟨b, e1, _, w1⟩ := DataW.trod_int Try.underlying3 f1
      injection e0 with e0
      injection e1 with e1
      subst e0 e1
      exact ⟨(a, b), rfl, fit_of_wf w0, fit_of_wf w1⟩

set_option maxRecDepth 100000 in
/-- A slice of pairs that came in. -/
theorem open_pairs {v : Value} {d : DataW H} {p : List MemPlace} (hval : Value.okWide Try.prog W .any base 35 v) (h : DataW.Trod enc Try.prog W 0 (fun _ => true) true 35 v d p) :
    ∃ (A : Option Addr) (n c : Nat) (l : List Sp), v = .slice A n c ∧ n ≤ c ∧ c ≤ maxLen ∧ Rd W 2 A n (cellsS l) ∧ l.length = n ∧ ∀ s ∈ l, FitS s :=
  open_rows encS 2 (by decide) (fun _ => rfl) FitS Try.underlying35 (by kernel_rfl) (fun _ _ _ h => pair_of h) hval h
end
end Go.Proofs.Ytcjcimdembkbkaa
