/- A slice of truths that came in, opened to a list; a byte. -/
import Derived.Test.YtbnjflkafdkcpaaOpenI
import Derived.Test.YtbnjflkafdkcpaaOpenBy
namespace Go.Proofs.Ytbnjflkafdkcpaa
open Go.ChangeShapes Go.WideShapes Go.ChangeAt Go.RowKit Go.Deep

section
variable {H : Type} {enc : TypeId × Value → H} {W : World} {base : Nat}
set_option maxRecDepth 100000 in
theorem open_bools_ {v : Value} {d : DataW H} {p : List MemPlace} (hval : Value.okWide Try.prog W .any base 23 v) (h : DataW.Trod enc Try.prog W 0 (fun _ => true) true 23 v d p) :
    ∃ (A : Option Addr) (n c : Nat) (l : List Bool), v = .slice A n c ∧ n ≤ c ∧ c ≤ maxLen ∧ Rd W 1 A n (l.map Value.bool) ∧ l.length = n := by
  have := open_rows (fun x : Bool => [Value.bool x]) 1 (by decide) (fun _ => rfl) (fun _ => True) Try.underlying23 (by kernel_rfl) (fun fuel cs x h => by
    obtain ⟨a, rfl, _⟩ := DataW.trod_bool Try.underlying4 h
    exact ⟨a, rfl, trivial⟩) hval h
  simpa [List.flatMap_singleton', ← List.map_eq_flatMap] using this
end
end Go.Proofs.Ytbnjflkafdkcpaa
