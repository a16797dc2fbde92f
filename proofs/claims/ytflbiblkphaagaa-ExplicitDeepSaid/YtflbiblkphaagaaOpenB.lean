/- A slice of truths that came in, opened to a list; a byte. -/
import Derived.Test.YtflbiblkphaagaaOpenI
namespace Go.Proofs.Ytflbiblkphaagaa
open Go.ChangeShapes Go.WideShapes Go.ChangeAt Go.RowKit Go.Deep

section
variable {H : Type} {enc : TypeId × Value → H} {W : World} {base : Nat}
set_option maxRecDepth 100000 in
theorem open_bools_ {v : Value} {d : DataW H} {p : List MemPlace} (hval : Value.okWide Try.prog W .any base 62 v) (h : DataW.Trod enc Try.prog W 0 (fun _ => true) true 62 v d p) :
    ∃ (A : Option Addr) (n c : Nat) (l : List Bool), v = .slice A n c ∧ n ≤ c ∧ c ≤ maxLen ∧ Rd W 1 A n (l.map Value.bool) ∧ l.length = n := by
  have := open_rows (fun x : Bool => [Value.bool x]) 1 (by decide) (fun _ => rfl) (fun _ => True) Try.underlying62 (by kernel_rfl) (fun fuel cs x h => by
    obtain ⟨a, rfl, _⟩ := DataW.trod_bool Try.underlying4 h
    exact ⟨a, rfl, trivial⟩) hval h
  simpa [List.flatMap_singleton', ← List.map_eq_flatMap] using this
theorem byte_of_wf {x : Int} (h : (Lit.int .u8 x).wf = true) : ∃ m : Nat, x = (m : Int) ∧ m ≤ 255 := by
  simp [Lit.wf, IntKind.min, IntKind.max, IntKind.signed, IntKind.bits] at h
  exact ⟨x.toNat, by omega, by omega⟩
end
end Go.Proofs.Ytflbiblkphaagaa
