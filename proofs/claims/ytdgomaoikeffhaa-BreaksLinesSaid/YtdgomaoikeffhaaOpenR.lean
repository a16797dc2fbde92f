/- Arguments that came in: slices of rows (structs of integers), spans, integers, opened to lists. -/
import Derived.Test.YtdgomaoikeffhaaSpD
import Derived.Deep.Slices
import Derived.ProofKit
import Derived.OpenShut
import Derived.Lib.SmallJoins
import Derived.Test.YtdgomaoikeffhaaOpenI
namespace Go.Proofs.Ytdgomaoikeffhaa
open Go.ChangeShapes Go.WideShapes Go.ChangeAt Go.RowKit Go.Deep

section
variable {H : Type} {enc : TypeId × Value → H} {W : World} {base : Nat} {sp : Nat → Bool} {held : Bool}
set_option maxRecDepth 100000 in
theorem span_of {b fuel : Nat} {cs : List Value} {x : DataW H × List MemPlace} (h : DataW.trod enc Try.prog W b sp held fuel 24 cs = some x) : ∃ s : Sp, cs = encS s ∧ FitS s := by
  obtain ⟨xs, m, _, _, hl, hn, hf⟩ := DataW.trod_struct Try.underlying24 h
  have hc : Try.prog.cellsOf 24 = 2 := by kernel_rfl
  have hi : Try.prog.cellsOf 3 = 1 := by kernel_rfl
  rw [hc] at hl
  match cs, hl with
  | [u, v], _ =>
    match xs, hn with
    | [x0, x1], _ =>
      have f0 := hf 0 _ rfl
      have f1 := hf 1 _ rfl
      simp [hi] at f0 f1
      obtain ⟨a, e0, _, w0⟩ := DataW.trod_int Try.underlying3 f0
      obtain ⟨b, e1, _, w1⟩ := DataW.trod_int Try.underlying3 f1
      injection e0 with e0
      injection e1 with e1
      subst e0 e1
      exact ⟨(a, b), rfl, fit_of_wf w0, fit_of_wf w1⟩

set_option maxRecDepth 100000 in
/-- A slice of spans that came in. -/
theorem open_spans {v : Value} {d : DataW H} {p : List MemPlace} (hval : Value.okWide Try.prog W .any base 29 v) (h : DataW.Trod enc Try.prog W 0 (fun _ => true) true 29 v d p) :
    ∃ (A : Option Addr) (n c : Nat) (l : List Sp), v = .slice A n c ∧ n ≤ c ∧ c ≤ maxLen ∧ Rd W 2 A n (cellsS l) ∧ l.length = n ∧ ∀ s ∈ l, FitS s :=
  open_rows encS 2 (by decide) (fun _ => rfl) FitS Try.underlying29 (by kernel_rfl) (fun _ _ _ h => span_of h) hval h
set_option maxRecDepth 100000 in
/-- A span that came in by value. -/
theorem open_span {v : Value} {d : DataW H} {p : List MemPlace} (hval : Value.okWide Try.prog W .any base 24 v) (h : DataW.Trod enc Try.prog W 0 (fun _ => true) true 24 v d p) :
    ∃ lo hi : Int, v = .agg #[.int .i64 lo, .int .i64 hi] ∧ Fit lo ∧ Fit hi := by
  obtain ⟨cs, rfl, hsz⟩ := okWide_struct Try.underlying24 hval
  obtain ⟨fuel, hf⟩ := h
  obtain ⟨s, he, h1, h2⟩ := span_of hf
  refine ⟨s.1, s.2, ?_, h1, h2⟩
  obtain ⟨cs⟩ := cs
  simp only [Value.cells] at he
  rw [show cs = encS s from he]
  rfl
end
end Go.Proofs.Ytdgomaoikeffhaa
