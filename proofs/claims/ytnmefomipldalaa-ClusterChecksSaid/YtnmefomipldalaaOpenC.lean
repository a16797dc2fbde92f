/- A slice of clusters that came in, opened to a list. -/
import Derived.Test.YtnmefomipldalaaOpenR
import Derived.Test.YtnmefomipldalaaClD
namespace Go.Proofs.Ytnmefomipldalaa
open Go.ChangeShapes Go.WideShapes Go.ChangeAt Go.RowKit Go.Deep

def FitC (c : Cl) : Prop := FitS c.1 ∧ FitS c.2
section
variable {H : Type} {enc : TypeId × Value → H} {W : World} {base : Nat} {sp : Nat → Bool} {held : Bool}
set_option maxRecDepth 100000 in
theorem clus_of {b fuel : Nat} {cs : List Value} {x : DataW H × List MemPlace} (h : DataW.trod enc Try.prog W b sp held fuel 33 cs = some x) : ∃ s : Cl, cs = encC s ∧ FitC s := by
  obtain ⟨xs, m, _, _, hl, hn, hf⟩ := DataW.trod_struct Try.underlying33 h
  have hc : Try.prog.cellsOf 33 = 4 := by kernel_rfl
  have hi : Try.prog.cellsOf 31 = 2 := by kernel_rfl
  rw [hc] at hl
  match cs, hl with
  | [u, v, y, z], _ =>
    match xs, hn with
    | [x0, x1], _ =>
      have f0 := hf 0 _ rfl
      have f1 := hf 1 _ rfl
      simp [hi] at f0 f1
      obtain ⟨s0, e0, g0⟩ := span_of f0
      obtain ⟨s1, e1, g1⟩ := span_of f1
      simp [encS] at e0 e1
      obtain ⟨rfl, rfl⟩ := e0
      obtain ⟨rfl, rfl⟩ := e1
      exact ⟨(s0, s1), rfl, g0, g1⟩
set_option maxRecDepth 100000 in
/-- A slice of clusters that came in. -/
theorem open_clus {v : Value} {d : DataW H} {p : List MemPlace} (hval : Value.okWide Try.prog W .any base 22 v) (h : DataW.Trod enc Try.prog W 0 (fun _ => true) true 22 v d p) :
    ∃ (A : Option Addr) (n c : Nat) (l : List Cl), v = .slice A n c ∧ n ≤ c ∧ c ≤ maxLen ∧ Rd W 4 A n (cellsC l) ∧ l.length = n ∧ ∀ s ∈ l, FitC s :=
  open_rows encC 4 (by decide) (fun _ => rfl) FitC Try.underlying22 (by kernel_rfl) (fun _ _ _ h => clus_of h) hval h
end
end Go.Proofs.Ytnmefomipldalaa
