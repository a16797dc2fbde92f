/- Options that came in by value. -/
import Derived.Test.YtcdogkabdhbjmaaDoorOpD
import Derived.Test.YtcdogkabdhbjmaaDoorOpenI
namespace Go.Proofs.YtcdogkabdhbjmaaDoor
open Go.ChangeShapes Go.WideShapes Go.ChangeAt Go.RowKit Go.Deep

section
variable {H : Type} {enc : TypeId × Value → H} {W : World} {base : Nat} {sp : Nat → Bool} {held : Bool}
set_option maxRecDepth 100000 in
theorem opts_of {b fuel : Nat} {cs : List Value} {x : DataW H × List MemPlace} (h : DataW.trod enc Tryd.prog W b sp held fuel 23 cs = some x) : ∃ o : Opt, cs = o.cells.toList ∧ (Fit o.d ∧ Fit o.l ∧ Fit o.t ∧ Fit o.g) := by
  obtain ⟨xs, m, _, _, hl, hn, hf⟩ := DataW.trod_struct Tryd.underlying23 h
  have hc : Tryd.prog.cellsOf 23 = 14 := by kernel_rfl
  have hi : Tryd.prog.cellsOf 3 = 1 := by kernel_rfl
  have hb : Tryd.prog.cellsOf 4 = 1 := by kernel_rfl
  rw [hc] at hl
  match cs, hl with
  | [u0, u1, u2, u3, u4, u5, u6, u7, u8, u9, u10, u11, u12, u13], _ =>
    match xs, hn with
    | [x0, x1, x2, x3, x4, x5, x6, x7, x8, x9, x10, x11, x12, x13], _ =>
      have f0 := hf 0 _ rfl
      have f1 := hf 1 _ rfl
      have f2 := hf 2 _ rfl
      have f3 := hf 3 _ rfl
      have f4 := hf 4 _ rfl
      have f5 := hf 5 _ rfl
      have f6 := hf 6 _ rfl
      have f7 := hf 7 _ rfl
      have f8 := hf 8 _ rfl
      have f9 := hf 9 _ rfl
      have f10 := hf 10 _ rfl
      have f11 := hf 11 _ rfl
      have f12 := hf 12 _ rfl
      have f13 := hf 13 _ rfl
      simp [hi, hb] at f0 f1 f2 f3 f4 f5 f6 f7 f8 f9 f10 f11 f12 f13
      obtain ⟨a0, e0, _, w0⟩ := DataW.trod_int Tryd.underlying3 f0
      obtain ⟨a1, e1, _, w1⟩ := DataW.trod_int Tryd.underlying3 f1
      obtain ⟨a2, e2, _, w2⟩ := DataW.trod_int Tryd.underlying3 f2
      obtain ⟨a3, e3, _, w3⟩ := DataW.trod_int Tryd.underlying3 f3
      obtain ⟨a4, e4, _⟩ := DataW.trod_bool Tryd.underlying4 f4
      obtain ⟨a5, e5, _⟩ := DataW.trod_bool Tryd.underlying4 f5
      obtain ⟨a6, e6, _⟩ := DataW.trod_bool Tryd.underlying4 f6
      obtain ⟨a7, e7, _⟩ := DataW.trod_bool Tryd.underlying4 f7
      obtain ⟨a8, e8, _⟩ := DataW.trod_bool Tryd.underlying4 f8
      obtain ⟨a9, e9, _⟩ := DataW.trod_bool Tryd.underlying4 f9
      obtain ⟨a10, e10, _⟩ := DataW.trod_bool Tryd.underlying4 f10
      obtain ⟨a11, e11, _⟩ := DataW.trod_bool Tryd.underlying4 f11
      obtain ⟨a12, e12, _⟩ := DataW.trod_bool Tryd.underlying4 f12
      obtain ⟨a13, e13, _⟩ := DataW.trod_bool Tryd.underlying4 f13
      injection e0 with e0
      injection e1 with e1
      injection e2 with e2
      injection e3 with e3
      injection e4 with e4
      injection e5 with e5
      injection e6 with e6
      injection e7 with e7
      injection e8 with e8
      injection e9 with e9
      injection e10 with e10
      injection e11 with e11
      injection e12 with e12
      injection e13 with e13
      subst e0 e1 e2 e3 e4 e5 e6 e7 e8 e9 e10 e11 e12 e13
      exact ⟨⟨a0, a1, a2, a3, a4, a5, a6, a7, a8, a9, a10, a11, a12, a13⟩, rfl, fit_of_wf w0, fit_of_wf w1, fit_of_wf w2, fit_of_wf w3⟩
set_option maxRecDepth 100000 in
/-- Options that came in by value. -/
theorem open_opts {v : Value} {d : DataW H} {p : List MemPlace} (hval : Value.okWide Tryd.prog W .any base 23 v) (h : DataW.Trod enc Tryd.prog W 0 (fun _ => true) true 23 v d p) :
    ∃ o : Opt, v = o.val ∧ (Fit o.d ∧ Fit o.l ∧ Fit o.t ∧ Fit o.g) := by
  obtain ⟨cs, rfl, hsz⟩ := okWide_struct Tryd.underlying23 hval
  obtain ⟨fuel, hf⟩ := h
  obtain ⟨o, he, hfit⟩ := opts_of hf
  refine ⟨o, ?_, hfit⟩
  obtain ⟨cs⟩ := cs
  simp only [Value.cells] at he
  rw [show cs = o.cells.toList from he]
  rfl
end
end Go.Proofs.YtcdogkabdhbjmaaDoor
