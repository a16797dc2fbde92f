/- Options in memory: a field set. -/
import Derived.Test.YtcdogkabdhbjmaaDoorOpF
namespace Go.Proofs.YtcdogkabdhbjmaaDoor
open Go.RowKit

theorem OptAt.lt {W : World} {b : Nat} {o : Opt} (h : OptAt W b o) : b < W.heap.size := cell_lt (h.1 0 _ rfl)
theorem OptAt.set {W : World} {b : Nat} {o : Opt} (h : OptAt W b o) (j : Nat) (u : Value) (o' : Opt) (he : o'.cells = o.cells.setIfInBounds j u) (hj : j < 14) : OptAt (W.setCell ⟨b, j, none⟩ u) b o' := by
  refine ⟨fun i v hv => ?_, fun i => (frozen_set ..).trans (h.2 i)⟩
  rw [he] at hv
  by_cases hi : i = j
  · subst hi
    have hs : i < o.cells.size := hj
    rw [Array.getElem?_setIfInBounds_self_of_lt hs] at hv
    obtain rfl := Option.some.inj hv
    exact set_same (h.1 i _ (Array.getElem?_eq_getElem hs))
  · rw [Array.getElem?_setIfInBounds_ne (fun e => hi e.symm)] at hv
    exact set_other (h.1 i v hv) hi
theorem OptAt.set0 {W : World} {b : Nat} {o : Opt} (h : OptAt W b o) (x : Int) : OptAt (W.setCell ⟨b, 0, none⟩ (.int .i64 x)) b { o with d := x } := h.set 0 _ _ rfl (by decide)
theorem OptAt.set1 {W : World} {b : Nat} {o : Opt} (h : OptAt W b o) (x : Int) : OptAt (W.setCell ⟨b, 1, none⟩ (.int .i64 x)) b { o with l := x } := h.set 1 _ _ rfl (by decide)
theorem OptAt.set2 {W : World} {b : Nat} {o : Opt} (h : OptAt W b o) (x : Int) : OptAt (W.setCell ⟨b, 2, none⟩ (.int .i64 x)) b { o with t := x } := h.set 2 _ _ rfl (by decide)
theorem OptAt.set3 {W : World} {b : Nat} {o : Opt} (h : OptAt W b o) (x : Int) : OptAt (W.setCell ⟨b, 3, none⟩ (.int .i64 x)) b { o with g := x } := h.set 3 _ _ rfl (by decide)
/-- A flag by its place. -/
def Opt.putB (o : Opt) (k : Nat) (x : Bool) : Opt := match k with
  | 0 => { o with b0 := x }
  | 1 => { o with b1 := x }
  | 2 => { o with b2 := x }
  | 3 => { o with b3 := x }
  | 4 => { o with b4 := x }
  | 5 => { o with b5 := x }
  | 6 => { o with b6 := x }
  | 7 => { o with b7 := x }
  | 8 => { o with b8 := x }
  | 9 => { o with b9 := x }
  | _ => o
theorem OptAt.setB {W : World} {b : Nat} {o : Opt} (h : OptAt W b o) (k : Nat) (hk : k < 10) (x : Bool) : OptAt (W.setCell ⟨b, 4 + k, none⟩ (.bool x)) b (o.putB k x) := by
  have hkc : k = 0 ∨ k = 1 ∨ k = 2 ∨ k = 3 ∨ k = 4 ∨ k = 5 ∨ k = 6 ∨ k = 7 ∨ k = 8 ∨ k = 9 := by omega
  refine h.set _ _ _ ?_ (by omega)
  rcases hkc with rfl | rfl | rfl | rfl | rfl | rfl | rfl | rfl | rfl | rfl <;> rfl
theorem below_setB {B : Nat} {w wr : World} {b : Nat} (h : Below B w wr) (hb : B ≤ b) (j : Nat) (u : Value) : Below B w (wr.setCell ⟨b, j, none⟩ u) :=
  ⟨h.os, h.tape, h.output, by simpa [World.setCell] using h.size, fun i hi => (Below.heap_setCell wr ⟨b, j, none⟩ u i (by simp only; omega)).trans (h.block i hi)⟩
end Go.Proofs.YtcdogkabdhbjmaaDoor
