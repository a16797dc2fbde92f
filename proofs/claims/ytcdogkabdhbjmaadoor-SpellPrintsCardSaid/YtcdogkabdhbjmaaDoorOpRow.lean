/- Options in memory, whole: stored field by field, and told as a result. -/
import Derived.Test.YtcdogkabdhbjmaaDoorOpSet
import Derived.Laws.ResultCell
namespace Go.Proofs.YtcdogkabdhbjmaaDoor
open Go.RowKit

/-- Fourteen stores. -/
def stored (W : World) (b : Nat) (o' : Opt) : World := ((((((((((((((W.setCell ⟨b, 0, none⟩ (.int .i64 o'.d)).setCell ⟨b, 1, none⟩ (.int .i64 o'.l)).setCell ⟨b, 2, none⟩ (.int .i64 o'.t)).setCell ⟨b, 3, none⟩ (.int .i64 o'.g)).setCell ⟨b, 4, none⟩ (.bool o'.b0)).setCell ⟨b, 5, none⟩ (.bool o'.b1)).setCell ⟨b, 6, none⟩ (.bool o'.b2)).setCell ⟨b, 7, none⟩ (.bool o'.b3)).setCell ⟨b, 8, none⟩ (.bool o'.b4)).setCell ⟨b, 9, none⟩ (.bool o'.b5)).setCell ⟨b, 10, none⟩ (.bool o'.b6)).setCell ⟨b, 11, none⟩ (.bool o'.b7)).setCell ⟨b, 12, none⟩ (.bool o'.b8)).setCell ⟨b, 13, none⟩ (.bool o'.b9))
theorem OptAt.setF0 {W : World} {b : Nat} {o : Opt} (h : OptAt W b o) (x : Bool) : OptAt (W.setCell ⟨b, 4, none⟩ (.bool x)) b { o with b0 := x } := h.set 4 _ _ rfl (by decide)
theorem OptAt.setF1 {W : World} {b : Nat} {o : Opt} (h : OptAt W b o) (x : Bool) : OptAt (W.setCell ⟨b, 5, none⟩ (.bool x)) b { o with b1 := x } := h.set 5 _ _ rfl (by decide)
theorem OptAt.setF2 {W : World} {b : Nat} {o : Opt} (h : OptAt W b o) (x : Bool) : OptAt (W.setCell ⟨b, 6, none⟩ (.bool x)) b { o with b2 := x } := h.set 6 _ _ rfl (by decide)
theorem OptAt.setF3 {W : World} {b : Nat} {o : Opt} (h : OptAt W b o) (x : Bool) : OptAt (W.setCell ⟨b, 7, none⟩ (.bool x)) b { o with b3 := x } := h.set 7 _ _ rfl (by decide)
theorem OptAt.setF4 {W : World} {b : Nat} {o : Opt} (h : OptAt W b o) (x : Bool) : OptAt (W.setCell ⟨b, 8, none⟩ (.bool x)) b { o with b4 := x } := h.set 8 _ _ rfl (by decide)
theorem OptAt.setF5 {W : World} {b : Nat} {o : Opt} (h : OptAt W b o) (x : Bool) : OptAt (W.setCell ⟨b, 9, none⟩ (.bool x)) b { o with b5 := x } := h.set 9 _ _ rfl (by decide)
theorem OptAt.setF6 {W : World} {b : Nat} {o : Opt} (h : OptAt W b o) (x : Bool) : OptAt (W.setCell ⟨b, 10, none⟩ (.bool x)) b { o with b6 := x } := h.set 10 _ _ rfl (by decide)
theorem OptAt.setF7 {W : World} {b : Nat} {o : Opt} (h : OptAt W b o) (x : Bool) : OptAt (W.setCell ⟨b, 11, none⟩ (.bool x)) b { o with b7 := x } := h.set 11 _ _ rfl (by decide)
theorem OptAt.setF8 {W : World} {b : Nat} {o : Opt} (h : OptAt W b o) (x : Bool) : OptAt (W.setCell ⟨b, 12, none⟩ (.bool x)) b { o with b8 := x } := h.set 12 _ _ rfl (by decide)
theorem OptAt.setF9 {W : World} {b : Nat} {o : Opt} (h : OptAt W b o) (x : Bool) : OptAt (W.setCell ⟨b, 13, none⟩ (.bool x)) b { o with b9 := x } := h.set 13 _ _ rfl (by decide)
theorem OptAt.stored {W : World} {b : Nat} {o : Opt} (h : OptAt W b o) (o' : Opt) : OptAt (stored W b o') b o' := by
  obtain ⟨d', l', t', g', a0, a1, a2, a3, a4, a5, a6, a7, a8, a9⟩ := o'
  obtain ⟨d, l, t, g, b0, b1, b2, b3, b4, b5, b6, b7, b8, b9⟩ := o
  unfold Proofs.YtcdogkabdhbjmaaDoor.stored
  simp only
  have h1 := ((((h.set0 d').set1 l').set2 t').set3 g')
  simp only at h1
  have h2 := ((((h1.setF0 a0).setF1 a1).setF2 a2).setF3 a3).setF4 a4
  simp only at h2
  exact ((((h2.setF5 a5).setF6 a6).setF7 a7).setF8 a8).setF9 a9
theorem below_stored {W ww : World} {b B : Nat} (o' : Opt) (hB : B ≤ b) (hw : Below B ww W) : Below B ww (stored W b o') := by
  unfold stored
  exact (below_setB (below_setB (below_setB (below_setB (below_setB (below_setB (below_setB (below_setB (below_setB (below_setB (below_setB (below_setB (below_setB (below_setB hw hB _ _) hB _ _) hB _ _) hB _ _) hB _ _) hB _ _) hB _ _) hB _ _) hB _ _) hB _ _) hB _ _) hB _ _) hB _ _) hB _ _)
theorem cell_upto {W W' : World} {B : Nat} {a : Addr} (hb : Below B W W') (h : a.block < B) : W'.cell? a = W.cell? a := by
  unfold World.cell?
  rw [hb.block _ h]
theorem OptAt.upto {W W' : World} {b B : Nat} {o : Opt} (h : OptAt W b o) (hb : Below B W W') (hl : b < B) : OptAt W' b o :=
  ⟨fun j u hu => (cell_upto hb hl).trans (h.1 j u hu), fun i => (hb.frozen hl).trans (h.2 i)⟩
theorem KindsAt.upto {W W' : World} {B : Nat} (h : KindsAt W) (hb : Below B W W') (hl : 1 < B) : KindsAt W' :=
  ⟨(cell_upto hb hl).trans h.1, (cell_upto hb hl).trans h.2.1, (cell_upto hb hl).trans h.2.2.1, (cell_upto hb hl).trans h.2.2.2⟩
/-- The result's cell and the error, told together. -/
theorem res_opt {fn : Func} {p u : Tmp} (hf : fn.results = #[.cell p 23, .tmp u]) (tmps : Array Value) (w : World) (g : Nat) (o : Opt) (E : Value) (hp : tmps.getD p undef = .pointer (some ⟨g, 0, none⟩)) (hu : tmps.getD u undef = E)
    (hO : OptAt w g o) : (results fn tmps).run Tryd.prog w = .ok (.tuple #[o.val, E]) w := by
  have hc := hO.1
  have c0 := hc 0 _ rfl
  have c1 := hc 1 _ rfl
  have c2 := hc 2 _ rfl
  have c3 := hc 3 _ rfl
  have c4 := hc 4 _ rfl
  have c5 := hc 5 _ rfl
  have c6 := hc 6 _ rfl
  have c7 := hc 7 _ rfl
  have c8 := hc 8 _ rfl
  have c9 := hc 9 _ rfl
  have c10 := hc 10 _ rfl
  have c11 := hc 11 _ rfl
  have c12 := hc 12 _ rfl
  have c13 := hc 13 _ rfl
  rw [results_cell_tmp hf, hp, hu]
  obtain ⟨d, l, t, g, b0, b1, b2, b3, b4, b5, b6, b7, b8, b9⟩ := o
  simp only [Opt.val, Opt.cells] at *
  clear hc hp hu hf hO
  go_simp
end Go.Proofs.YtcdogkabdhbjmaaDoor
