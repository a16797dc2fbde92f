/- The round's two ends: a block that is known, and one that is new. -/
import Derived.Test.YtcbiaeeifclieaaTrK3
namespace Go.Proofs.Ytcbiaeeifclieaa
open Go.RowKit

theorem getG_fit {l : List Rg} {z : Int} (hz : FitI z) (hl : ∀ s ∈ l, FitI s.2.2) (c : Int) : FitI (getG l z c) := by
  induction l with
  | nil => exact hz
  | cons s l ih =>
    rw [getG]
    split
    · exact hl s (by simp)
    · exact ih (fun t ht => hl t (by simp [ht]))
theorem blkAt_fit (l : List Rg) (z : Int) (hz : FitI z) (hl : ∀ s ∈ l, FitI s.2.2) (j : Nat) : ∀ x ∈ blkAt l z j, FitI x := by
  intro x hx
  simp only [blkAt, List.mem_map] at hx
  obtain ⟨t, _, rfl⟩ := hx
  exact getG_fit hz hl _
theorem addOff (g o j : Nat) : (⟨g, o, none⟩ : Addr).add j = ⟨g, o + j, none⟩ := by
  unfold Addr.add
  split
  · rename_i h; subst h; rfl
  · rfl
section
variable {w w2 : World} {l0 rest : List Rg} {z c i : Int} {k n0 n2 c2 : Nat} {A2 : Option Addr} {bl : List (List Int)} {wh : List Nat}
theorem StMem.drewN (h : StMem w z bl wh w2) (nq : Nat) : StMem w z bl wh (w2.drewN nq) := h.grown ⟨rfl, rfl, rfl, Nat.le_refl _, fun _ _ _ => rfl⟩
theorem stAt_old (hL : LeftOf l0 z (k + 1) rest) (hI : StInv l0 z k bl wh) (hk : k < 8704) (hn2 : n2 ≤ n0) (hnc : n2 ≤ c2) (hr : Rd w 3 A2 n2 (cellsG rest)) (hm : StMem w z bl wh w2) {q : Nat} (hq : bl[q]? = some (blkAt l0 z k)) (hc : c = (q : Nat)) (hi : i = (k : Int) + 1) :
    StAt w l0 z n0 (.slice A2 n2 c2) (.int .i64 i) (w2.setCell ⟨w.heap.size + 1, k, none⟩ (.int .u16 c)) := by
  subst hc hi
  have h := hm.lay (by rw [hI.len]; exact hk) q
  rw [hI.len] at h
  exact ⟨k + 1, n2, c2, A2, rest, bl, wh ++ [q], by simp, by omega, rfl, hn2, hnc, hr, hL, hI.old hq, h⟩
theorem stAt_new {w1 w3 w4 : World} {b : List Int} {kl : Lit} {D : DataW Unit} {v v' : Value} (hL : LeftOf l0 z (k + 1) rest) (hI : StInv l0 z k bl wh) (hk : k < 8704) (hn2 : n2 ≤ n0) (hnc : n2 ≤ c2) (hr : Rd w 3 A2 n2 (cellsG rest)) (hm : StMem w z bl wh w2) (hb : b = blkAt l0 z k) (hn : b ∉ bl)
    (hD : MapIs D bl) (hkl : keyOf Try.prog 154 (.agg (intsA b)) = some kl)
    (h1 : w1.ownsMap Try.prog 154 (plainElem Try.prog 133) (w.heap.size + 2) (bl.length + 1) (D.put kl (.lit (.int .u16 (bl.length : Nat))))) (g1 : w2.grownBy w1 (some (w.heap.size + 2)))
    (g2 : w1.grownBy w3 none) (h2 : w3.ownsRow (w.heap.size + 3) 154 128 v bl.length (cellsK bl))
    (h3 : w4.ownsRow (w.heap.size + 3) 154 128 v' (bl.length + 1) (cellsK bl ++ b.map (Value.int .i64))) (g3 : w3.grownBy w4 v.ownBlock) (hc : c = (bl.length : Nat)) (hi : i = (k : Int) + 1) :
    StAt w l0 z n0 (.slice A2 n2 c2) (.int .i64 i) ((w4.setCell ⟨w.heap.size + 1, 8704, none⟩ v').setCell ⟨w.heap.size + 1, k, none⟩ (.int .u16 c)) := by
  have h := StMem.push hm (by rw [hI.len]; omega) hD hkl hn h1 g1 g2 h2 h3 g3
  subst hb hc hi
  have h' := h.lay (by rw [hI.len]; exact hk) bl.length
  rw [hI.len] at h'
  exact ⟨k + 1, n2, c2, A2, rest, bl ++ [blkAt l0 z k], wh ++ [bl.length], by simp, by omega, rfl, hn2, hnc, hr, hL, hI.new_ hn, h'⟩
/-- The cells of the struct that are read and written in a round. -/
theorem StMem.reads (hm : StMem w z bl wh w2) : ∃ (cs : Array Value) (Av : Option Addr) (cv : Nat), CellBlk w2 (w.heap.size + 1) cs ∧ StCells cs z wh (.slice Av bl.length cv) ∧ w2.ownsRow (w.heap.size + 3) 154 128 (.slice Av bl.length cv) bl.length (cellsK bl) := by
  obtain ⟨cs, v, h1, h2, h3⟩ := hm.st
  obtain ⟨A, c, rfl, _⟩ := own_form h3
  exact ⟨cs, A, c, h1, h2, h3⟩
end
theorem blkSlice : SliceOf Try.prog 135 154 128 1024 := by
  obtain ⟨Z, hZ, _⟩ := blkZero
  exact .mk_ (z := .agg (intsA (List.replicate 128 0))) Try.underlying135 (by kernel_rfl) (by show (intsA _).size = 128; simp [intsA])
end Go.Proofs.Ytcbiaeeifclieaa
