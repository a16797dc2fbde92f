/- Filling a block of codes from a range. -/
import Derived.Test.YtcbiaeeifclieaaRgD
namespace Go.Proofs.Ytcbiaeeifclieaa
open Go.RowKit

/-- The block from the code 'lo' on, 'b', once the codes of 'r' below 'x' have its value. -/
def fillTo (lo : Int) (r : Rg) (x : Int) (b : List Int) : List Int := b.mapIdx fun j y => if r.1 ≤ lo + j ∧ lo + j ≤ r.2.1 ∧ lo + j < x then r.2.2 else y
def fillTB (lo : Int) (r : Rg) (b : List Int) : List Int := b.mapIdx fun j y => if r.1 ≤ lo + j ∧ lo + j ≤ r.2.1 then r.2.2 else y
theorem fillTo_len (lo : Int) (r : Rg) (x : Int) (b : List Int) : (fillTo lo r x b).length = b.length := by simp [fillTo]
theorem fillTB_len (lo : Int) (r : Rg) (b : List Int) : (fillTB lo r b).length = b.length := by simp [fillTB]
theorem fillTo_start (lo : Int) (r : Rg) (b : List Int) (x : Int) (h : x ≤ lo ∨ x ≤ r.1) : fillTo lo r x b = b := by
  apply List.ext_getElem?
  intro j
  simp only [fillTo, List.getElem?_mapIdx]
  cases hb : b[j]? with
  | none => rfl
  | some y =>
    simp only [Option.map_some]
    rw [if_neg (by omega)]
theorem fillTo_step (lo : Int) (r : Rg) (b : List Int) (x : Int) (h0 : lo ≤ x) (h1 : r.1 ≤ x) (h2 : x ≤ r.2.1) : (fillTo lo r x b).set (x - lo).toNat r.2.2 = fillTo lo r (x + 1) b := by
  apply List.ext_getElem?
  intro j
  simp only [List.getElem?_set, fillTo, List.getElem?_mapIdx, List.length_mapIdx]
  by_cases hj : (x - lo).toNat = j
  · subst hj
    rw [if_pos rfl]
    by_cases hl : (x - lo).toNat < b.length
    · rw [if_pos hl, List.getElem?_eq_getElem hl]
      simp only [Option.map_some]
      rw [if_pos (by omega)]
    · rw [if_neg hl, List.getElem?_eq_none (by omega)]
      rfl
  · rw [if_neg hj]
    cases hb : b[j]? with
    | none => rfl
    | some y =>
      simp only [Option.map_some]
      by_cases hc : r.1 ≤ lo + j ∧ lo + j ≤ r.2.1 ∧ lo + j < x
      · rw [if_pos hc, if_pos (by omega)]
      · rw [if_neg hc, if_neg (by omega)]
theorem fillTo_end (lo : Int) (r : Rg) (b : List Int) (x : Int) (h : lo + b.length ≤ x ∨ r.2.1 < x) : fillTo lo r x b = fillTB lo r b := by
  apply List.ext_getElem?
  intro j
  simp only [fillTo, fillTB, List.getElem?_mapIdx]
  cases hb : b[j]? with
  | none => rfl
  | some y =>
    have hj := (List.getElem?_eq_some_iff.1 hb).1
    simp only [Option.map_some]
    by_cases hc : r.1 ≤ lo + j ∧ lo + j ≤ r.2.1
    · rw [if_pos hc, if_pos (by omega)]
    · rw [if_neg hc, if_neg (by omega)]
/-- The block from 'lo' on, and what of the ranges goes on behind it. -/
def cutB (lo : Int) : List Rg → List Int → List Int × List Rg
  | [], b => (b, [])
  | r :: l, b => if r.1 ≤ lo + 127 then (if lo + 127 < r.2.1 then (fillTB lo r b, r :: l) else cutB lo l (fillTB lo r b)) else (b, r :: l)
theorem cutB_far {lo : Int} {r : Rg} {l : List Rg} {b : List Int} (h : lo + 127 < r.1) : cutB lo (r :: l) b = (b, r :: l) := if_neg (by omega)
theorem cutB_over {lo : Int} {r : Rg} {l : List Rg} {b : List Int} (h : r.1 ≤ lo + 127) (h2 : lo + 127 < r.2.1) : cutB lo (r :: l) b = (fillTB lo r b, r :: l) := (if_pos h).trans (if_pos h2)
theorem cutB_on {lo : Int} {r : Rg} {l : List Rg} {b : List Int} (h : r.1 ≤ lo + 127) (h2 : r.2.1 ≤ lo + 127) : cutB lo (r :: l) b = cutB lo l (fillTB lo r b) := (if_pos h).trans (if_neg (by omega))
theorem addZero (a : Addr) : a.add 0 = a := by
  unfold Addr.add
  split
  · rfl
  · rename_i h; cases a; simp_all
/-- The cells of the first range, as the walk spells them. -/
theorem Rd.rg0 {w : World} {A : Option Addr} {n : Nat} {s : Rg} {l : List Rg} (hr : Rd w 3 A n (cellsG (s :: l))) : ∃ ad, A = some ad ∧ ad.block < w.heap.size ∧ w.cell? ad = some (.int .i64 s.1) ∧
    w.cell? ⟨ad.block, ad.off + 1, none⟩ = some (.int .i64 s.2.1) ∧ w.cell? ⟨ad.block, ad.off + 2, none⟩ = some (.int .i64 s.2.2) := by
  obtain ⟨ad, hA, hb, h0, h1, h2⟩ := hr.rg (k := 0) (s := s) rfl
  rw [Nat.zero_mul, addZero] at h0 h1 h2
  exact ⟨ad, hA, hb, h0, h1, h2⟩
theorem addPos (a : Addr) {n : Nat} (h : n ≠ 0) : a.add n = ⟨a.block, a.off + n, none⟩ := by
  unfold Addr.add
  rw [if_neg h]
/-- What is left of a slice of ranges behind its first. -/
theorem Rd.tail {w : World} {ad : Addr} {n : Nat} {s : Rg} {l : List Rg} (hr : Rd w 3 (some ad) n (cellsG (s :: l))) : Rd w 3 (some ⟨ad.block, ad.off + 3, none⟩) (n - 1) (cellsG l) := by
  have hl := hr.lenG
  have h := hr.cut (k := 1) (cap := n + 1) (by rw [← hl]; simp) (by omega)
  rw [if_neg (by rw [← hl]; simp), Option.map_some, addPos ad (by omega)] at h
  exact h
end Go.Proofs.Ytcbiaeeifclieaa
