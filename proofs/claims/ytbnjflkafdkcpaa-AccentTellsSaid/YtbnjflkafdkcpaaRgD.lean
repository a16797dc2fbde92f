/- Ranges of codes as data: the cells of a slice of ranges; which may be; the value of a code. -/
import Derived.Test.YtbnjflkafdkcpaaSpBlk
import Derived.Test.YtbnjflkafdkcpaaPartsD
namespace Go.Proofs.Ytbnjflkafdkcpaa
open Go.RowKit

/-- A range: Lo, Hi, Value. -/
abbrev Rg := Int × Int × Int
def encG (r : Rg) : List Value := [.int .i64 r.1, .int .i64 r.2.1, .int .i64 r.2.2]
def cellsG (l : List Rg) : List Value := l.flatMap encG
theorem cellsG_snoc (l : List Rg) (r : Rg) : cellsG (l ++ [r]) = cellsG l ++ [.int .i64 r.1, .int .i64 r.2.1, .int .i64 r.2.2] := by simp [cellsG, encG]
theorem cellsG_len (l : List Rg) : (cellsG l).length = l.length * 3 := by
  induction l with
  | nil => rfl
  | cons s l ih =>
    show (encG s ++ cellsG l).length = _
    rw [List.length_append, ih, List.length_cons]
    simp only [encG, List.length_cons, List.length_nil]
    omega
theorem cellsG_at {l : List Rg} {k : Nat} {s : Rg} (h : l[k]? = some s) : (cellsG l)[k * 3]? = some (.int .i64 s.1) ∧ (cellsG l)[k * 3 + 1]? = some (.int .i64 s.2.1) ∧ (cellsG l)[k * 3 + 2]? = some (.int .i64 s.2.2) := by
  induction l generalizing k with
  | nil => simp at h
  | cons t l ih =>
    have hc : cellsG (t :: l) = .int .i64 t.1 :: .int .i64 t.2.1 :: .int .i64 t.2.2 :: cellsG l := rfl
    cases k with
    | zero =>
      simp at h
      subst h
      exact ⟨rfl, rfl, rfl⟩
    | succ k =>
      have := ih (k := k) (by simpa using h)
      rw [hc]
      have e0 : (k + 1) * 3 = k * 3 + 1 + 1 + 1 := by omega
      have e1 : (k + 1) * 3 + 1 = (k * 3 + 1) + 1 + 1 + 1 := by omega
      have e2 : (k + 1) * 3 + 2 = (k * 3 + 2) + 1 + 1 + 1 := by omega
      rw [e2, e1, e0]
      simpa using this
/-- The three cells of a range in a slice, as the walk spells them. -/
theorem Rd.rg {w : World} {A : Option Addr} {n k : Nat} {l : List Rg} {s : Rg} (hr : Rd w 3 A n (cellsG l)) (h : l[k]? = some s) : ∃ ad, A = some ad ∧ ad.block < w.heap.size ∧ w.cell? (ad.add (k * 3)) = some (.int .i64 s.1) ∧
    w.cell? ⟨(ad.add (k * 3)).block, (ad.add (k * 3)).off + 1, none⟩ = some (.int .i64 s.2.1) ∧ w.cell? ⟨(ad.add (k * 3)).block, (ad.add (k * 3)).off + 2, none⟩ = some (.int .i64 s.2.2) := by
  have hlen : l.length * 3 = n * 3 := by rw [← cellsG_len]; exact hr.1
  have hk := (List.getElem?_eq_some_iff.1 h).1
  obtain ⟨ad, rfl, hb, hc⟩ := hr.2 (by omega)
  obtain ⟨e0, e1, e2⟩ := cellsG_at h
  have h1 := hc _ _ e1
  have h2 := hc _ _ e2
  rw [addNext ad (k * 3) 0] at h1
  rw [addNext ad (k * 3) 1] at h2
  exact ⟨ad, rfl, hb, hc _ _ e0, h1, h2⟩
theorem Rd.lenG {w : World} {A : Option Addr} {n : Nat} {l : List Rg} (hr : Rd w 3 A n (cellsG l)) : l.length = n := by
  have := hr.1
  rw [cellsG_len] at this
  omega

/-- Whether ranges rise behind 'last'. -/
def riseB (last : Int) : List Rg → Bool
  | [] => true
  | r :: l => if r.1 ≤ last ∨ r.2.1 < r.1 ∨ 1114111 < r.2.1 then false else riseB r.2.1 l
theorem riseB_no {last : Int} {l : List Rg} {r : Rg} (h : r.1 ≤ last ∨ r.2.1 < r.1 ∨ 1114111 < r.2.1) : riseB last (r :: l) = false := if_pos h
theorem riseB_yes {last : Int} {l : List Rg} {r : Rg} (h : ¬ (r.1 ≤ last ∨ r.2.1 < r.1 ∨ 1114111 < r.2.1)) : riseB last (r :: l) = riseB r.2.1 l := if_neg h
/-- The value of a code: the first range's that has it. -/
def getG (l : List Rg) (none_ c : Int) : Int :=
  match l with
  | [] => none_
  | r :: l => if r.1 ≤ c ∧ c ≤ r.2.1 then r.2.2 else getG l none_ c
/-- What Build tells of ranges. -/
def errG (l : List Rg) : Int := if 4096 < l.length then 6 else if riseB (-1) l = true then 0 else 10
end Go.Proofs.Ytbnjflkafdkcpaa
