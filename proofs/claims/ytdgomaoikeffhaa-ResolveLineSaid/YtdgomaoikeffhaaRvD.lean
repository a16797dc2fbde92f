/- A line, gone through from its end: what has come, place by place, is the line. No function of the program. -/
import Derived.Test.YtdgomaoikeffhaaLnD
namespace Go.Proofs.Ytdgomaoikeffhaa
open Go.RowKit

/-- What a class does: 2 parts, 1 yields, 0 stays. -/
def endK (c : Int) : Int := if c = 11 ∨ c = 10 then 2 else if blkB c = true then 1 else 0
def nowE (c : Int) (e : Bool) : Bool := if endK c = 2 then true else if endK c = 0 then false else e
theorem now_ends (c : Int) (l : List Int) : endsF (c :: l) = nowE c (endsF l) := by
  rw [endsF]
  unfold nowE endK
  split
  · rfl
  · split <;> simp
/-- One place: a list of levels, and whether nothing that stays has come. -/
def stepV (base : Int) (cs : List Int) (s : List Int × Bool) (k : Nat) : List Int × Bool :=
  (if nowE (cs.getD k 0) s.2 = true then s.1.set k base else s.1, nowE (cs.getD k 0) s.2)
theorem stepV_len (base : Int) (cs : List Int) (s : List Int × Bool) (k : Nat) : (stepV base cs s k).1.length = s.1.length := by
  unfold stepV
  simp only
  split <;> simp
/-- The places of a line from its end on, k of them. -/
def fromEnd (n k : Nat) : List Nat := (List.range k).map fun j => n - 1 - j
theorem fromEnd_succ (n k : Nat) : fromEnd n (k + 1) = fromEnd n k ++ [n - 1 - k] := by simp [fromEnd, List.range_succ]
theorem fromEnd_len (n k : Nat) : (fromEnd n k).length = k := by simp [fromEnd]
def foldV (base : Int) (cs ls : List Int) (ks : List Nat) : List Int × Bool := ks.foldl (stepV base cs) (ls, true)
theorem foldV_snoc (base : Int) (cs ls : List Int) (ks : List Nat) (k : Nat) : foldV base cs ls (ks ++ [k]) = stepV base cs (foldV base cs ls ks) k := by simp [foldV]
theorem foldV_len (base : Int) (cs ls : List Int) : ∀ ks : List Nat, (foldV base cs ls ks).1.length = ls.length := by
  intro ks
  have : ∀ (ks : List Nat) (s : List Int × Bool), (ks.foldl (stepV base cs) s).1.length = s.1.length := by
    intro ks
    induction ks with
    | nil => intro s; rfl
    | cons k ks ih => intro s; rw [List.foldl_cons, ih, stepV_len]
  exact this ks (ls, true)
theorem foldV_at (base : Int) {cs ls : List Int} {n : Nat} (hc : cs.length = n) (hl : ls.length = n) : ∀ k, k ≤ n → foldV base cs ls (fromEnd n k) = (ls.take (n - k) ++ lineF base (cs.drop (n - k)) (ls.drop (n - k)), endsF (cs.drop (n - k)))
  | 0, _ => by
    rw [Nat.sub_zero, List.take_of_length_le (by omega), List.drop_eq_nil_of_le (by omega), List.drop_eq_nil_of_le (by omega)]
    simp [fromEnd, foldV, lineF, endsF]
  | k + 1, hk => by
    rw [fromEnd_succ, foldV_snoc, foldV_at base hc hl k (by omega)]
    obtain ⟨j, hj⟩ : ∃ j, n - k = j + 1 := ⟨n - k - 1, by omega⟩
    rw [hj, show n - 1 - k = j by omega, show n - (k + 1) = j by omega]
    have hcj : j < cs.length := by omega
    have hlj : j < ls.length := by omega
    rw [List.drop_eq_getElem_cons hcj, List.drop_eq_getElem_cons hlj, now_ends, lineF, now_ends, List.take_add_one, List.getElem?_eq_getElem hlj]
    unfold stepV
    have hg : cs.getD j 0 = cs[j] := by rw [List.getD_eq_getElem?_getD, List.getElem?_eq_getElem hcj]; rfl
    rw [hg]
    simp only
    refine Prod.ext ?_ rfl
    simp only
    cases nowE cs[j] (endsF (cs.drop (j + 1))) with
    | false =>
      rw [if_neg (by decide), if_neg (by decide), List.append_assoc]
      rfl
    | true =>
      simp only [if_pos]
      have hlen : (ls.take j).length = j := by rw [List.length_take]; omega
      simp only [Option.toList_some, List.append_assoc, List.singleton_append]
      rw [List.set_append, if_neg (by omega), hlen, Nat.sub_self]
      rfl
theorem foldV_all (base : Int) {cs ls : List Int} {n : Nat} (hc : cs.length = n) (hl : ls.length = n) : (foldV base cs ls (fromEnd n n)).1 = lineF base cs ls := by
  rw [foldV_at base hc hl n (Nat.le_refl _), Nat.sub_self]
  simp
end Go.Proofs.Ytdgomaoikeffhaa
