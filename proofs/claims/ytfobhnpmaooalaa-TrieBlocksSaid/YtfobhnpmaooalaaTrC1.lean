/- How many codes have a value, block by block; whole arrays loaded, their elements taken; the reference's Count. -/
import Derived.Test.YtfobhnpmaooalaaTrRr
import Derived.Test.YtfobhnpmaooalaaArrEq
namespace Go.Proofs.Ytfobhnpmaooalaa
open Go.RowKit

/-- How many of some numbers are v. -/
def cntL (v : Int) : List Int → Int
  | [] => 0
  | x :: l => (if x = v then 1 else 0) + cntL v l
theorem cntL_app (v : Int) (a b : List Int) : cntL v (a ++ b) = cntL v a + cntL v b := by
  induction a with
  | nil => simp [cntL]
  | cons x a ih => rw [List.cons_append, cntL, cntL, ih]; omega
theorem cntL_next {v x : Int} {l : List Int} {k : Nat} (h : l[k]? = some x) : cntL v (l.take (k + 1)) = cntL v (l.take k) + if x = v then 1 else 0 := by
  rw [List.take_add_one, h, cntL_app]
  simp [cntL]
theorem cntL_bd (v : Int) (l : List Int) : 0 ≤ cntL v l ∧ cntL v l ≤ l.length := by
  induction l with
  | nil => simp [cntL]
  | cons x l ih =>
    simp only [cntL, List.length_cons]
    split <;> omega
theorem cntF_block (g : Int → Int) (v : Int) (a : Nat) : ∀ m : Nat, cntF g v (a + m) = cntF g v a + cntL v ((List.range m).map fun (t : Nat) => g ((a : Int) + (t : Int)))
  | 0 => by simp [cntL]
  | m + 1 => by
    rw [← Nat.add_assoc, cntF, cntF_block g v a m, List.range_succ, List.map_append, cntL_app]
    have e : ((a + m : Nat) : Int) = (a : Int) + (m : Int) := by omega
    simp only [List.map_cons, List.map_nil, cntL, e]
    omega
theorem cntF_blk (l : List Rg) (z v : Int) (j : Nat) : cntF (getG l z) v (128 * (j + 1)) = cntF (getG l z) v (128 * j) + cntL v (blkAt l z j) := by
  rw [show 128 * (j + 1) = 128 * j + 128 by omega, cntF_block]
  rfl
theorem cntF_bd (g : Int → Int) (v : Int) (k : Nat) : 0 ≤ cntF g v k ∧ cntF g v k ≤ k := by
  induction k with
  | zero => simp [cntF]
  | succ k ih =>
    rw [cntF]
    split <;> omega
theorem count_fin {l : List Rg} {z v : Int} {j : Nat} (h : riseB (-1) l = true) (hj : j = 8704) : cntF (getG l z) v (128 * j) = refCount l z v := by
  rw [← count_all h, hj]
/-- The counts while block i is gone through, p of it so far. -/
def rowC (v : Int) (bl : List (List Int)) (i : Nat) (p : Int) : List Int := (List.range bl.length).map fun q => if q < i then cntL v (bl.getD q []) else if q = i then p else 0
theorem rowC_len (v : Int) (bl : List (List Int)) (i : Nat) (p : Int) : (rowC v bl i p).length = bl.length := by simp [rowC]
theorem rowC_at (v : Int) (bl : List (List Int)) (i : Nat) (p : Int) {q : Nat} (hq : q < bl.length) : (rowC v bl i p)[q]? = some (if q < i then cntL v (bl.getD q []) else if q = i then p else 0) := by simp [rowC, hq]
theorem rowC_set (v : Int) (bl : List (List Int)) (i : Nat) (p p' : Int) : (rowC v bl i p).set i p' = rowC v bl i p' := by
  apply List.ext_getElem?
  intro q
  rw [List.getElem?_set, rowC_len]
  by_cases hq : q < bl.length
  · rw [rowC_at _ _ _ _ hq, rowC_at _ _ _ _ hq]
    by_cases h : i = q
    · subst h
      rw [if_pos rfl, if_pos hq, if_neg (by omega), if_pos rfl]
    · rw [if_neg h]
      by_cases h2 : q < i
      · rw [if_pos h2, if_pos h2]
      · rw [if_neg h2, if_neg h2, if_neg (fun e => h e.symm), if_neg (fun e => h e.symm)]
  · rw [List.getElem?_eq_none (by rw [rowC_len]; omega), List.getElem?_eq_none (by rw [rowC_len]; omega)]
    by_cases h : i = q
    · subst h
      rw [if_pos rfl, if_neg hq]
    · rw [if_neg h]
theorem rowC_on {v : Int} {bl : List (List Int)} {i : Nat} {b : List Int} (h : bl[i]? = some b) : rowC v bl i (cntL v b) = rowC v bl (i + 1) 0 := by
  apply List.ext_getElem?
  intro q
  by_cases hq : q < bl.length
  · rw [rowC_at _ _ _ _ hq, rowC_at _ _ _ _ hq]
    by_cases h2 : q < i
    · rw [if_pos h2, if_pos (by omega)]
    · rw [if_neg h2]
      by_cases h3 : q = i
      · subst h3
        rw [if_pos rfl, if_pos (by omega), List.getD_eq_getElem?_getD, h]
        rfl
      · rw [if_neg h3, if_neg (by omega)]
        by_cases h4 : q = i + 1
        · rw [if_pos h4]
        · rw [if_neg h4]
  · rw [List.getElem?_eq_none (by rw [rowC_len]; omega), List.getElem?_eq_none (by rw [rowC_len]; omega)]
theorem rowC_start (v : Int) (bl : List (List Int)) : List.replicate bl.length 0 = rowC v bl 0 0 := by
  apply List.ext_getElem?
  intro q
  by_cases hq : q < bl.length
  · rw [rowC_at _ _ _ _ hq, List.getElem?_replicate, if_pos hq, if_neg (by omega)]
    split <;> rfl
  · rw [List.getElem?_eq_none (by simp; omega), List.getElem?_eq_none (by rw [rowC_len]; omega)]
theorem rowC_end {v : Int} {bl : List (List Int)} {q : Nat} {b : List Int} (h : bl[q]? = some b) : (rowC v bl bl.length 0)[q]? = some (cntL v b) := by
  have hq := (List.getElem?_eq_some_iff.1 h).1
  rw [rowC_at _ _ _ _ hq, if_pos hq, List.getD_eq_getElem?_getD, h]
  rfl

section
variable {P : Program}
theorem wpList_loadV {w : World} {ops : Array Oper} {rest : List Oper} {o : Oper} {a : Act} {Q : Exit → Act → World → Prop} (hgd : o.guard = none) (ty : TypeId) (x : Operand) (ho : o.op = .load ty x) (ad : Addr) (v : Value) (hx : a.eval x = .pointer (some ad)) (hl : (loadVar ty ad).run P w = .ok v w)
    (h : wpList P ops Q rest (a.put o.dst v) w) : wpList P ops Q (o :: rest) a w := by
  refine wpList_plain hgd fun K hK => ?_
  have he : (execOp a.eval o).run P w = .ok (.value v) w := by
    unfold execOp
    simp only [ho, hx, Instr.loadAt, Instr.sureAddr, Sem.run_bind, Sem.run_pure, Result.andThen_ok, hl]
  unfold Oper.wp
  rw [he]
  exact hK _ _ h
theorem run_indexA {t e : TypeId} {n : Nat} {i : TypeInfo} (hu : P.underlying t = some (.array n e)) (hi : P.info? e = some i) (he : P.plainKey e = true) (hc : P.cellsOf e = 1) {cs : Array Value} {j : Nat} {v : Value} (hj : j < n) (hv : cs[j]? = some v) (w : World) :
    (Instr.index t (.agg cs) (.int .i64 (j : Int))).run P w = .ok v w := by
  have hs := run_sizeOf (P := P) w hi
  have p := run_part_plain (P := P) w he (xs := cs) (off := j * 1) (by rw [Nat.mul_one]; exact hv)
  unfold Instr.index
  rw [Nat.mul_one] at p
  simp [asIntOf, run_underlying hu, hj, hs, hc, p]
end
end Go.Proofs.Ytfobhnpmaooalaa
