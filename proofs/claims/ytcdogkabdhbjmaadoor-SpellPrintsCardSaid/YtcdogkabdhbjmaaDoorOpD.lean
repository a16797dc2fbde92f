/- Options as data: whether they go together, as a number, and back. -/
import Derived.Test.YtcdogkabdhbjmaaDoorMem2
namespace Go.Proofs.YtcdogkabdhbjmaaDoor
open Go.RowKit

/-- Options: four kinds, ten flags. -/
structure Opt where
  d : Int
  l : Int
  t : Int
  g : Int
  b0 : Bool
  b1 : Bool
  b2 : Bool
  b3 : Bool
  b4 : Bool
  b5 : Bool
  b6 : Bool
  b7 : Bool
  b8 : Bool
  b9 : Bool
deriving DecidableEq
namespace Opt
def cells (o : Opt) : Array Value := #[.int .i64 o.d, .int .i64 o.l, .int .i64 o.t, .int .i64 o.g, .bool o.b0, .bool o.b1, .bool o.b2, .bool o.b3, .bool o.b4, .bool o.b5, .bool o.b6, .bool o.b7, .bool o.b8, .bool o.b9]
def val (o : Opt) : Value := .agg o.cells
def zero : Opt := ⟨0, 0, 0, 0, false, false, false, false, false, false, false, false, false, false⟩
/-- Whether the kinds are such as there may be. -/
def may (o : Opt) : Bool := decide (0 ≤ o.d ∧ o.d ≤ 3 ∧ 0 ≤ o.l ∧ o.l ≤ 4 ∧ 0 ≤ o.t ∧ o.t ≤ 4 ∧ 0 ≤ o.g ∧ o.g ≤ 4)
/-- Whether they do not go together. -/
def odd (o : Opt) : Bool := (!o.b1 && (decide (o.l ≠ 0) || decide (o.t ≠ 0) || o.b3 || o.b4 || o.b5)) || (o.b2 && decide (o.l = 0)) || (o.b3 && (decide (o.t = 3) || decide (o.t = 4))) || (o.b7 && !o.b6)
def err (o : Opt) : Int := if o.may = true then (if o.odd = true then 3 else 0) else 1
def n1 (b : Bool) : Nat := if b = true then 1 else 0
def flags (o : Opt) : List Bool := [o.b0, o.b1, o.b2, o.b3, o.b4, o.b5, o.b6, o.b7, o.b8, o.b9]
/-- The flags as a number, the first one counts least. -/
def low : List Bool → Nat
  | [] => 0
  | b :: l => n1 b + 2 * low l
def fl (o : Opt) : Nat := low o.flags
def num (o : Opt) : Int := o.d + 4 * o.l + 20 * o.t + 100 * o.g + 500 * (o.fl : Nat)
/-- The options of a number. -/
def of (n : Nat) : Opt := ⟨(n % 4 : Nat), (n / 4 % 5 : Nat), (n / 20 % 5 : Nat), (n / 100 % 5 : Nat), (n / 500).testBit 0, (n / 500).testBit 1, (n / 500).testBit 2, (n / 500).testBit 3, (n / 500).testBit 4, (n / 500).testBit 5, (n / 500).testBit 6, (n / 500).testBit 7, (n / 500).testBit 8, (n / 500).testBit 9⟩
def bits (o : Opt) : Int × Int := if o.err = 0 then (o.num, 0) else (0, o.err)
def back (n : Int) : Opt × Int := if n < 0 ∨ 511999 < n then (zero, 1) else if (of n.toNat).err = 0 then (of n.toNat, 0) else (zero, (of n.toNat).err)
theorem n1_le (b : Bool) : n1 b ≤ 1 := by cases b <;> decide
theorem n1_bit (b : Bool) : decide (n1 b = 1) = b := by cases b <;> rfl
theorem low_snoc (l : List Bool) (b : Bool) : low (l ++ [b]) = low l + n1 b * 2 ^ l.length := by
  induction l with
  | nil => simp [low]
  | cons a l ih =>
    rw [List.cons_append, low, low, ih, List.length_cons, Nat.pow_succ]
    rw [Nat.mul_add]
    have : 2 * (n1 b * 2 ^ l.length) = n1 b * (2 ^ l.length * 2) := by rw [Nat.mul_comm, Nat.mul_assoc]
    omega
theorem low_lt (l : List Bool) : low l < 2 ^ l.length := by
  induction l with
  | nil => decide
  | cons a l ih =>
    rw [low, List.length_cons, Nat.pow_succ]
    have := n1_le a
    omega
theorem low_bit : ∀ (l : List Bool) (i : Nat), (low l).testBit i = l.getD i false
  | [], i => by simp [low]
  | a :: l, 0 => by
    rw [low, Nat.testBit_zero]
    cases a <;> simp [n1] <;> omega
  | a :: l, i + 1 => by
    rw [low, Nat.testBit_succ, show (n1 a + 2 * low l) / 2 = low l by have := n1_le a; omega, low_bit l i]
    rfl
theorem fl_lt (o : Opt) : o.fl < 1024 := by
  have h := low_lt o.flags
  rw [show o.flags.length = 10 from rfl, show (2 : Nat) ^ 10 = 1024 by decide] at h
  exact h
theorem fl_of (m : Nat) (h : m < 1024) : low [m.testBit 0, m.testBit 1, m.testBit 2, m.testBit 3, m.testBit 4, m.testBit 5, m.testBit 6, m.testBit 7, m.testBit 8, m.testBit 9] = m := by
  apply Nat.eq_of_testBit_eq
  intro i
  rw [low_bit]
  by_cases hi : i < 10
  · have : i = 0 ∨ i = 1 ∨ i = 2 ∨ i = 3 ∨ i = 4 ∨ i = 5 ∨ i = 6 ∨ i = 7 ∨ i = 8 ∨ i = 9 := by omega
    rcases this with rfl | rfl | rfl | rfl | rfl | rfl | rfl | rfl | rfl | rfl <;> rfl
  · rw [Nat.testBit_lt_two_pow (Nat.lt_of_lt_of_le h (Nat.pow_le_pow_right (n := 2) (by decide) (show 10 ≤ i by omega)))]
    simp [List.getD, show ¬ i < 10 from hi]
theorem err_zero {o : Opt} (h : o.err = 0) : o.may = true := by
  unfold err at h
  split at h
  · assumption
  · cases h
theorem num_of {n : Nat} (h : n < 512000) : (of n).num = n := by
  have hf : (of n).fl = n / 500 := fl_of (n / 500) (by omega)
  unfold num
  rw [hf]
  simp only [of]
  omega
theorem of_num {o : Opt} (h : o.may = true) : 0 ≤ o.num ∧ o.num ≤ 511999 ∧ of o.num.toNat = o := by
  unfold may at h
  simp only [decide_eq_true_eq] at h
  have hf := fl_lt o
  have e : o.num = o.d + 4 * o.l + 20 * o.t + 100 * o.g + 500 * (o.fl : Nat) := rfl
  have h0 : 0 ≤ o.num := by omega
  obtain ⟨m, hm⟩ : ∃ m : Nat, o.num = m := ⟨o.num.toNat, by omega⟩
  have hd : m / 500 = o.fl := by omega
  refine ⟨h0, by omega, ?_⟩
  rw [hm, Int.toNat_natCast]
  have hb : ∀ i, (m / 500).testBit i = o.flags.getD i false := fun i => by rw [hd]; exact low_bit _ _
  unfold of
  rw [hb 0, hb 1, hb 2, hb 3, hb 4, hb 5, hb 6, hb 7, hb 8, hb 9]
  have e0 : ((m % 4 : Nat) : Int) = o.d := by omega
  have e1 : ((m / 4 % 5 : Nat) : Int) = o.l := by omega
  have e2 : ((m / 20 % 5 : Nat) : Int) = o.t := by omega
  have e3 : ((m / 100 % 5 : Nat) : Int) = o.g := by omega
  rw [e0, e1, e2, e3]
  rfl
end Opt
end Go.Proofs.YtcdogkabdhbjmaaDoor
