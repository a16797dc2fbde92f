/- Small facts on bits, as UTF-8 wants them. -/
import Derived.Test.YtcdogkabdhbjmaaDoorMem
import Derived.Laws.BitsAllLaws
import Derived.Laws.BitsLemmas
namespace Go.Proofs.YtcdogkabdhbjmaaDoor
open Go.RowKit

theorem ofNat_i64 (a : Nat) (ha : a < 9223372036854775808) : (BitVec.ofInt 64 (a : Int)).toNat = a := by
  rw [BitVec.ofInt_natCast, BitVec.toNat_ofNat]; exact Nat.mod_eq_of_lt (by omega)
theorem and_i64 (a b : Nat) (ha : a < 9223372036854775808) (hb : b < 9223372036854775808) : bits .and .i64 (a : Int) (b : Int) = ((a &&& b : Nat) : Int) := by
  have hx : a &&& b < 2 ^ 63 := Nat.and_lt_two_pow _ (by omega)
  show IntKind.i64.wrap ((BitVec.ofInt 64 (a : Int) &&& BitVec.ofInt 64 (b : Int)).toNat : Int) = _
  rw [BitVec.toNat_and, ofNat_i64 a ha, ofNat_i64 b hb, IntKind.wrap_i64]
  omega
theorem or_i64 (a b : Nat) (ha : a < 9223372036854775808) (hb : b < 9223372036854775808) : bits .or .i64 (a : Int) (b : Int) = ((a ||| b : Nat) : Int) := by
  have hx : a ||| b < 2 ^ 63 := Nat.or_lt_two_pow (by omega) (by omega)
  show IntKind.i64.wrap ((BitVec.ofInt 64 (a : Int) ||| BitVec.ofInt 64 (b : Int)).toNat : Int) = _
  rw [BitVec.toNat_or, ofNat_i64 a ha, ofNat_i64 b hb, IntKind.wrap_i64]
  omega
/-- 'or' of numbers whose bits lie apart is their sum. -/
theorem or_apart (k a b : Nat) (hb : b < 2 ^ k) (h : a * 2 ^ k + b < 9223372036854775808) : bits .or .i64 ((a * 2 ^ k : Nat) : Int) (b : Int) = ((a * 2 ^ k + b : Nat) : Int) := by
  have e := Nat.two_pow_add_eq_or_of_lt hb a
  rw [Nat.mul_comm] at e
  rw [or_i64 _ _ (by omega) (by omega), ← e]
theorem or6 (a b : Int) (ha : 0 ≤ a) (hb : 0 ≤ b) (hb' : b < 64) (h : a < 1000000000000) : bits .or .i64 (a * 64) b = a * 64 + b := by
  obtain ⟨a, rfl⟩ := Int.eq_ofNat_of_zero_le ha
  obtain ⟨b, rfl⟩ := Int.eq_ofNat_of_zero_le hb
  exact or_apart 6 a b (by omega) (by omega)
theorem or_mark (k a : Nat) (m b : Int) (hm : m = ((a * 2 ^ k : Nat) : Int)) (ha : a * 2 ^ k < 256) (hk : 2 ^ k ≤ 256) (hb : 0 ≤ b) (hb' : b < ((2 ^ k : Nat) : Int)) : bits .or .i64 m b = m + b := by
  obtain ⟨b, rfl⟩ := Int.eq_ofNat_of_zero_le hb
  subst hm
  have hb2 : b < 2 ^ k := by omega
  rw [or_apart k a b hb2 (by omega)]
  rfl
theorem and63_i64 (a : Int) (ha : 0 ≤ a) (h : a < 1000000000000) : bits .and .i64 a 63 = a % 64 := by
  obtain ⟨a, rfl⟩ := Int.eq_ofNat_of_zero_le ha
  have := and_i64 a 63 (by omega) (by omega)
  rw [show (63 : Nat) = 2 ^ 6 - 1 from rfl, Nat.and_two_pow_sub_one_eq_mod] at this
  exact_mod_cast this
theorem and63_u8 (a : Int) (ha : 0 ≤ a) (h : a ≤ 255) : bits .and .u8 a 63 = a % 64 := by
  obtain ⟨a, rfl⟩ := Int.eq_ofNat_of_zero_le ha
  have := u8_and_nat a 63 (by omega) (by omega)
  rw [show (63 : Nat) = 2 ^ 6 - 1 from rfl, Nat.and_two_pow_sub_one_eq_mod] at this
  exact_mod_cast this
set_option maxRecDepth 100000 in
theorem top2 : ∀ a : Fin 256, (a.val &&& 192) = a.val / 64 * 64 := by decide
theorem andNot63_u8 (a : Int) (ha : 0 ≤ a) (h : a ≤ 255) : bits .andNot .u8 a 63 = a / 64 * 64 := by
  obtain ⟨a, rfl⟩ := Int.eq_ofNat_of_zero_le ha
  have := u8_andNot_nat a 63 (by omega) (by omega)
  have h2 := top2 ⟨a, by omega⟩
  simp at h2
  rw [show (255 - 63 : Nat) = 192 from rfl, h2] at this
  exact_mod_cast this
end Go.Proofs.YtcdogkabdhbjmaaDoor
