/- Texts of one claim, one behind the other. -/
import Derived.ChangeKeysEq
import Derived.Laws.StructEq
import Derived.Laws.ResultCell
import Derived.Laws.MakeOwn
import Derived.Test.YtcbiaeeifclieaaGreatDoorMgM1
import Derived.Test.YtcbiaeeifclieaaGreatDoorMgM2
import Derived.Test.YtcbiaeeifclieaaGreatDoorMgM3
/- The given ranges of classes and of joining, as lists. -/
namespace Go.Proofs.YtcbiaeeifclieaaGreatDoor

def bidiL : List Rg := [(0, 8, 9), (9, 9, 11), (10, 10, 10), (11, 11, 11), (12, 12, 12), (13, 13, 10), (14, 27, 9), (28, 30, 10), (31, 31, 11), (32, 32, 12), (33, 34, 13), (35, 37, 5), (38, 42, 13), (43, 43, 4), (44, 44, 7), (45, 45, 4), (46, 47, 7), (48, 57, 3), (58, 58, 7), (59, 64, 13), (91, 96, 13), (123, 126, 13), (127, 132, 9), (133, 133, 10), (134, 159, 9), (160, 160, 7), (161, 161, 13), (162, 165, 5), (166, 169, 13), (171, 172, 13), (173, 173, 9), (174, 175, 13), (176, 177, 5), (178, 179, 3), (180, 180, 13), (182, 184, 13), (185, 185, 3), (187, 191, 13), (215, 215, 13), (247, 247, 13), (697, 698, 13), (706, 719, 13), (722, 735, 13), (768, 879, 8), (1424, 1424, 1), (1425, 1469, 8), (1470, 1470, 1), (1471, 1471, 8), (1472, 1472, 1), (1473, 1474, 8), (1475, 1475, 1), (1476, 1477, 8), (1478, 1478, 1), (1479, 1479, 8), (1480, 1535, 1), (1536, 1541, 6), (1542, 1543, 13), (1544, 1544, 2), (1545, 1546, 5), (1547, 1547, 2), (1548, 1548, 7), (1549, 1549, 2), (1550, 1551, 13), (1552, 1562, 8), (1563, 1610, 2), (1611, 1631, 8), (1632, 1641, 6), (1642, 1642, 5), (1643, 1644, 6), (1645, 1647, 2), (1648, 1648, 8), (1649, 1749, 2), (1750, 1756, 8), (1757, 1757, 6), (1758, 1758, 13), (1759, 1764, 8), (1765, 1766, 2), (1767, 1768, 8), (1769, 1769, 13), (1770, 1773, 8), (1774, 1775, 2), (1776, 1785, 3), (1786, 1808, 2), (1809, 1809, 8), (1810, 1839, 2), (1840, 1866, 8), (1867, 1957, 2), (1958, 1968, 8), (1969, 1983, 2), (1984, 2026, 1), (2027, 2035, 8), (2036, 2037, 1), (2038, 2041, 13), (2042, 2044, 1), (2045, 2045, 8), (2046, 2069, 1), (2070, 2073, 8), (2074, 2074, 1), (2075, 2083, 8), (2084, 2084, 1), (2085, 2087, 8), (2088, 2088, 1), (2089, 2093, 8), (2094, 2136, 1), (2137, 2139, 8), (2140, 2143, 1), (2144, 2191, 2), (2192, 2193, 6), (2194, 2199, 2), (2200, 2207, 8), (2208, 2249, 2), (2250, 2273, 8), (2274, 2274, 6), (2275, 2306, 8), (8192, 8202, 12), (8203, 8205, 9), (8207, 8207, 1), (8208, 8231, 13), (8232, 8232, 12), (8233, 8233, 10), (8234, 8234, 14), (8235, 8235, 16), (8236, 8236, 18), (8237, 8237, 15), (8238, 8238, 17), (8239, 8239, 7), (8240, 8244, 5), (8245, 8259, 13), (8260, 8260, 7), (8261, 8286, 13), (8287, 8287, 12), (8288, 8293, 9), (8294, 8294, 19), (8295, 8295, 20), (8296, 8296, 21), (8297, 8297, 22), (8298, 8303, 9), (8304, 8304, 3), (8308, 8313, 3), (8314, 8315, 4), (8316, 8318, 13), (8320, 8329, 3), (8330, 8331, 4), (8332, 8334, 13), (8352, 8399, 5), (8400, 8432, 8), (8592, 8721, 13), (8722, 8722, 4), (8723, 8723, 5), (8724, 9013, 13), (9083, 9108, 13), (9110, 9254, 13), (9280, 9290, 13), (9312, 9351, 13), (9352, 9371, 3), (9450, 9899, 13), (9901, 10239, 13), (10496, 11123, 13), (11776, 11869, 13), (12288, 12288, 12), (12289, 12292, 13), (12296, 12320, 13), (12330, 12333, 8), (12336, 12336, 13), (64285, 64285, 1), (64286, 64286, 8), (64287, 64296, 1), (64297, 64297, 4), (64298, 64335, 1), (64336, 64829, 2), (64830, 64847, 13), (64848, 64974, 2), (64975, 64975, 13), (64976, 65007, 9), (65008, 65020, 2), (65021, 65023, 13), (65024, 65039, 8), (65040, 65049, 13), (65056, 65071, 8), (65072, 65103, 13), (65104, 65104, 7), (65105, 65105, 13), (65106, 65106, 7), (65108, 65108, 13), (65109, 65109, 7), (65110, 65118, 13), (65119, 65119, 5), (65120, 65121, 13), (65122, 65123, 4), (65124, 65126, 13), (65128, 65128, 13), (65129, 65130, 5), (65131, 65131, 13), (65136, 65278, 2), (65279, 65279, 9), (65281, 65282, 13), (65283, 65285, 5), (65286, 65290, 13), (65291, 65291, 4), (65292, 65292, 7), (65293, 65293, 4), (65294, 65295, 7), (65296, 65305, 3), (65306, 65306, 7), (65307, 65312, 13), (65339, 65344, 13), (65371, 65381, 13), (65504, 65505, 5), (65506, 65508, 13), (65509, 65510, 5), (65520, 65528, 9), (65529, 65533, 13), (65534, 65535, 9), (67584, 68863, 1), (68864, 68927, 2), (68928, 69631, 1), (120782, 120831, 3), (124928, 126063, 1), (126064, 126143, 2), (126144, 126207, 1), (126208, 126287, 2), (126288, 126463, 1), (126464, 126719, 2), (126720, 126975, 1), (126976, 127231, 13), (127232, 127242, 3), (127744, 128727, 13), (917504, 917759, 9), (917760, 917999, 8), (918000, 921599, 9)]
def joinL : List Rg := [(768, 879, 1), (1155, 1161, 1), (1425, 1469, 1), (1471, 1471, 1), (1473, 1474, 1), (1476, 1477, 1), (1479, 1479, 1), (1552, 1562, 1), (1564, 1564, 1), (1568, 1568, 3), (1570, 1573, 2), (1574, 1574, 3), (1575, 1575, 2), (1576, 1576, 3), (1577, 1577, 2), (1578, 1582, 3), (1583, 1586, 2), (1587, 1599, 3), (1600, 1600, 5), (1601, 1607, 3), (1608, 1608, 2), (1609, 1610, 3), (1611, 1631, 1), (1646, 1647, 3), (1648, 1648, 1), (1649, 1651, 2), (1653, 1655, 2), (1656, 1671, 3), (1672, 1689, 2), (1690, 1727, 3), (1728, 1728, 2), (1729, 1730, 3), (1731, 1739, 2), (1740, 1740, 3), (1741, 1741, 2), (1742, 1742, 3), (1743, 1743, 2), (1744, 1745, 3), (1746, 1747, 2), (1749, 1749, 2), (1750, 1756, 1), (1759, 1764, 1), (1767, 1768, 1), (1770, 1773, 1), (1774, 1775, 2), (1786, 1788, 3), (1791, 1791, 3), (1840, 1866, 1), (1958, 1968, 1), (1994, 2026, 3), (2027, 2035, 1), (2042, 2042, 5), (2200, 2207, 1), (2250, 2273, 1), (2275, 2306, 1), (8203, 8203, 1), (8205, 8205, 5), (8206, 8207, 1), (8234, 8238, 1), (8288, 8292, 1), (8298, 8303, 1), (8400, 8432, 1), (43072, 43121, 3), (43122, 43122, 4), (65024, 65039, 1), (65056, 65071, 1), (65279, 65279, 1), (917760, 917999, 1)]
end Go.Proofs.YtcbiaeeifclieaaGreatDoor
/- What codes are, as functions of the given ranges. -/
namespace Go.Proofs.YtcbiaeeifclieaaGreatDoor
open Go.RowKit
def classF (c : Int) : Int := if 0 ≤ c ∧ c ≤ 1114111 then getG bidiL 0 c else 13
def joinF (c : Int) : Int := getG joinL 0 c
end Go.Proofs.YtcbiaeeifclieaaGreatDoor
/- Options as data: whether they go together, as a number, and back. -/
namespace Go.Proofs.YtcbiaeeifclieaaGreatDoor
open Go.RowKit

/-- Options: four kinds, ten flags. -/
structure Opt where
  d : Int
  l : Int
  t : Int
  g : Int
  b0 : Bool
  b1 : Bool
  b2 : Bool
  b3 : Bool
  b4 : Bool
  b5 : Bool
  b6 : Bool
  b7 : Bool
  b8 : Bool
  b9 : Bool
deriving DecidableEq
namespace Opt
def cells (o : Opt) : Array Value := #[.int .i64 o.d, .int .i64 o.l, .int .i64 o.t, .int .i64 o.g, .bool o.b0, .bool o.b1, .bool o.b2, .bool o.b3, .bool o.b4, .bool o.b5, .bool o.b6, .bool o.b7, .bool o.b8, .bool o.b9]
def val (o : Opt) : Value := .agg o.cells
def zero : Opt := ⟨0, 0, 0, 0, false, false, false, false, false, false, false, false, false, false⟩
/-- Whether the kinds are such as there may be. -/
def may (o : Opt) : Bool := decide (0 ≤ o.d ∧ o.d ≤ 3 ∧ 0 ≤ o.l ∧ o.l ≤ 4 ∧ 0 ≤ o.t ∧ o.t ≤ 4 ∧ 0 ≤ o.g ∧ o.g ≤ 4)
/-- Whether they do not go together. -/
def odd (o : Opt) : Bool := (!o.b1 && (decide (o.l ≠ 0) || decide (o.t ≠ 0) || o.b3 || o.b4 || o.b5)) || (o.b2 && decide (o.l = 0)) || (o.b3 && (decide (o.t = 3) || decide (o.t = 4))) || (o.b7 && !o.b6)
def err (o : Opt) : Int := if o.may = true then (if o.odd = true then 3 else 0) else 1
def n1 (b : Bool) : Nat := if b = true then 1 else 0
def flags (o : Opt) : List Bool := [o.b0, o.b1, o.b2, o.b3, o.b4, o.b5, o.b6, o.b7, o.b8, o.b9]
/-- The flags as a number, the first one counts least. -/
def low : List Bool → Nat
  | [] => 0
  | b :: l => n1 b + 2 * low l
def fl (o : Opt) : Nat := low o.flags
def num (o : Opt) : Int := o.d + 4 * o.l + 20 * o.t + 100 * o.g + 500 * (o.fl : Nat)
/-- The options of a number. -/
def of (n : Nat) : Opt := ⟨(n % 4 : Nat), (n / 4 % 5 : Nat), (n / 20 % 5 : Nat), (n / 100 % 5 : Nat), (n / 500).testBit 0, (n / 500).testBit 1, (n / 500).testBit 2, (n / 500).testBit 3, (n / 500).testBit 4, (n / 500).testBit 5, (n / 500).testBit 6, (n / 500).testBit 7, (n / 500).testBit 8, (n / 500).testBit 9⟩
def bits (o : Opt) : Int × Int := if o.err = 0 then (o.num, 0) else (0, o.err)
def back (n : Int) : Opt × Int := if n < 0 ∨ 511999 < n then (zero, 1) else if (of n.toNat).err = 0 then (of n.toNat, 0) else (zero, (of n.toNat).err)
theorem n1_le (b : Bool) : n1 b ≤ 1 := by cases b <;> decide
theorem n1_bit (b : Bool) : decide (n1 b = 1) = b := by cases b <;> rfl
theorem low_snoc (l : List Bool) (b : Bool) : low (l ++ [b]) = low l + n1 b * 2 ^ l.length := by
  induction l with
  | nil => simp [low]
  | cons a l ih =>
    rw [List.cons_append, low, low, ih, List.length_cons, Nat.pow_succ]
    rw [Nat.mul_add]
    have : 2 * (n1 b * 2 ^ l.length) = n1 b * (2 ^ l.length * 2) := by rw [Nat.mul_comm, Nat.mul_assoc]
    omega
theorem low_lt (l : List Bool) : low l < 2 ^ l.length := by
  induction l with
  | nil => decide
  | cons a l ih =>
    rw [low, List.length_cons, Nat.pow_succ]
    have := n1_le a
    omega
theorem low_bit : ∀ (l : List Bool) (i : Nat), (low l).testBit i = l.getD i false
  | [], i => by simp [low]
  | a :: l, 0 => by
    rw [low, Nat.testBit_zero]
    cases a <;> simp [n1] <;> omega
  | a :: l, i + 1 => by
    rw [low, Nat.testBit_succ, show (n1 a + 2 * low l) / 2 = low l by have := n1_le a; omega, low_bit l i]
    rfl
theorem fl_lt (o : Opt) : o.fl < 1024 := by
  have h := low_lt o.flags
  rw [show o.flags.length = 10 from rfl, show (2 : Nat) ^ 10 = 1024 by decide] at h
  exact h
theorem fl_of (m : Nat) (h : m < 1024) : low [m.testBit 0, m.testBit 1, m.testBit 2, m.testBit 3, m.testBit 4, m.testBit 5, m.testBit 6, m.testBit 7, m.testBit 8, m.testBit 9] = m := by
  apply Nat.eq_of_testBit_eq
  intro i
  rw [low_bit]
  by_cases hi : i < 10
  · have : i = 0 ∨ i = 1 ∨ i = 2 ∨ i = 3 ∨ i = 4 ∨ i = 5 ∨ i = 6 ∨ i = 7 ∨ i = 8 ∨ i = 9 := by omega
    rcases this with rfl | rfl | rfl | rfl | rfl | rfl | rfl | rfl | rfl | rfl <;> rfl
  · rw [Nat.testBit_lt_two_pow (Nat.lt_of_lt_of_le h (Nat.pow_le_pow_right (n := 2) (by decide) (show 10 ≤ i by omega)))]
    simp [List.getD, show ¬ i < 10 from hi]
theorem err_zero {o : Opt} (h : o.err = 0) : o.may = true := by
  unfold err at h
  split at h
  · assumption
  · cases h
theorem num_of {n : Nat} (h : n < 512000) : (of n).num = n := by
  have hf : (of n).fl = n / 500 := fl_of (n / 500) (by omega)
  unfold num
  rw [hf]
  simp only [of]
  omega
theorem of_num {o : Opt} (h : o.may = true) : 0 ≤ o.num ∧ o.num ≤ 511999 ∧ of o.num.toNat = o := by
  unfold may at h
  simp only [decide_eq_true_eq] at h
  have hf := fl_lt o
  have e : o.num = o.d + 4 * o.l + 20 * o.t + 100 * o.g + 500 * (o.fl : Nat) := rfl
  have h0 : 0 ≤ o.num := by omega
  obtain ⟨m, hm⟩ : ∃ m : Nat, o.num = m := ⟨o.num.toNat, by omega⟩
  have hd : m / 500 = o.fl := by omega
  refine ⟨h0, by omega, ?_⟩
  rw [hm, Int.toNat_natCast]
  have hb : ∀ i, (m / 500).testBit i = o.flags.getD i false := fun i => by rw [hd]; exact low_bit _ _
  unfold of
  rw [hb 0, hb 1, hb 2, hb 3, hb 4, hb 5, hb 6, hb 7, hb 8, hb 9]
  have e0 : ((m % 4 : Nat) : Int) = o.d := by omega
  have e1 : ((m / 4 % 5 : Nat) : Int) = o.l := by omega
  have e2 : ((m / 20 % 5 : Nat) : Int) = o.t := by omega
  have e3 : ((m / 100 % 5 : Nat) : Int) = o.g := by omega
  rw [e0, e1, e2, e3]
  rfl
end Opt
end Go.Proofs.YtcbiaeeifclieaaGreatDoor
/- What the reference joined, and what the cells keep of it, make the same groups. -/
namespace Go.Proofs.YtcbiaeeifclieaaGreatDoor
open Go.RowKit

theorem groupsGo_congr {n : Int} {l l' : List Sp} (h : ∀ p, partedS p n l = partedS p n l') : ∀ (f : Nat) (lo p : Int), groupsGo n l f lo p = groupsGo n l' f lo p
  | 0, _, _ => rfl
  | f + 1, lo, p => by
    unfold groupsGo
    rw [h p, groupsGo_congr h f p (p + 1), groupsGo_congr h f lo (p + 1)]
/-- Each joined span lies within its first cell's end; each end is a joined span's. -/
def TightJ (n : Nat) (R : List RC) (J : List Sp) : Prop := (∀ s ∈ J, 0 ≤ s.1 ∧ s.1 < s.2 ∧ s.2 ≤ (n : Int) ∧ ∃ r, R[s.1.toNat]? = some r ∧ s.2 ≤ r.2.1) ∧ ∀ (i : Nat) (r : RC), R[i]? = some r → (i : Int) < r.2.1 → ((i : Int), r.2.1) ∈ J
theorem TightJ.nil {n : Nat} {R : List RC} (h : ∀ (i : Nat) (r : RC), R[i]? = some r → r.2.1 ≤ (i : Int)) : TightJ n R [] :=
  ⟨fun s hs => by simp at hs, fun i r hi hlt => by have := h i r hi; omega⟩
theorem TightJ.set {n : Nat} {R : List RC} {J : List Sp} (h : TightJ n R J) {i : Nat} {r : RC} (hr : R[i]? = some r) (v : Value) (l : List Int) : TightJ n (R.set i (v, r.2.1, l)) J := by
  have hil := (List.getElem?_eq_some_iff.1 hr).1
  refine ⟨fun s hs => ?_, fun j s hs hlt => ?_⟩
  · obtain ⟨h1, h2, h3, q, h4, h5⟩ := h.1 s hs
    refine ⟨h1, h2, h3, ?_⟩
    by_cases hj : s.1.toNat = i
    · rw [hj] at h4 ⊢
      rw [hr] at h4
      obtain rfl := Option.some.inj h4
      exact ⟨_, List.getElem?_set_self hil, h5⟩
    · exact ⟨q, by rw [List.getElem?_set_ne (fun e9 => hj e9.symm)]; exact h4, h5⟩
  · by_cases hj : j = i
    · subst hj
      rw [List.getElem?_set_self hil] at hs
      obtain rfl := Option.some.inj hs
      exact h.2 j r hr hlt
    · rw [List.getElem?_set_ne (fun e9 => hj e9.symm)] at hs
      exact h.2 j s hs hlt
theorem TightJ.join {n : Nat} {R : List RC} {J : List Sp} (h : TightJ n R J) {i : Nat} {hi : Int} {r : RC} (hr : R[i]? = some r) (h1 : (i : Int) < hi) (h2 : hi ≤ n) : TightJ n (R.set i (r.1, max r.2.1 hi, r.2.2)) (J ++ [((i : Int), hi)]) := by
  have hil := (List.getElem?_eq_some_iff.1 hr).1
  refine ⟨fun s hs => ?_, fun j s hs hlt => ?_⟩
  · rcases List.mem_append.1 hs with hs | hs
    · obtain ⟨a1, a2, a3, q, a4, a5⟩ := h.1 s hs
      refine ⟨a1, a2, a3, ?_⟩
      by_cases hj : s.1.toNat = i
      · rw [hj] at a4 ⊢
        rw [hr] at a4
        obtain rfl := Option.some.inj a4
        exact ⟨_, List.getElem?_set_self hil, Int.le_trans a5 (Int.le_max_left _ _)⟩
      · exact ⟨q, by rw [List.getElem?_set_ne (fun e9 => hj e9.symm)]; exact a4, a5⟩
    · obtain rfl := List.mem_singleton.1 hs
      refine ⟨by simp, h1, h2, (r.1, max r.2.1 hi, r.2.2), ?_, Int.le_max_right _ _⟩
      simp only [Int.toNat_natCast]
      exact List.getElem?_set_self hil
  · by_cases hj : j = i
    · subst hj
      rw [List.getElem?_set_self hil] at hs
      obtain rfl := Option.some.inj hs
      simp only at hlt ⊢
      rcases Int.le_total r.2.1 hi with hm | hm
      · rw [Int.max_eq_right hm]
        exact List.mem_append_right _ (List.mem_singleton_self _)
      · rw [Int.max_eq_left hm] at hlt ⊢
        exact List.mem_append_left _ (h.2 j r hr hlt)
    · rw [List.getElem?_set_ne (fun e9 => hj e9.symm)] at hs
      exact List.mem_append_left _ (h.2 j s hs hlt)
theorem TightJ.groups {n : Nat} {R : List RC} {J : List Sp} (h : TightJ n R J) (hn : R.length = n) : groupsS (n : Int) J = groupsS (n : Int) (joinedTo R n) := by
  refine groupsGo_congr (fun p => ?_) _ _ _
  have key : partedS p n J = false ↔ partedS p n (joinedTo R n) = false := by
    rw [parted_iff, parted_iff]
    constructor
    · rintro ⟨s, hs, hv, h1, h2⟩
      obtain ⟨a1, a2, a3, r, a4, a5⟩ := h.1 s hs
      have hil := (List.getElem?_eq_some_iff.1 a4).1
      have e1 : ((s.1.toNat : Nat) : Int) = s.1 := Int.toNat_of_nonneg a1
      have hm := h.2 s.1.toNat r a4 (by omega)
      obtain ⟨_, b2, b3, _⟩ := h.1 _ hm
      simp only at b2 b3
      refine ⟨((s.1.toNat : Int), r.2.1), ?_, valid_iff.2 ⟨by simp only; omega, by simp only; omega, b3⟩, by simp only; omega, by simp only; omega⟩
      unfold joinedTo
      refine List.mem_filterMap.2 ⟨s.1.toNat, List.mem_range.2 (by omega), ?_⟩
      simp only [joinB, a4]
      rw [if_pos (by simp [rightB]; omega)]
    · rintro ⟨s, hs, hv, h1, h2⟩
      unfold joinedTo at hs
      obtain ⟨i, hi, hf⟩ := List.mem_filterMap.1 hs
      rcases hri : R[i]? with _ | r
      · rw [joinB, hri] at hf; cases hf
      · simp only [joinB, hri] at hf
        split at hf
        · rename_i hrb
          obtain rfl := Option.some.inj hf
          simp [rightB] at hrb
          exact ⟨_, h.2 i r hri hrb, hv, h1, h2⟩
        · cases hf
  rcases h1 : partedS p n J with _ | _ <;> rcases h2 : partedS p n (joinedTo R n) with _ | _ <;> simp_all
end Go.Proofs.YtcbiaeeifclieaaGreatDoor
/- refRight_any. -/
namespace Go.Proofs.YtcbiaeeifclieaaGreatDoor
open Go.RowKit

theorem refRight_any (lo hi : Int) (w : World) :
    Calls Tryz.prog 83 #[.agg #[.int .i64 lo, .int .i64 hi]] w fun e w' => e = .returned (.bool (rightB (lo, hi))) ∧ Below w.heap.size w w' := by
  have hc : lo < 0 ∨ (0 ≤ lo ∧ lo < hi) ∨ (0 ≤ lo ∧ hi ≤ lo) := by omega
  rcases hc with h | ⟨h, h'⟩ | ⟨h, h'⟩ <;>
    (go_enter Tryz.func83, Tryz.ntmps83
     go_wp2
     go_ret
     refine ⟨retB ?_, below_new _ _⟩
     simp [rightB]
     try omega)

end Go.Proofs.YtcbiaeeifclieaaGreatDoor
/- The trie's reference: Check and Get; the project's rise. -/
namespace Go.Proofs.YtcbiaeeifclieaaGreatDoor
open Go.RowKit

set_option maxRecDepth 100000 in
set_option maxHeartbeats 1000000 in
theorem refGetG_any (A : Option Addr) (n c : Nat) (l : List Rg) (z x : Int) (w : World) (hr : Rd w 3 A n (cellsG l)) (hn : n ≤ maxLen) :
    Calls Tryz.prog 135 #[.slice A n c, .int .i64 z, .int .i64 x] w fun e w' => e = .returned (.int .i64 (getG l z x)) ∧ w = w' := by
  have HL := Lib.hid hr.lenG
  unfold maxLen at hn
  go_enter Tryz.func135, Tryz.ntmps135
  go_wp2
  go_loopw [7] (fun i wr => ∃ (k : Nat), k ≤ n ∧ i = .int .i64 k ∧ getG l z x = getG (l.drop k) z x ∧ w = wr) (fun i _ => n - (intOf i).toNat)
  case atStart => exact ⟨0, Nat.zero_le _, rfl, rfl, rfl⟩
  case round =>
    obtain ⟨k, hk, rfl, hp, rfl⟩ := hrel
    have HP := Lib.hid hp
    clear hp
    by_cases hlt : k < n
    · obtain ⟨s, hsk⟩ : ∃ s, l[k]? = some s := ⟨_, List.getElem?_eq_getElem (by rw [HL.out]; exact hlt)⟩
      obtain ⟨ad, rfl, hab, c1, c2, c3⟩ := hr.rg hsk
      have HD := Lib.hid (dropCons hsk)
      clear hsk
      obtain ⟨lo, hi, v⟩ := s
      simp only at c1 c2 c3
      by_cases h1 : lo ≤ x
      · by_cases h2 : x ≤ hi
        · have HF := Lib.hid (show getG l z x = v by rw [HP.out, HD.out]; exact if_pos ⟨h1, h2⟩)
          go_wp2
          go_ret
          exact ⟨by simp [HF.out], rfl⟩
        · have HF := Lib.hid (show getG l z x = getG (l.drop (k + 1)) z x by rw [HP.out, HD.out]; exact if_neg (fun h => h2 h.2))
          go_wp2
          go_roundw
          case rel => exact ⟨k + 1, by omega, by go_num, HF.out, trivial⟩
          case measure => simp [intOf]; omega
      · have HF := Lib.hid (show getG l z x = getG (l.drop (k + 1)) z x by rw [HP.out, HD.out]; exact if_neg (fun h => h1 h.1))
        go_wp2
        go_roundw
        case rel => exact ⟨k + 1, by omega, by go_num, HF.out, trivial⟩
        case measure => simp [intOf]; omega
    · have HF := Lib.hid (show getG l z x = z by rw [HP.out, List.drop_eq_nil_of_le (by rw [HL.out]; omega)]; rfl)
      go_wp2
      go_ret
      exact ⟨by simp [HF.out], rfl⟩
end Go.Proofs.YtcbiaeeifclieaaGreatDoor
/- '==' of arrays whose elements are one cell each. -/
namespace Go.Proofs.YtcbiaeeifclieaaGreatDoor
open Go.RowKit

section
variable {P : Program} {α : Type} [BEq α] (mk : α → Value)
theorem eqItems_one (d : Nat) {e : TypeId} (he : P.plainKey e = true) (hc : P.cellsOf e = 1) (heq : ∀ a b w, (Op.equalIn d e (mk a) (mk b)).run P w = .ok (a == b) w) (xs ys : Array Value) (f g : Nat → α) (w : World) :
    ∀ is : List Nat, (∀ i ∈ is, xs[i]? = some (mk (f i)) ∧ ys[i]? = some (mk (g i))) → (Op.eqItems d e (P.cellsOf e) xs ys is).run P w = .ok (is.all fun i => f i == g i) w
  | [], _ => rfl
  | i :: is, h => by
    obtain ⟨h1, h2⟩ := h i (by simp)
    have ih := eqItems_one d he hc heq xs ys f g w is fun j hj => h j (by simp [hj])
    rw [hc] at ih ⊢
    have p1 := run_part_plain (P := P) w he (xs := xs) (off := i * 1) (by rw [Nat.mul_one]; exact h1)
    have p2 := run_part_plain (P := P) w he (xs := ys) (off := i * 1) (by rw [Nat.mul_one]; exact h2)
    simp only [Op.eqItems, Sem.run_bind, p1, p2, Result.andThen_ok, heq, List.all_cons]
    cases f i == g i
    · simp
    · simp [ih]
theorem equal_one (d n : Nat) {t e : TypeId} {i : TypeInfo} (hu : P.underlying t = some (.array n e)) (hi : P.info? e = some i) (he : P.plainKey e = true) (hc : P.cellsOf e = 1) (heq : ∀ a b w, (Op.equalIn d e (mk a) (mk b)).run P w = .ok (a == b) w)
    (xs ys : Array Value) (f g : Nat → α) (h : ∀ i, i < n → xs[i]? = some (mk (f i)) ∧ ys[i]? = some (mk (g i))) (w : World) :
    (Op.equalIn (d + 1) t (.agg xs) (.agg ys)).run P w = .ok ((List.range n).all fun i => f i == g i) w := by
  rw [run_equalIn_array w d xs ys hu hi]
  exact eqItems_one mk d he hc heq xs ys f g w _ fun j hj => h j (by simpa using hj)
end
end Go.Proofs.YtcbiaeeifclieaaGreatDoor
/- Options: slices.Contains at []bool, either, kindsOf, nearest. -/
namespace Go.Proofs.YtcbiaeeifclieaaGreatDoor
open Go.RowKit

theorem rdBools (w : World) (l : List Bool) (t : TypeId) : Rd (w.alloc (.cells (l.map Value.bool).toArray t)) 1 (some ⟨w.heap.size, 0, none⟩) l.length (l.map Value.bool) := by
  have := Rd.new_ w (l.map Value.bool) t
  rwa [List.length_map] at this
set_option maxRecDepth 100000 in
theorem indexB_any (A : Option Addr) (n c : Nat) (xs : List Bool) (y : Bool) (hy : xs.any id = y) (w : World) (hr : Rd w 1 A n (xs.map Value.bool)) (hn : n ≤ 1000) :
    Calls Tryz.prog 92 #[.slice A n c, .bool true] w fun e w' => (∃ r : Int, e = .returned (.int .i64 r) ∧ decide (0 ≤ r) = y) ∧ w = w' := by
  have HY := Lib.hid hy
  clear hy
  have hlen : xs.length = n := by simpa using hr.len1
  have HL := Lib.hid hlen
  clear hlen
  go_enter Tryz.func92, Tryz.ntmps92
  go_wp2
  go_loop [8] (fun i => ∃ k : Nat, k ≤ n ∧ i = .int .i64 k ∧ (xs.take k).any id = false) (fun i => n - (intOf i).toNat)
  case atStart => exact ⟨0, Nat.zero_le _, rfl, rfl⟩
  case round =>
    obtain ⟨k, hk, rfl, hno⟩ := hrel
    have HN := Lib.hid hno
    clear hno
    by_cases hlt : k < n
    · obtain ⟨s, hsk⟩ : ∃ s, xs[k]? = some s := ⟨_, List.getElem?_eq_getElem (by rw [HL.out]; exact hlt)⟩
      obtain ⟨ad, rfl, _, hc⟩ := hr.at_ hlt
      have cs : w.cell? (ad.add k) = some (.bool s) := hc _ (by rw [List.getElem?_map, hsk]; rfl)
      have HS := Lib.hid hsk
      clear hsk hc
      cases s with
      | true =>
        have HM := Lib.hid (show y = true from HY.out.symm.trans (List.any_eq_true.2 ⟨true, List.mem_of_getElem? HS.out, rfl⟩))
        go_wp2
        go_ret
        exact ⟨⟨_, rfl, by rw [HM.out]; exact decide_eq_true (by omega)⟩, rfl⟩
      | false =>
        have HX := Lib.hid (show (xs.take (k + 1)).any id = false by
          rw [List.take_add_one, HS.out, List.any_append, HN.out]
          rfl)
        go_wp2
        go_round
        case rel => exact ⟨k + 1, by omega, by go_num, HX.out⟩
        case measure => simp [intOf]; omega
    · have HF := Lib.hid (show y = false by have := HN.out; rw [List.take_of_length_le (by rw [HL.out]; omega)] at this; exact HY.out.symm.trans this)
      go_wp2
      go_ret
      exact ⟨⟨-1, rfl, by rw [HF.out]; rfl⟩, rfl⟩
theorem containsB_any (A : Option Addr) (n c : Nat) (xs : List Bool) (y : Bool) (hy : xs.any id = y) (w : World) (hr : Rd w 1 A n (xs.map Value.bool)) (hn : n ≤ 1000) :
    Calls Tryz.prog 58 #[.slice A n c, .bool true] w fun e w' => e = .returned (.bool y) ∧ w = w' := by
  have HC := Lib.hid (indexB_any A n c xs y hy w hr hn)
  clear hr hy
  go_enter Tryz.func58, Tryz.ntmps58
  go_wp2_with fail
  refine HC.out.mono ?_
  rintro e w1 ⟨⟨r, rfl, hi⟩, rfl⟩
  have HI := Lib.hid hi
  clear hi HC
  go_wp2
  go_ret
  exact ⟨by rw [← HI.out]; rfl, rfl⟩
theorem either_any (A : Option Addr) (n c : Nat) (xs : List Bool) (y : Bool) (hy : xs.any id = y) (w : World) (hr : Rd w 1 A n (xs.map Value.bool)) (hn : n ≤ 1000) :
    Calls Tryz.prog 30 #[.slice A n c] w fun e w' => e = .returned (.bool y) ∧ w = w' := by
  have HC := Lib.hid (containsB_any A n c xs y hy w hr hn)
  clear hr hy
  go_enter Tryz.func30, Tryz.ntmps30
  go_wp2_with fail
  refine HC.out.mono ?_
  rintro e w1 ⟨rfl, rfl⟩
  go_wp2
  go_ret
  exact ⟨rfl, rfl⟩

/-- Four cells of whole numbers, in a block that may be written. -/
def FourAt (W : World) (b : Nat) (x0 x1 x2 x3 : Int) : Prop := (W.cell? ⟨b, 0, none⟩ = some (.int .i64 x0) ∧ W.cell? ⟨b, 1, none⟩ = some (.int .i64 x1) ∧ W.cell? ⟨b, 2, none⟩ = some (.int .i64 x2) ∧ W.cell? ⟨b, 3, none⟩ = some (.int .i64 x3)) ∧ ∀ i, W.frozen? ⟨b, i, none⟩ = false
theorem FourAt.below {W W' : World} {b : Nat} {x0 x1 x2 x3 : Int} (h : FourAt W b x0 x1 x2 x3) (hb : Below W.heap.size W W') : FourAt W' b x0 x1 x2 x3 := by
  have hl : b < W.heap.size := cell_lt h.1.1
  obtain ⟨⟨d0, d1, d2, d3⟩, hf⟩ := h
  exact ⟨⟨cell_below hb d0, cell_below hb d1, cell_below hb d2, cell_below hb d3⟩, fun i => (hb.frozen hl).trans (hf i)⟩
theorem frozen_setO (W : World) (a c : Addr) (v : Value) : (W.setCell a v).frozen? c = W.frozen? c := by simp [go_sem]
theorem below_setKO {w wr : World} {b : Nat} (h : Below w.heap.size w wr) (hb : w.heap.size ≤ b) (j : Nat) (u : Value) : Below w.heap.size w (wr.setCell ⟨b, j, none⟩ u) :=
  ⟨h.os, h.tape, h.output, by simpa [World.setCell] using h.size, fun i hi => (Below.heap_setCell wr ⟨b, j, none⟩ u i (by simp only; omega)).trans (h.block i hi)⟩
theorem set_same {W : World} {b j : Nat} {u v : Value} (h : W.cell? ⟨b, j, none⟩ = some u) : (W.setCell ⟨b, j, none⟩ v).cell? ⟨b, j, none⟩ = some v := World.cell?_setCell_same (h := h) ..
theorem set_other {W : World} {b j i : Nat} {u v : Value} (h : W.cell? ⟨b, i, none⟩ = some u) (hne : i ≠ j) : (W.setCell ⟨b, j, none⟩ v).cell? ⟨b, i, none⟩ = some u := (World.cell?_setCell_other (h := fun e => hne (by injection e with _ e2 _; exact e2.symm)) ..).trans h
theorem FourAt.set0 {W : World} {b : Nat} {x0 x1 x2 x3 : Int} (h : FourAt W b x0 x1 x2 x3) (u : Int) : FourAt (W.setCell ⟨b, 0, none⟩ (.int .i64 u)) b u x1 x2 x3 :=
  ⟨⟨set_same h.1.1, set_other h.1.2.1 (by omega), set_other h.1.2.2.1 (by omega), set_other h.1.2.2.2 (by omega)⟩, fun i => (frozen_setO ..).trans (h.2 i)⟩
theorem FourAt.set1 {W : World} {b : Nat} {x0 x1 x2 x3 : Int} (h : FourAt W b x0 x1 x2 x3) (u : Int) : FourAt (W.setCell ⟨b, 1, none⟩ (.int .i64 u)) b x0 u x2 x3 :=
  ⟨⟨set_other h.1.1 (by omega), set_same h.1.2.1, set_other h.1.2.2.1 (by omega), set_other h.1.2.2.2 (by omega)⟩, fun i => (frozen_setO ..).trans (h.2 i)⟩
theorem FourAt.set2 {W : World} {b : Nat} {x0 x1 x2 x3 : Int} (h : FourAt W b x0 x1 x2 x3) (u : Int) : FourAt (W.setCell ⟨b, 2, none⟩ (.int .i64 u)) b x0 x1 u x3 :=
  ⟨⟨set_other h.1.1 (by omega), set_other h.1.2.1 (by omega), set_same h.1.2.2.1, set_other h.1.2.2.2 (by omega)⟩, fun i => (frozen_setO ..).trans (h.2 i)⟩
theorem FourAt.set3 {W : World} {b : Nat} {x0 x1 x2 x3 : Int} (h : FourAt W b x0 x1 x2 x3) (u : Int) : FourAt (W.setCell ⟨b, 3, none⟩ (.int .i64 u)) b x0 x1 x2 u :=
  ⟨⟨set_other h.1.1 (by omega), set_other h.1.2.1 (by omega), set_other h.1.2.2.1 (by omega), set_same h.1.2.2.2⟩, fun i => (frozen_setO ..).trans (h.2 i)⟩
theorem size_alloc (w : World) (o : Obj) : (w.alloc o).heap.size = w.heap.size + 1 := by simp
theorem FourAt.new_ (w : World) (x0 x1 x2 x3 : Int) (T : TypeId) : FourAt (w.alloc (.cells #[.int .i64 x0, .int .i64 x1, .int .i64 x2, .int .i64 x3] T)) w.heap.size x0 x1 x2 x3 := by
  refine ⟨⟨?_, ?_, ?_, ?_⟩, fun i => by simp [go_sem]⟩ <;> (rw [World.cell?_alloc_at _ _ _ _ rfl]; rfl)
/-- The sizes of the kinds, as the program lays them. -/
def KindsAt (w : World) : Prop := w.cell? ⟨0, 0, none⟩ = some (.int .i64 4) ∧ w.cell? ⟨0, 1, none⟩ = some (.int .i64 5) ∧ w.cell? ⟨0, 2, none⟩ = some (.int .i64 5) ∧ w.cell? ⟨0, 3, none⟩ = some (.int .i64 5)
theorem KindsAt.below {w w' : World} (h : KindsAt w) (hb : Below w.heap.size w w') : KindsAt w' := ⟨cell_below hb h.1, cell_below hb h.2.1, cell_below hb h.2.2.1, cell_below hb h.2.2.2⟩

set_option maxRecDepth 100000 in
set_option maxHeartbeats 4000000 in
theorem opKinds_any (d l t g : Int) (b0 b1 b2 b3 b4 b5 b6 b7 b8 b9 : Bool) (w : World) :
    Calls Tryz.prog 28 #[.agg #[.int .i64 d, .int .i64 l, .int .i64 t, .int .i64 g, .bool b0, .bool b1, .bool b2, .bool b3, .bool b4, .bool b5, .bool b6, .bool b7, .bool b8, .bool b9]] w fun e w' => e = .returned (.agg #[.int .i64 d, .int .i64 l, .int .i64 t, .int .i64 g]) ∧ Below w.heap.size w w' := by
  go_enter Tryz.func28, Tryz.ntmps28
  go_wp2
  have hF := FourAt.new_ (w.alloc (.cells #[.int .i64 d, .int .i64 l, .int .i64 t, .int .i64 g, .bool b0, .bool b1, .bool b2, .bool b3, .bool b4, .bool b5, .bool b6, .bool b7, .bool b8, .bool b9] 24)) d l t g 72
  rw [size_alloc] at hF
  obtain ⟨⟨e0, e1, e2, e3⟩, _⟩ := hF
  refine bodyPost_ret (v := .agg #[.int .i64 d, .int .i64 l, .int .i64 t, .int .i64 g]) ?_ rfl ⟨rfl, below_self (below_new _ _) (below_new _ _)⟩
  simp [results, Tryz.results28, go_sem, e0, e1, e2, e3]
/-- A kind within its size. -/
def nrF (m x : Int) : Int := if m < (if x < 0 then 0 else x) then m else if x < 0 then 0 else x
def NearAt (w : World) (b : Nat) (d l t g : Int) (k : Nat) (wr : World) : Prop := FourAt wr b (if 0 < k then nrF 3 d else d) (if 1 < k then nrF 4 l else l) (if 2 < k then nrF 4 t else t) (if 3 < k then nrF 4 g else g) ∧ Below w.heap.size w wr ∧ FourAt wr (b + 1) 0 0 0 0
theorem FourAt.far {W : World} {b c : Nat} {x0 x1 x2 x3 : Int} (h : FourAt W b x0 x1 x2 x3) (hc : b ≠ c) (j : Nat) (u : Value) : FourAt (W.setCell ⟨c, j, none⟩ u) b x0 x1 x2 x3 :=
  ⟨⟨(World.cell?_setCell_other (h := fun e => hc (by injection e with e1 _ _; exact e1.symm)) ..).trans h.1.1, (World.cell?_setCell_other (h := fun e => hc (by injection e with e1 _ _; exact e1.symm)) ..).trans h.1.2.1, (World.cell?_setCell_other (h := fun e => hc (by injection e with e1 _ _; exact e1.symm)) ..).trans h.1.2.2.1, (World.cell?_setCell_other (h := fun e => hc (by injection e with e1 _ _; exact e1.symm)) ..).trans h.1.2.2.2⟩, fun i => (frozen_setO ..).trans (h.2 i)⟩
set_option maxRecDepth 100000 in
set_option maxHeartbeats 4000000 in
theorem opNearest_any (d l t g : Int) (w : World) (hK : KindsAt w) :
    Calls Tryz.prog 29 #[.agg #[.int .i64 d, .int .i64 l, .int .i64 t, .int .i64 g]] w fun e w' => e = .returned (.agg #[.int .i64 (nrF 3 d), .int .i64 (nrF 4 l), .int .i64 (nrF 4 t), .int .i64 (nrF 4 g)]) ∧ Below w.heap.size w w' := by
  have hb0 := below_new w (.cells #[.int .i64 d, .int .i64 l, .int .i64 t, .int .i64 g] 72)
  have hb1 := below_self hb0 (below_new (w.alloc (.cells #[.int .i64 d, .int .i64 l, .int .i64 t, .int .i64 g] 72)) (.cells #[.int .i64 0, .int .i64 0, .int .i64 0, .int .i64 0] 72))
  obtain ⟨z0, z1, z2, z3⟩ := hK.below hb1
  have HF := Lib.hid ((FourAt.new_ w d l t g 72).below (below_new (w.alloc (.cells #[.int .i64 d, .int .i64 l, .int .i64 t, .int .i64 g] 72)) (.cells #[.int .i64 0, .int .i64 0, .int .i64 0, .int .i64 0] 72)))
  have HB1 := Lib.hid hb1
  clear hb0 hb1 hK
  go_enter Tryz.func29, Tryz.ntmps29
  have i0 : ∀ w, (Instr.index 71 (.agg #[.int .i64 4, .int .i64 5, .int .i64 5, .int .i64 5]) (.int .i64 0)).run Tryz.prog w = .ok (.int .i64 4) w := fun _ => by kernel_rfl
  have i1 : ∀ w, (Instr.index 71 (.agg #[.int .i64 4, .int .i64 5, .int .i64 5, .int .i64 5]) (.int .i64 1)).run Tryz.prog w = .ok (.int .i64 5) w := fun _ => by kernel_rfl
  have i2 : ∀ w, (Instr.index 71 (.agg #[.int .i64 4, .int .i64 5, .int .i64 5, .int .i64 5]) (.int .i64 2)).run Tryz.prog w = .ok (.int .i64 5) w := fun _ => by kernel_rfl
  have i3 : ∀ w, (Instr.index 71 (.agg #[.int .i64 4, .int .i64 5, .int .i64 5, .int .i64 5]) (.int .i64 3)).run Tryz.prog w = .ok (.int .i64 5) w := fun _ => by kernel_rfl
  go_wp2
  have HN0 := Lib.hid (show NearAt w w.heap.size d l t g 0 _ from ⟨HF.out, HB1.out, by have := FourAt.new_ (w.alloc (.cells #[.int .i64 d, .int .i64 l, .int .i64 t, .int .i64 g] 72)) 0 0 0 0 72; rwa [size_alloc] at this⟩)
  clear HF HB1 z0 z1 z2 z3
  go_loopw [6] (fun i wr => ∃ k : Nat, k ≤ 4 ∧ i = .int .i64 k ∧ NearAt w w.heap.size d l t g k wr) (fun i _ => 4 - (intOf i).toNat)
  case atStart => exact ⟨0, Nat.zero_le _, rfl, HN0.out⟩
  case round =>
    clear HN0
    obtain ⟨k, hk, rfl, hN⟩ := hrel
    have hcase : k = 0 ∨ k = 1 ∨ k = 2 ∨ k = 3 ∨ k = 4 := by omega
    clear hk
    rcases hcase with rfl | rfl | rfl | rfl | rfl
    · have hF : FourAt wr w.heap.size d l t g := hN.1
      have hb := hN.2.1
      have h2 := hN.2.2
      have HX := Lib.hid (show NearAt w w.heap.size d l t g 1 (wr.setCell ⟨w.heap.size, 0, none⟩ (.int .i64 (nrF 3 d))) from ⟨hF.set0 _, below_setKO hb (Nat.le_refl _) _ _, h2.far (by omega) _ _⟩)
      obtain ⟨⟨d0, d1, d2, d3⟩, hf⟩ := hF
      have hf0 := hf 0
      have hlt := cell_lt d0
      clear hN hf h2 hb
      go_wp2
      go_roundw
      case rel => exact ⟨1, by omega, by go_num, HX.out⟩
      case measure => simp [intOf]
    · have hF : FourAt wr w.heap.size (nrF 3 d) l t g := hN.1
      have hb := hN.2.1
      have h2 := hN.2.2
      have HX := Lib.hid (show NearAt w w.heap.size d l t g 2 (wr.setCell ⟨w.heap.size, 1, none⟩ (.int .i64 (nrF 4 l))) from ⟨hF.set1 _, below_setKO hb (Nat.le_refl _) _ _, h2.far (by omega) _ _⟩)
      obtain ⟨⟨d0, d1, d2, d3⟩, hf⟩ := hF
      have hf0 := hf 1
      have hlt := cell_lt d0
      clear hN hf h2 hb
      go_wp2
      go_roundw
      case rel => exact ⟨2, by omega, by go_num, HX.out⟩
      case measure => simp [intOf]
    · have hF : FourAt wr w.heap.size (nrF 3 d) (nrF 4 l) t g := hN.1
      have hb := hN.2.1
      have h2 := hN.2.2
      have HX := Lib.hid (show NearAt w w.heap.size d l t g 3 (wr.setCell ⟨w.heap.size, 2, none⟩ (.int .i64 (nrF 4 t))) from ⟨hF.set2 _, below_setKO hb (Nat.le_refl _) _ _, h2.far (by omega) _ _⟩)
      obtain ⟨⟨d0, d1, d2, d3⟩, hf⟩ := hF
      have hf0 := hf 2
      have hlt := cell_lt d0
      clear hN hf h2 hb
      go_wp2
      go_roundw
      case rel => exact ⟨3, by omega, by go_num, HX.out⟩
      case measure => simp [intOf]
    · have hF : FourAt wr w.heap.size (nrF 3 d) (nrF 4 l) (nrF 4 t) g := hN.1
      have hb := hN.2.1
      have h2 := hN.2.2
      have HX := Lib.hid (show NearAt w w.heap.size d l t g 4 (wr.setCell ⟨w.heap.size, 3, none⟩ (.int .i64 (nrF 4 g))) from ⟨hF.set3 _, below_setKO hb (Nat.le_refl _) _ _, h2.far (by omega) _ _⟩)
      obtain ⟨⟨d0, d1, d2, d3⟩, hf⟩ := hF
      have hf0 := hf 3
      have hlt := cell_lt d0
      clear hN hf h2 hb
      go_wp2
      go_roundw
      case rel => exact ⟨4, by omega, by go_num, HX.out⟩
      case measure => simp [intOf]
    · have hF : FourAt wr w.heap.size (nrF 3 d) (nrF 4 l) (nrF 4 t) (nrF 4 g) := hN.1
      have HB := Lib.hid hN.2.1
      have h2 := hN.2.2
      have H2 := Lib.hid h2
      obtain ⟨⟨d0, d1, d2, d3⟩, _⟩ := hF
      obtain ⟨⟨q0, q1, q2, q3⟩, hf⟩ := h2
      have hf0 := hf 0
      have hf1 := hf 1
      have hf2 := hf 2
      have hf3 := hf 3
      have hlt := cell_lt d0
      have hlt2 := cell_lt q0
      simp only at hlt hlt2
      clear hN hf
      go_wp2
      (try simp only [Exit.inBlock, Exit.then])
      obtain ⟨⟨e0, e1, e2, e3⟩, _⟩ := (((H2.out.set0 (nrF 3 d)).set1 (nrF 4 l)).set2 (nrF 4 t)).set3 (nrF 4 g)
      refine bodyPost_ret (v := .agg #[.int .i64 (nrF 3 d), .int .i64 (nrF 4 l), .int .i64 (nrF 4 t), .int .i64 (nrF 4 g)]) ?_ rfl ⟨rfl, ?_⟩
      · simp [results, Tryz.results29, go_sem, e0, e1, e2, e3]
      · refine below_setKO (below_setKO (below_setKO (below_setKO HB.out ?_ _ _) ?_ _ _) ?_ _ _) ?_ _ _ <;> omega
end Go.Proofs.YtcbiaeeifclieaaGreatDoor
/- The reference's in of options. -/
namespace Go.Proofs.YtcbiaeeifclieaaGreatDoor
open Go.RowKit

theorem refIn_y (n m : Int) (y : Bool) (hy : decide (0 ≤ n ∧ n ≤ m) = y) (w : World) : Calls Tryz.prog 77 #[.int .i64 n, .int .i64 m] w fun e w' => e = .returned (.bool y) ∧ w = w' := by
  have hc : (n < 0 ∧ y = false) ∨ (0 ≤ n ∧ m < n ∧ y = false) ∨ (0 ≤ n ∧ n ≤ m ∧ y = true) := by
    cases y with
    | false =>
      have h1 := of_decide_eq_false hy
      by_cases h : n < 0
      · exact .inl ⟨h, rfl⟩
      · exact .inr (.inl ⟨by omega, by omega, rfl⟩)
    | true => have h1 := of_decide_eq_true hy; exact .inr (.inr ⟨h1.1, h1.2, rfl⟩)
  clear hy
  rcases hc with ⟨h, hy⟩ | ⟨h, h', hy⟩ | ⟨h, h', hy⟩ <;> subst hy
  · go_enter Tryz.func77, Tryz.ntmps77
    go_wp2
    go_ret
    exact ⟨by simp <;> omega, rfl⟩
  · go_enter Tryz.func77, Tryz.ntmps77
    go_wp2
    go_ret
    exact ⟨by simp <;> omega, rfl⟩
  · go_enter Tryz.func77, Tryz.ntmps77
    go_wp2
    go_ret
    exact ⟨by simp <;> omega, rfl⟩
theorem odd_ref (d l t g : Int) (b0 b1 b2 b3 b4 b5 b6 b7 b8 b9 ltr gone : Bool) (hl : ((l != 0) || (t != 0) || b3 || b4 || b5) = ltr) (hg : ((t == 3) || (t == 4)) = gone) :
    Opt.odd ⟨d, l, t, g, b0, b1, b2, b3, b4, b5, b6, b7, b8, b9⟩ = ((ltr && !b1) || (b2 && (l == 0)) || (b3 && gone) || (b7 && !b6)) := by
  rw [← hl, ← hg]
  clear hl hg
  unfold Opt.odd
  simp only
  have e1 : decide (l ≠ 0) = (l != 0) := by by_cases h : l = 0 <;> simp [h]
  have e2 : decide (t ≠ 0) = (t != 0) := by by_cases h : t = 0 <;> simp [h]
  have e3 : (l == 0) = !(l != 0) := by show (l == 0) = !!(l == 0); rw [Bool.not_not]
  have e4 : decide (t = 3) = (t == 3) := by by_cases h : t = 3 <;> simp [h]
  have e5 : decide (t = 4) = (t == 4) := by by_cases h : t = 4 <;> simp [h]
  have e6 : decide (l = 0) = !(l != 0) := by by_cases h : l = 0 <;> simp [h]
  rw [e1, e2, e3, e4, e5, e6]
  generalize (l != 0) = x1
  generalize (t != 0) = x2
  generalize (t == 3) = x3
  generalize (t == 4) = x4
  revert x1 x2 x3 x4 b1 b2 b3 b4 b5 b6 b7
  decide
end Go.Proofs.YtcbiaeeifclieaaGreatDoor
/- The reference's Groups of spans, and whether a place begins a part. -/
namespace Go.Proofs.YtcbiaeeifclieaaGreatDoor
open Go.RowKit

set_option maxRecDepth 100000 in
set_option maxHeartbeats 2000000 in
theorem refPartedS_any (p m : Int) (A : Option Addr) (n c : Nat) (l : List Sp) (w : World) (hr : Rd w 2 A n (cellsS l)) (hn : n ≤ maxLen) :
    Calls Tryz.prog 85 #[.int .i64 p, .int .i64 m, .slice A n c] w fun e w' => e = .returned (.bool (partedS p m l)) ∧ Below w.heap.size w w' := by
  have hlen : l.length = n := by have := hr.1; rw [cellsS_len] at this; omega
  have HL := Lib.hid hlen
  clear hlen
  unfold maxLen at hn
  go_enter Tryz.func85, Tryz.ntmps85
  go_wp2
  go_loopw [7] (fun i wr => ∃ k : Nat, k ≤ n ∧ i = .int .i64 k ∧ (l.take k).any (acrossB p m) = false ∧ Below w.heap.size w wr) (fun i _ => n - (intOf i).toNat)
  case atStart => exact ⟨0, Nat.zero_le _, rfl, by simp, Below.refl _ _⟩
  case round =>
    obtain ⟨k, hk, rfl, hno, hb⟩ := hrel
    have HN := Lib.hid hno
    clear hno
    by_cases hlt : k < n
    · obtain ⟨s, hsk⟩ : ∃ s, l[k]? = some s := ⟨_, List.getElem?_eq_getElem (by rw [HL.out]; exact hlt)⟩
      obtain ⟨ad, rfl, hab, c1, c2⟩ := (hr.below hb).span hsk
      have HS := Lib.hid hsk
      have HT := Lib.hid (show (l.take (k + 1)).any (acrossB p m) = acrossB p m s by rw [List.take_add_one, hsk, List.any_append, HN.out]; simp)
      clear hsk
      obtain ⟨lo, hi⟩ := s
      simp only at c1 c2
      go_wp2_with fail
      refine (refRight_any lo hi _).mono ?_
      rintro e w1 ⟨rfl, hb1⟩
      have hb2 := hb.trans (Below.mono (below_self (below_new wr _) hb1) hb.size)
      have d1 : w1.cell? ⟨wr.heap.size, 0, none⟩ = some (.int .i64 lo) := cell_below hb1 (by rw [World.cell?_alloc_at _ _ _ _ rfl]; rfl)
      have d2 : w1.cell? ⟨wr.heap.size, 1, none⟩ = some (.int .i64 hi) := cell_below hb1 (by rw [World.cell?_alloc_at _ _ _ _ rfl]; rfl)
      clear hb1 c1 c2
      cases hr1 : rightB (lo, hi) with
      | false =>
        have HA := Lib.hid (show acrossB p m (lo, hi) = false by unfold acrossB; rw [hr1]; rfl)
        go_wp2
        go_roundw
        case rel => exact ⟨k + 1, by omega, by go_num, by rw [HT.out, HA.out], hb2⟩
        case measure => simp [intOf]; omega
      | true =>
        have hdec : m < hi ∨ (hi ≤ m ∧ p ≤ lo) ∨ (hi ≤ m ∧ lo < p ∧ hi ≤ p) ∨ (hi ≤ m ∧ lo < p ∧ p < hi) := by omega
        rcases hdec with h | ⟨h, h2⟩ | ⟨h, h2, h3⟩ | ⟨h, h2, h3⟩
        · have HA := Lib.hid (show acrossB p m (lo, hi) = false by unfold acrossB; rw [hr1]; simp; omega)
          go_wp2
          go_roundw
          case rel => exact ⟨k + 1, by omega, by go_num, by rw [HT.out, HA.out], hb2⟩
          case measure => simp [intOf]; omega
        · have HA := Lib.hid (show acrossB p m (lo, hi) = false by unfold acrossB; rw [hr1]; simp; omega)
          go_wp2
          go_roundw
          case rel => exact ⟨k + 1, by omega, by go_num, by rw [HT.out, HA.out], hb2⟩
          case measure => simp [intOf]; omega
        · have HA := Lib.hid (show acrossB p m (lo, hi) = false by unfold acrossB; rw [hr1]; simp; omega)
          go_wp2
          go_roundw
          case rel => exact ⟨k + 1, by omega, by go_num, by rw [HT.out, HA.out], hb2⟩
          case measure => simp [intOf]; omega
        · have HF := Lib.hid (show partedS p m l = false by
            have HA : acrossB p m (lo, hi) = true := by unfold acrossB; rw [hr1]; simp; omega
            unfold partedS
            rw [List.any_eq_true.2 ⟨_, List.mem_of_getElem? HS.out, HA⟩]; rfl)
          go_wp2
          go_ret
          exact ⟨retB (by simp [HF.out]), hb2⟩
    · have HF := Lib.hid (show partedS p m l = true by
        unfold partedS
        have := HN.out
        rw [List.take_of_length_le (by rw [HL.out]; omega)] at this
        rw [this]; rfl)
      go_wp2
      go_ret
      exact ⟨retB (by simp [HF.out]), hb⟩

set_option maxRecDepth 100000 in
set_option maxHeartbeats 2000000 in
theorem refGroups_any (m : Int) (A : Option Addr) (n c : Nat) (l : List Sp) (w : World) (hr : Rd w 2 A n (cellsS l)) (hn : n ≤ maxLen) (hm : m ≤ 1000000) :
    Calls Tryz.prog 54 #[.int .i64 m, .slice A n c] w fun e w' => ∃ v, e = .returned v ∧ w'.ownsRow w.heap.size 39 2 v (groupsS m l).length (cellsS (groupsS m l)) ∧ Below w.heap.size w w' := by
  go_enter Tryz.func54, Tryz.ntmps54
  go_wp2
  go_loopw [5, 6, 7] (fun v x i wr => ∃ (k : Nat) (acc : List Sp) (y : Int), k ≤ m.toNat ∧ i = .int .i64 (k + 1) ∧ x = .int .i64 y ∧ acc.length ≤ k ∧ groupsS m l = acc ++ groupsGo m l (m.toNat - k) y (k + 1) ∧ wr.ownsRow w.heap.size 39 2 v acc.length (cellsS acc) ∧ Below w.heap.size w wr) (fun _ _ i _ => (m + 1 - intOf i).toNat)
  case atStart => exact ⟨0, [], 0, Nat.zero_le _, rfl, rfl, Nat.le_refl _, rfl, ⟨rfl, .inl ⟨rfl, rfl⟩⟩, Below.refl _ _⟩
  case round =>
    obtain ⟨k, acc, y, hk, rfl, rfl, hal, hg, hown, hb⟩ := hrel
    have HG := Lib.hid hg
    clear hg
    by_cases hlt : (k : Int) + 1 ≤ m
    · obtain ⟨f, hf⟩ : ∃ f, m.toNat - k = f + 1 := ⟨m.toNat - k - 1, by omega⟩
      have hf' : m.toNat - (k + 1) = f := by omega
      have HF := Lib.hid hf
      have HF' := Lib.hid hf'
      have hk1 : k + 1 ≤ m.toNat := by omega
      clear hf hf'
      have hcast : ((k : Int) + 1 + 1) = (((k + 1 : Nat) : Int) + 1) := by omega
      have HC := Lib.hid hcast
      clear hcast
      by_cases he : (k : Int) + 1 = m
      · have HY := Lib.hid (groupsGo_yes (l := l) (f := f) (lo := y) (.inl he))
        have he' : ((k : Int) + 1 == m) = true := by simpa using he
        clear he
        go_wp2_with (at_builtin; refine wpList_app rfl _ _ _ rfl spanSlice (by decide) u5 acc.length _ rfl (hown.alloc _) ⟨wr.heap.size, 0, none⟩ 1 1 [.int .i64 y, .int .i64 ((k : Int) + 1)] rfl rfl (cells_new wr [_, _] _) (oneInt2 _ _ _) (by omega) (by unfold maxLen; omega) (Nat.le_trans hb.size (by simp)) ?_; intro v1 w1 hown1 hg1 hat1)
        have hgr := below_app (hb.alloc hb.size _) hg1 (hown.alloc _) (Nat.le_trans hb.size (by simp))
        go_roundw
        case rel => exact ⟨k + 1, acc ++ [(y, (k : Int) + 1)], (k : Int) + 1, hk1, by rw [← HC.out], rfl, by simp; omega, by rw [HG.out, HF.out, HY.out, HF'.out, ← HC.out]; simp, by rw [cellsS_snoc, List.length_append]; exact hown1, hgr⟩
        case measure => simp [intOf]; omega
      · have he' : ((k : Int) + 1 == m) = false := by simpa using he
        go_wp2_with fail
        refine (refPartedS_any _ m A n c l _ (hr.below hb) hn).mono ?_
        rintro e w1 ⟨rfl, hb1⟩
        have hb2 := hb.trans (hb1.mono hb.size)
        have hown2 := hown.kept (w' := w1) (row := none) ⟨hb1.os, hb1.tape, hb1.output, hb1.size, fun j hj _ => hb1.block j hj⟩ (by rcases u5.ownBlock with _ | _ <;> simp)
        clear hb1 hown hb
        cases hp : partedS ((k : Int) + 1) m l with
        | true =>
          have HY := Lib.hid (groupsGo_yes (l := l) (f := f) (lo := y) (n := m) (p := (k : Int) + 1) (.inr hp))
          clear he
          go_wp2_with (at_builtin; refine wpList_app rfl _ _ _ rfl spanSlice (by decide) u5 acc.length _ rfl (hown2.alloc _) ⟨w1.heap.size, 0, none⟩ 1 1 [.int .i64 y, .int .i64 ((k : Int) + 1)] rfl rfl (cells_new w1 [_, _] _) (oneInt2 _ _ _) (by omega) (by unfold maxLen; omega) (Nat.le_trans hb2.size (by simp)) ?_; intro v1 w3 hown1 hg1 hat1)
          have hgr := below_app (hb2.alloc hb2.size _) hg1 (hown2.alloc _) (Nat.le_trans hb2.size (by simp))
          go_roundw
          case rel => exact ⟨k + 1, acc ++ [(y, (k : Int) + 1)], (k : Int) + 1, hk1, by rw [← HC.out], rfl, by simp; omega, by rw [HG.out, HF.out, HY.out, HF'.out, ← HC.out]; simp, by rw [cellsS_snoc, List.length_append]; exact hown1, hgr⟩
          case measure => simp [intOf]; omega
        | false =>
          have HY := Lib.hid (groupsGo_no (l := l) (f := f) (lo := y) (n := m) (p := (k : Int) + 1) (fun h => by rcases h with h | h; exact he h; rw [hp] at h; cases h))
          clear he
          go_wp2
          go_roundw
          case rel => exact ⟨k + 1, acc, y, hk1, by rw [← HC.out], rfl, by omega, by rw [HG.out, HF.out, HY.out, HF'.out, ← HC.out], hown2, hb2⟩
          case measure => simp [intOf]; omega
    · have HZ := Lib.hid (show groupsS m l = acc by rw [HG.out, show m.toNat - k = 0 by omega]; simp [groupsGo])
      go_wp2
      go_ret
      exact ⟨u5, rfl, by rw [HZ.out]; exact hown, hb⟩
end Go.Proofs.YtcbiaeeifclieaaGreatDoor
/- The reference's least and same, on a row of numbers of the caller's own. -/
namespace Go.Proofs.YtcbiaeeifclieaaGreatDoor
open Go.RowKit

/-- All from lo on, below k, is v. -/
def setTo (xs : List Int) (lo k : Nat) (v : Int) : List Int := xs.take lo ++ List.replicate (k - lo) v ++ xs.drop k
theorem setTo_len {xs : List Int} {lo k : Nat} (v : Int) (h : lo ≤ k) (hk : k ≤ xs.length) : (setTo xs lo k v).length = xs.length := by
  simp [setTo]; omega
theorem setTo_start (xs : List Int) (lo : Nat) (v : Int) : setTo xs lo lo v = xs := by simp [setTo]
theorem setTo_at {xs : List Int} {lo k : Nat} {x : Int} (v : Int) (h : lo ≤ k) (hx : xs[k]? = some x) : (setTo xs lo k v)[k]? = some x := by
  have hk := (List.getElem?_eq_some_iff.1 hx).1
  have hl : (xs.take lo ++ List.replicate (k - lo) v).length = k := by simp; omega
  unfold setTo
  rw [List.getElem?_append_right (by omega), hl, List.getElem?_drop]
  simpa using hx
theorem setTo_step {xs : List Int} {lo k : Nat} {x : Int} (v : Int) (h : lo ≤ k) (hx : xs[k]? = some x) : (setTo xs lo k v).set k v = setTo xs lo (k + 1) v := by
  have hk := (List.getElem?_eq_some_iff.1 hx).1
  have hl : (xs.take lo ++ List.replicate (k - lo) v).length = k := by simp; omega
  unfold setTo
  rw [List.set_append_right _ _ (by omega), hl, dropCons hx]
  have e : k + 1 - lo = (k - lo) + 1 := by omega
  rw [e, List.replicate_succ']
  simp
theorem setTo_same {xs : List Int} {lo k : Nat} {v : Int} (h : lo ≤ k) (hx : xs[k]? = some v) : setTo xs lo (k + 1) v = setTo xs lo k v := by
  rw [← setTo_step v h hx]
  exact List.set_getElem?_self' (setTo_at v h hx)
where
  List.set_getElem?_self' {l : List Int} {k : Nat} {v : Int} (h : l[k]? = some v) : l.set k v = l := by
    apply List.ext_getElem?
    intro i
    rw [List.getElem?_set]
    split
    · rename_i e; subst e
      have hk := (List.getElem?_eq_some_iff.1 h).1
      rw [if_pos hk]
      exact h.symm
    · rfl
theorem grown_two {a b c : World} {row : Option Nat} (h : a.grownBy b row) (k : b.grownBy c row) : a.grownBy c row :=
  ⟨k.os.trans h.os, k.tape.trans h.tape, k.output.trans h.output, Nat.le_trans h.size k.size, fun i hi hne => (k.block i (Nat.lt_of_lt_of_le hi h.size) hne).trans (h.block i hi hne)⟩
/-- Whether something from lo on, below k, is not v. -/
def changedB (xs : List Int) (lo k : Nat) (v : Int) : Bool := ((xs.drop lo).take (k - lo)).any fun x => x != v
theorem changedB_step {xs : List Int} {lo k : Nat} {x : Int} (v : Int) (h : lo ≤ k) (hx : xs[k]? = some x) : changedB xs lo (k + 1) v = (changedB xs lo k v || (x != v)) := by
  unfold changedB
  have e : k + 1 - lo = (k - lo) + 1 := by omega
  have hd : (xs.drop lo)[k - lo]? = some x := by rw [List.getElem?_drop, show lo + (k - lo) = k by omega]; exact hx
  rw [e, List.take_add_one, hd, List.any_append]
  simp

set_option maxRecDepth 100000 in
set_option maxHeartbeats 2000000 in
theorem refSame_any (base g c n lo hi : Nat) (xs : List Int) (v : Int) (w : World) (hxn : xs.length = n) (hown : w.ownsRow base 3 1 (.slice (some ⟨g, 0, none⟩) n c) n (xs.map (Value.int .i64))) (hbase : base ≤ w.heap.size) (hlh : lo ≤ hi) (hhn : hi ≤ n) (hn : n ≤ 100000000) :
    Calls Tryz.prog 112 #[.slice (some ⟨g, 0, none⟩) n c, .agg #[.int .i64 (lo : Int), .int .i64 (hi : Int)], .int .i64 v] w fun e w' =>
      e = .returned (.bool (changedB xs lo hi v)) ∧ w'.ownsRow base 3 1 (.slice (some ⟨g, 0, none⟩) n c) n ((setTo xs lo hi v).map (Value.int .i64)) ∧ w.grownBy w' (some g) := by
  have HL := Lib.hid hxn
  clear hxn
  go_enter Tryz.func112, Tryz.ntmps112
  go_wp2
  go_loopw [7, 8] (fun b i wr => ∃ k : Nat, lo ≤ k ∧ k ≤ hi ∧ i = .int .i64 k ∧ b = .bool (changedB xs lo k v) ∧ wr.ownsRow base 3 1 (.slice (some ⟨g, 0, none⟩) n c) n ((setTo xs lo k v).map (Value.int .i64)) ∧ wr.cell? ⟨w.heap.size, 1, none⟩ = some (.int .i64 (hi : Int)) ∧ w.grownBy wr (some g) ∧ g < w.heap.size) (fun _ i _ => hi - (intOf i).toNat)
  case atStart =>
    refine ⟨lo, Nat.le_refl _, hlh, rfl, by simp [changedB], by rw [setTo_start]; exact hown.alloc _, by rw [World.cell?_alloc_at _ _ _ _ rfl]; rfl, World.grownBy_alloc _ _ _, (hown.lt g rfl).2⟩
  case round =>
    obtain ⟨k, hlk, hkh, rfl, rfl, hownr, hcb, hgr, hglt⟩ := hrel
    by_cases hlt : k < hi
    · obtain ⟨x, hxk⟩ : ∃ x, xs[k]? = some x := ⟨_, List.getElem?_eq_getElem (by rw [HL.out]; omega)⟩
      have hcx : wr.cell? ⟨g, k, none⟩ = some (.int .i64 x) := by
        rw [hownr.cellAt k (by omega), List.getElem?_map, setTo_at v hlk hxk]; rfl
      have hfx := hownr.frozenAt k
      have HC := Lib.hid (changedB_step v hlk hxk)
      by_cases he : x = v
      · subst he
        have HS := Lib.hid (setTo_same hlk hxk)
        clear hxk
        have HC2 := Lib.hid (show changedB xs lo (k + 1) x = changedB xs lo k x by rw [HC.out]; simp)
        go_wp2
        go_roundw
        case rel => exact ⟨k + 1, by omega, by omega, by go_num, by rw [HC2.out], by rw [HS.out]; exact hownr, hcb, hgr, hglt⟩
        case measure => simp [intOf]; omega
      · have hne : (x != v) = true := by simpa using he
        have hne2 : (x == v) = false := by simpa using he
        have HC2 := Lib.hid (show changedB xs lo (k + 1) v = true by rw [HC.out, hne]; simp)
        have HS := Lib.hid (setTo_step v hlk hxk)
        have hst := hownr.stored k (.int .i64 v)
        rw [← List.map_set] at hst
        have hcb2 : (wr.setCell ⟨g, k, none⟩ (.int .i64 v)).cell? ⟨w.heap.size, 1, none⟩ = some (.int .i64 (hi : Int)) := (World.cell?_setCell_other (h := by first | (simp; done) | (simp; omega)) ..).trans hcb
        have HST := Lib.hid hst
        clear hxk he hst
        go_wp2
        go_roundw
        case rel => exact ⟨k + 1, by omega, by omega, by go_num, by rw [HC2.out], by rw [← HS.out]; exact HST.out.1, hcb2, grown_two hgr HST.out.2, hglt⟩
        case measure => simp [intOf]; omega
    · have HK := Lib.hid (show k = hi by omega)
      go_wp2
      go_ret
      exact ⟨retB (by rw [HK.out]), by rw [← HK.out]; exact hownr, hgr⟩
end Go.Proofs.YtcbiaeeifclieaaGreatDoor
/- The reference's least of the numbers of a span, and the hull of a number. -/
namespace Go.Proofs.YtcbiaeeifclieaaGreatDoor
open Go.RowKit

def leastStep (n x : Int) : Int := if x < n then x else n
def leastS (xs : List Int) (lo hi : Nat) : Int := ((xs.drop lo).take (hi - lo)).foldl leastStep (xs.getD lo 0)
theorem takeCons {xs : List Int} {k hi : Nat} {x : Int} (h : xs[k]? = some x) (hk : k < hi) : (xs.drop k).take (hi - k) = x :: (xs.drop (k + 1)).take (hi - (k + 1)) := by
  rw [dropCons h, show hi - k = (hi - (k + 1)) + 1 by omega, List.take_succ_cons]

set_option maxRecDepth 100000 in
set_option maxHeartbeats 1000000 in
theorem refLeast_any (A : Option Addr) (n c lo hi : Nat) (xs : List Int) (w : World) (hr : Rd w 1 A n (xs.map (Value.int .i64))) (hlt : lo < n) (hhn : hi ≤ n) (hn : n ≤ 100000000) :
    Calls Tryz.prog 111 #[.slice A n c, .agg #[.int .i64 (lo : Int), .int .i64 (hi : Int)]] w fun e w' => e = .returned (.int .i64 (leastS xs lo hi)) ∧ Below w.heap.size w w' := by
  have hlen : xs.length = n := by have := hr.1; rw [List.length_map] at this; omega
  have HL := Lib.hid hlen
  clear hlen
  obtain ⟨x0, hx0⟩ : ∃ x, xs[lo]? = some x := ⟨_, List.getElem?_eq_getElem (by rw [HL.out]; exact hlt)⟩
  obtain ⟨ad, rfl, hab, hc0⟩ := hr.at_ hlt
  have c0 : w.cell? (ad.add lo) = some (.int .i64 x0) := hc0 _ (by rw [List.getElem?_map, hx0]; rfl)
  have HS := Lib.hid (show leastS xs lo hi = ((xs.drop lo).take (hi - lo)).foldl leastStep x0 by unfold leastS; rw [List.getD_eq_getElem?_getD, hx0]; rfl)
  clear hx0 hc0
  have hba : Below w.heap.size w (w.alloc (Obj.cells #[.int .i64 (lo : Int), .int .i64 (hi : Int)] 39)) := (Below.refl _ _).alloc (Nat.le_refl _) _
  have c0a := (hba.cell (by rw [blockAdd]; exact hab)).trans c0
  go_enter Tryz.func111, Tryz.ntmps111
  go_wp2
  go_loop [5, 6] (fun y i => ∃ (k : Nat) (y' : Int), lo ≤ k ∧ (k ≤ hi ∨ k = lo) ∧ i = .int .i64 k ∧ y = .int .i64 y' ∧ leastS xs lo hi = ((xs.drop k).take (hi - k)).foldl leastStep y') (fun _ i => hi - (intOf i).toNat)
  case atStart => exact ⟨lo, x0, Nat.le_refl _, .inr rfl, rfl, rfl, HS.out⟩
  case round =>
    obtain ⟨k, y, hlk, hk, rfl, rfl, hh⟩ := hrel
    have HH := Lib.hid hh
    clear hh
    by_cases hlt : k < hi
    · obtain ⟨x, hxk⟩ : ∃ x, xs[k]? = some x := ⟨_, List.getElem?_eq_getElem (by rw [HL.out]; omega)⟩
      have HD := Lib.hid (takeCons hxk hlt)
      obtain ⟨ad', e', _, hck⟩ := hr.at_ (k := k) (by omega)
      injection e' with e'
      subst e'
      have ck : w.cell? (ad.add k) = some (.int .i64 x) := hck _ (by rw [List.getElem?_map, hxk]; rfl)
      have cka := (hba.cell (by rw [blockAdd]; exact hab)).trans ck
      clear hxk hck
      go_wp2
      all_goals
        go_round
        case rel => exact ⟨k + 1, leastStep y x, by omega, .inl (by omega), by go_num, by first | rfl | (simp only [leastStep]; first | rw [if_pos ‹_›] | rw [if_neg ‹_›] | rw [if_neg (by omega)]), by rw [HH.out, HD.out]; rfl⟩
        case measure => simp [intOf]; omega
    · have HZ := Lib.hid (show leastS xs lo hi = y by rw [HH.out, show hi - k = 0 by omega]; rfl)
      go_wp2
      go_ret
      exact ⟨retI HZ.out.symm, hba⟩
end Go.Proofs.YtcbiaeeifclieaaGreatDoor
/- The reference's hull of a number. -/
namespace Go.Proofs.YtcbiaeeifclieaaGreatDoor
open Go.RowKit

/-- From the first place with a number to behind the last one. -/
def hullFrom (v : Int) : List Int → Nat → Sp → Sp
  | [], _, st => st
  | x :: l, k, st => hullFrom v l (k + 1) (if (x == v) = true then (if (st.2 == 0) = true then (k : Int) else st.1, (k : Int) + 1) else st)
def hullN (xs : List Int) (v : Int) : Sp := hullFrom v xs 0 (0, 0)
theorem hullFrom_no {v x : Int} {l : List Int} {k : Nat} {st : Sp} (h : (x == v) = false) : hullFrom v (x :: l) k st = hullFrom v l (k + 1) st := by
  rw [hullFrom, if_neg (by rw [h]; decide)]
theorem hullFrom_first {v x a b : Int} {l : List Int} {k : Nat} (h : (x == v) = true) (hb : (b == 0) = true) : hullFrom v (x :: l) k (a, b) = hullFrom v l (k + 1) (k, (k : Int) + 1) := by
  rw [hullFrom, if_pos h, if_pos hb]
theorem hullFrom_more {v x a b : Int} {l : List Int} {k : Nat} (h : (x == v) = true) (hb : (b == 0) = false) : hullFrom v (x :: l) k (a, b) = hullFrom v l (k + 1) (a, (k : Int) + 1) := by
  rw [hullFrom, if_pos h, if_neg (by simp only [hb]; decide)]
theorem SpanBlk.put1 {w : World} {b : Nat} {s : Sp} (h : SpanBlk w b s) (y : Int) : SpanBlk (w.setCell ⟨b, 1, none⟩ (.int .i64 y)) b (s.1, y) := by
  obtain ⟨h0, h1, h2, h3⟩ := h
  refine ⟨?_, World.cell?_setCell_same (h := h1) .., ?_, ?_⟩
  · exact (World.cell?_setCell_other (h := by simp) ..).trans h0
  · rw [World.frozen?_setCell]; exact h2
  · rw [World.frozen?_setCell]; exact h3
theorem SpanBlk.far1 {w : World} {b b' : Nat} {s : Sp} (h : SpanBlk w b s) (hne : b ≠ b') (v : Value) : SpanBlk (w.setCell ⟨b', 1, none⟩ v) b s := by
  obtain ⟨h0, h1, h2, h3⟩ := h
  refine ⟨?_, ?_, ?_, ?_⟩
  · exact (World.cell?_setCell_other (h := by first | (simp; done) | (simp; omega)) ..).trans h0
  · exact (World.cell?_setCell_other (h := by first | (simp; done) | (simp; omega)) ..).trans h1
  · rw [World.frozen?_setCell]; exact h2
  · rw [World.frozen?_setCell]; exact h3

set_option maxRecDepth 100000 in
set_option maxHeartbeats 2000000 in
theorem refHullN_any (A : Option Addr) (n c : Nat) (xs : List Int) (v : Int) (w : World) (hr : Rd w 1 A n (xs.map (Value.int .i64))) (hn : n ≤ 100000000) :
    Calls Tryz.prog 90 #[.slice A n c, .int .i64 v] w fun e w' => e = .returned (.agg #[.int .i64 (hullN xs v).1, .int .i64 (hullN xs v).2]) ∧ Below w.heap.size w w' := by
  have hlen : xs.length = n := by have := hr.1; rw [List.length_map] at this; omega
  have HL := Lib.hid hlen
  clear hlen
  go_enter Tryz.func90, Tryz.ntmps90
  go_wp2
  go_loopw [6] (fun i wr => ∃ (k : Nat) (st : Sp), k ≤ n ∧ i = .int .i64 k ∧ hullN xs v = hullFrom v (xs.drop k) k st ∧ SpanBlk wr w.heap.size (0, 0) ∧ SpanBlk wr (w.heap.size + 1) st ∧ w.heap.size + 1 < wr.heap.size ∧ Below w.heap.size w wr) (fun i _ => n - (intOf i).toNat)
  case atStart =>
    refine ⟨0, (0, 0), Nat.zero_le _, rfl, rfl, ?_, ?_, by simp, ((Below.refl _ _).alloc (Nat.le_refl _) _).alloc (by simp) _⟩
    · refine ⟨?_, ?_, ?_, ?_⟩ <;> simp [go_sem]
    · refine ⟨?_, ?_, ?_, ?_⟩ <;> simp [go_sem]
  case round =>
    obtain ⟨k, st, hk, rfl, hh, ⟨r0, r1, r2, r3⟩, ⟨t0, t1, t2, t3⟩, hsz, hb⟩ := hrel
    have HH := Lib.hid hh
    clear hh
    by_cases hlt : k < n
    · obtain ⟨s, hsk⟩ : ∃ s, xs[k]? = some s := ⟨_, List.getElem?_eq_getElem (by rw [HL.out]; exact hlt)⟩
      have HD := Lib.hid (dropCons hsk)
      obtain ⟨ad, rfl, hab, hck⟩ := hr.at_ hlt
      have ck := (hb.cell (by rw [blockAdd]; exact hab)).trans (hck (.int .i64 s) (by rw [List.getElem?_map, hsk]; rfl))
      clear hsk hck
      obtain ⟨x, y⟩ := st
      simp only at r0 r1 t0 t1
      cases he : s == v with
      | false =>
        have HS := Lib.hid (hullFrom_no (l := xs.drop (k + 1)) (k := k) (st := (x, y)) he)
        go_wp2
        go_roundw
        case rel => exact ⟨k + 1, (x, y), by omega, by go_num, by rw [HH.out, HD.out, HS.out], ⟨r0, r1, r2, r3⟩, ⟨t0, t1, t2, t3⟩, hsz, hb⟩
        case measure => simp [intOf]; omega
      | true =>
        have B0 : SpanBlk wr w.heap.size (0, 0) := ⟨r0, r1, r2, r3⟩
        have B1 : SpanBlk wr (w.heap.size + 1) (x, y) := ⟨t0, t1, t2, t3⟩
        cases hy : y == 0 with
        | false =>
          have HS := Lib.hid (hullFrom_more (a := x) (l := xs.drop (k + 1)) (k := k) he hy)
          have HP := Lib.hid (B1.put1 ((k : Int) + 1))
          have HF := Lib.hid (B0.far1 (b' := w.heap.size + 1) (by omega) (.int .i64 ((k : Int) + 1)))
          have hbe := hb.setCell (p := ⟨w.heap.size + 1, 1, none⟩) (by simp) (.int .i64 ((k : Int) + 1))
          clear B0 B1
          go_wp2
          go_roundw
          case rel => exact ⟨k + 1, (x, (k : Int) + 1), by omega, by go_num, by rw [HH.out, HD.out, HS.out], HF.out, HP.out, by simpa [World.setCell] using hsz, hbe⟩
          case measure => simp [intOf]; omega
        | true =>
          have HS := Lib.hid (hullFrom_first (a := x) (l := xs.drop (k + 1)) (k := k) he hy)
          have HP := Lib.hid (B1.put (k : Int) ((k : Int) + 1))
          have HF := Lib.hid (B0.far (b' := w.heap.size + 1) (by omega) (.int .i64 (k : Int)) (.int .i64 ((k : Int) + 1)))
          have hbe := (hb.setCell (p := ⟨w.heap.size + 1, 0, none⟩) (by simp) (.int .i64 (k : Int))).setCell (p := ⟨w.heap.size + 1, 1, none⟩) (by simp) (.int .i64 ((k : Int) + 1))
          clear B0 B1
          go_wp2
          go_roundw
          case rel => exact ⟨k + 1, (k, (k : Int) + 1), by omega, by go_num, by rw [HH.out, HD.out, HS.out], HF.out, HP.out, by simpa [World.setCell] using hsz, hbe⟩
          case measure => simp [intOf]; omega
    · have HZ := Lib.hid (show hullN xs v = st by rw [HH.out, List.drop_eq_nil_of_le (by rw [HL.out]; omega)]; rfl)
      obtain ⟨x, y⟩ := st
      simp only at r0 r1 t0 t1
      have hbe := (hb.setCell (p := ⟨w.heap.size, 0, none⟩) (Nat.le_refl _) (.int .i64 x)).setCell (p := ⟨w.heap.size, 1, none⟩) (Nat.le_refl _) (.int .i64 y)
      have HR := Lib.hid (SpanBlk.put (w := wr) (b := w.heap.size) (s := (0, 0)) ⟨r0, r1, r2, r3⟩ x y)
      go_wp2
      generalize ((wr.setCell ⟨w.heap.size, 0, none⟩ (.int .i64 x)).setCell ⟨w.heap.size, 1, none⟩ (.int .i64 y)) = w5 at *
      obtain ⟨u0, u1, _, _⟩ := HR.out
      simp only at u0 u1
      exact bodyPost_ret (v := .agg #[.int .i64 x, .int .i64 y]) (by simp [results, Tryz.results90, go_sem, u0, u1]) rfl ⟨by rw [HZ.out], hbe⟩
end Go.Proofs.YtcbiaeeifclieaaGreatDoor
/- The reference's linked: which places of what goes in are in a link. -/
namespace Go.Proofs.YtcbiaeeifclieaaGreatDoor
open Go.RowKit

/-- All from lo on, below k, is true. -/
def fillB (xs : List Bool) (lo k : Nat) : List Bool := xs.take lo ++ List.replicate (k - lo) true ++ xs.drop k
theorem fillB_len {xs : List Bool} {lo k : Nat} (h : lo ≤ k) (hk : k ≤ xs.length) : (fillB xs lo k).length = xs.length := by
  simp [fillB]; omega
theorem fillB_start (xs : List Bool) (lo : Nat) : fillB xs lo lo = xs := by simp [fillB]
theorem fillB_step {xs : List Bool} {lo k : Nat} (h : lo ≤ k) (hk : k < xs.length) : (fillB xs lo k).set k true = fillB xs lo (k + 1) := by
  obtain ⟨x, hx⟩ : ∃ x, xs[k]? = some x := ⟨_, List.getElem?_eq_getElem hk⟩
  have hl : (xs.take lo ++ List.replicate (k - lo) true).length = k := by simp; omega
  unfold fillB
  rw [List.set_append_right _ _ (by omega), hl, dropCons hx]
  have e : k + 1 - lo = (k - lo) + 1 := by omega
  rw [e, List.replicate_succ']
  simp
def linkStep (out : List Bool) (c : Cl) : List Bool := fillB out c.1.1.toNat c.1.2.toNat
def linkedS (n : Nat) (l : List Cl) : List Bool := l.foldl linkStep (List.replicate n false)

set_option maxRecDepth 100000 in
set_option maxHeartbeats 2000000 in
theorem refLinked_any (A : Option Addr) (n m c : Nat) (l : List Cl) (w : World) (hr : Rd w 4 A m (cellsC l)) (hm : m ≤ 200000000) (hn : n ≤ 100000000) (hin : ∀ x ∈ l, ∃ lo hi : Nat, x.1 = ((lo : Int), (hi : Int)) ∧ lo ≤ hi ∧ hi ≤ n) :
    Calls Tryz.prog 87 #[.int .i64 (n : Int), .slice A m c] w fun e w' => ∃ v, e = .returned v ∧ w'.ownsRow w.heap.size 4 1 v n ((linkedS n l).map Value.bool) ∧ Below w.heap.size w w' := by
  have hlen : l.length = m := by have := hr.1; rw [cellsC_len] at this; omega
  have HL := Lib.hid hlen
  clear hlen
  go_enter Tryz.func87, Tryz.ntmps87
  go_wp2_with (at_make; refine wpList_mkFull rfl _ _ _ rfl (base := w.heap.size) (z := .bool false) (bytes := 1) Tryz.underlying119 (by kernel_rfl) rfl _ _ n rfl rfl rfl rfl (by omega) (by unfold maxLen; omega) (Nat.le_refl _) ?_; intro w0 hown0 hg0)
  have hb0 : Below w.heap.size w w0 := (Below.refl _ _).grown hg0 (Nat.le_refl _) (fun k h => by cases h)
  go_loopw [6] (fun i wr => ∃ (k : Nat) (xs : List Bool), k ≤ m ∧ i = .int .i64 k ∧ linkedS n l = (l.drop k).foldl linkStep xs ∧ xs.length = n ∧ wr.ownsRow w.heap.size 4 1 (.slice (some ⟨w.heap.size, 0, none⟩) n n) n (xs.map Value.bool) ∧ Below w.heap.size w wr) (fun i _ => m - (intOf i).toNat)
  case atStart =>
    exact ⟨0, List.replicate n false, Nat.zero_le _, rfl, rfl, by simp, by rw [List.map_replicate]; exact hown0, hb0⟩
  case round =>
    obtain ⟨k, xs, hk, rfl, hh, hxl, hown, hb⟩ := hrel
    have HH := Lib.hid hh
    have HX := Lib.hid hxl
    clear hh hxl hown0 hg0 hb0
    by_cases hlt : k < m
    · obtain ⟨s, hsk⟩ : ∃ s, l[k]? = some s := ⟨_, List.getElem?_eq_getElem (by rw [HL.out]; exact hlt)⟩
      have HD := Lib.hid (dropCons hsk)
      obtain ⟨lo, hi, hs, hlh, hhn⟩ := hin s (List.mem_of_getElem? hsk)
      obtain ⟨ad, rfl, hab, c1, c2, c3, c4⟩ := hr.clus hsk
      clear hsk c3 c4
      obtain ⟨⟨s1, s2⟩, s3, s4⟩ := s
      injection hs with e1 e2
      subst e1 e2
      simp only at c1 c2
      have c1' := (hb.cell (by rw [blockAdd]; exact hab)).trans c1
      have c2' := (hb.cell (p := ⟨(ad.add (k * 4)).block, (ad.add (k * 4)).off + 1, none⟩) (by show (ad.add (k * 4)).block < _; rw [blockAdd]; exact hab)).trans c2
      go_wp2
      go_loopw [7] (fun i ws => ∃ j : Nat, lo ≤ j ∧ j ≤ hi ∧ i = .int .i64 j ∧ ws.ownsRow w.heap.size 4 1 (.slice (some ⟨w.heap.size, 0, none⟩) n n) n ((fillB xs lo j).map Value.bool) ∧ Below w.heap.size w ws) (fun i _ => hi - (intOf i).toNat)
      case atStart => exact ⟨lo, Nat.le_refl _, hlh, rfl, by rw [fillB_start]; exact hown, hb⟩
      case round =>
        obtain ⟨j, hlj, hjh, rfl, hownr, hbr⟩ := hrel
        clear c1' c2'
        have d2 := (hbr.cell (p := ⟨(ad.add (k * 4)).block, (ad.add (k * 4)).off + 1, none⟩) (by show (ad.add (k * 4)).block < _; rw [blockAdd]; exact hab)).trans c2
        by_cases hjt : j < hi
        · have HS := Lib.hid (fillB_step (xs := xs) hlj (by rw [HX.out]; omega))
          have hfx := hownr.frozenAt j
          obtain ⟨bj, hbj⟩ : ∃ bj, wr.cell? ⟨w.heap.size, j, none⟩ = some bj := ⟨_, by rw [hownr.cellAt j (by omega)]; exact List.getElem?_eq_getElem (by rw [List.length_map, fillB_len hlj (by rw [HX.out]; omega), HX.out]; omega)⟩
          have hst := hownr.stored j (.bool true)
          rw [← List.map_set] at hst
          have HST := Lib.hid hst
          have hbe := hbr.setCell (p := ⟨w.heap.size, j, none⟩) (Nat.le_refl _) (.bool true)
          clear hst
          go_wp2
          go_roundw
          case rel => exact ⟨j + 1, by omega, by omega, by go_num, by rw [← HS.out]; exact HST.out.1, hbe⟩
          case measure => simp [intOf]; omega
        · have HJ := Lib.hid (show j = hi by omega)
          have hle : (fillB xs lo hi).length = n := by rw [fillB_len hlh (by rw [HX.out]; exact hhn), HX.out]
          have HE := Lib.hid hle
          clear hle
          go_wp2
          go_roundw
          case rel => exact ⟨k + 1, fillB xs lo hi, by omega, by go_num, by rw [HH.out, HD.out]; rfl, HE.out, by rw [← HJ.out]; exact hownr, hbr⟩
          case measure => simp [intOf]; omega
    · have HZ := Lib.hid (show linkedS n l = xs by rw [HH.out, List.drop_eq_nil_of_le (by rw [HL.out]; omega)]; rfl)
      go_wp2
      go_ret
      exact ⟨_, rfl, by rw [HZ.out]; exact hown, hb⟩
end Go.Proofs.YtcbiaeeifclieaaGreatDoor
/- The reference's ahead: joins the places ahead of all that are in a link to the next one. -/
namespace Go.Proofs.YtcbiaeeifclieaaGreatDoor
open Go.RowKit

def aheadFrom : List Bool → Nat → List Cl
  | [], _ => []
  | true :: _, k => if 0 < k then [((0, (k : Int) + 1), (0, 0))] else []
  | false :: l, k => aheadFrom l (k + 1)
def aheadS (l : List Bool) : List Cl := aheadFrom l 0

def AheadGives (l : List Bool) (w : World) (e : Ending) (w' : World) : Prop := ∃ A' n' c', e = .returned (.slice A' n' c') ∧ n' ≤ 1 ∧ Rd w' 4 A' n' (cellsC (aheadS l)) ∧ Below w.heap.size w w'

set_option maxRecDepth 100000 in
set_option maxHeartbeats 1000000 in
theorem refAhead_any (A : Option Addr) (n c : Nat) (l : List Bool) (w : World) (hr : Rd w 1 A n (l.map Value.bool)) (hn : n ≤ 100000000) :
    Calls Tryz.prog 88 #[.slice A n c] w (AheadGives l w) := by
  have hlen : l.length = n := by have := hr.1; rw [List.length_map] at this; omega
  have HL := Lib.hid hlen
  clear hlen
  go_enter Tryz.func88, Tryz.ntmps88
  go_wp2
  go_loop [3] (fun i => ∃ k : Nat, k ≤ n ∧ i = .int .i64 k ∧ aheadS l = aheadFrom (l.drop k) k) (fun i => n - (intOf i).toNat)
  case atStart => exact ⟨0, Nat.zero_le _, rfl, rfl⟩
  case round =>
    obtain ⟨k, hk, rfl, hh⟩ := hrel
    have HH := Lib.hid hh
    clear hh
    by_cases hlt : k < n
    · obtain ⟨x, hxk⟩ : ∃ x, l[k]? = some x := ⟨_, List.getElem?_eq_getElem (by rw [HL.out]; exact hlt)⟩
      have HD := Lib.hid (dropCons hxk)
      obtain ⟨ad, rfl, hab, hck⟩ := hr.at_ hlt
      have ck := hck (.bool x) (by rw [List.getElem?_map, hxk]; rfl)
      clear hxk hck
      cases x with
      | false =>
        go_wp2
        go_round
        case rel => exact ⟨k + 1, by omega, by go_num, by rw [HH.out, HD.out]; rfl⟩
        case measure => simp [intOf]; omega
      | true =>
        by_cases h0 : 0 < k
        · have HZ := Lib.hid (show aheadS l = [((0, (k : Int) + 1), (0, 0))] by rw [HH.out, HD.out]; exact if_pos h0)
          go_wp2
          go_ret
          exact ⟨_, _, _, rfl, Nat.le_refl _, by rw [HZ.out]; exact ⟨rfl, fun _ => ⟨_, rfl, by simp, cells_new w [.int .i64 0, .int .i64 ((k : Int) + 1), .int .i64 0, .int .i64 0] _⟩⟩, below_new w _⟩
        · have HZ := Lib.hid (show aheadS l = [] by rw [HH.out, HD.out]; exact if_neg h0)
          go_wp2
          go_ret
          exact ⟨_, _, _, rfl, by omega, by rw [HZ.out]; exact Rd.nil_, Below.refl _ _⟩
    · have HZ := Lib.hid (show aheadS l = [] by rw [HH.out, List.drop_eq_nil_of_le (by rw [HL.out]; omega)]; rfl)
      go_wp2
      go_ret
      exact ⟨_, _, _, rfl, by omega, by rw [HZ.out]; exact Rd.nil_, Below.refl _ _⟩
end Go.Proofs.YtcbiaeeifclieaaGreatDoor
/- make of ints, as a run. -/
namespace Go.Proofs.YtcbiaeeifclieaaGreatDoor
open Go.RowKit
theorem mk_intsZ (n : Nat) (hn : n ≤ 100000000) (w : World) : (Instr.makeSlice 22 (.int .i64 (n : Int)) (.int .i64 (n : Int))).run Tryz.prog w = .ok (.slice (some ⟨w.heap.size, 0, none⟩) n n) (w.alloc (.cells (intsZ (List.replicate n 0)).toArray 3)) := by
  have hin : (Tryz.prog.info? 3).map (fun i => (i.zero, i.size, i.bytes)) = some (some (.int .i64 0), 1, 8) := by kernel_rfl
  obtain ⟨i, h1, h2, h3, h4⟩ := info_parts hin
  have h := run_make (P := Tryz.prog) w 22 3 i (.int .i64 0) Tryz.underlying22 h1 h2 .i64 .i64 n n (by omega) (Int.le_refl _) (by rw [h4]; omega) (by omega)
  rw [h3] at h
  simp only [Int.toNat_natCast, Nat.mul_one] at h
  rw [h]
  refine congrArg (fun c => Result.ok _ (w.alloc (.cells c _))) ?_
  apply Array.toList_inj.1
  rw [show (Value.int .i64 0).cells = #[.int .i64 0] from rfl, toList_madeCells_one]
  simp [intsZ]
end Go.Proofs.YtcbiaeeifclieaaGreatDoor
