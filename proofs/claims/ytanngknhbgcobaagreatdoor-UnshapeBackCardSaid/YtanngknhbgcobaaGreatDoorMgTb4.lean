/- Texts of one claim, one behind the other. -/
import Derived.ChangeKeysEq
import Derived.Laws.StructEq
import Derived.Laws.ResultCell
import Derived.Orders
import Derived.Test.YtanngknhbgcobaaGreatDoorMgTb1
import Derived.Test.YtanngknhbgcobaaGreatDoorMgTb2
import Derived.Test.YtanngknhbgcobaaGreatDoorMgTb3
/- Blocks of a table as data: what cutting gives, what is kept while the table is laid. -/
namespace Go.Proofs.YtanngknhbgcobaaGreatDoor
open Go.RowKit

theorem getG_below {l : List Rg} {y c : Int} (h : ∀ s ∈ l, c < s.1) : getG l y c = y := by
  induction l with
  | nil => rfl
  | cons s l ih =>
    have := h s (by simp)
    rw [getG, if_neg (by omega)]
    exact ih fun t ht => h t (by simp [ht])
theorem getG_behind {l : List Rg} {y c : Int} {s : Rg} (h : s.2.1 < c) : getG (s :: l) y c = getG l y c := by rw [getG, if_neg (by omega)]
/-- Ranges that rise. -/
def Srt (l : List Rg) : Prop := l.Pairwise (fun s t => s.2.1 < t.1) ∧ ∀ s ∈ l, s.1 ≤ s.2.1
theorem Srt.tail {s : Rg} {l : List Rg} (h : Srt (s :: l)) : Srt l := ⟨(List.pairwise_cons.1 h.1).2, fun t ht => h.2 t (by simp [ht])⟩
theorem srt_of_rise : ∀ {l : List Rg} {x : Int}, riseB x l = true → Srt l ∧ ∀ s ∈ l, x < s.1 ∧ s.2.1 ≤ 1114111
  | [], _, _ => ⟨⟨List.Pairwise.nil, by simp⟩, by simp⟩
  | s :: l, x, h => by
    by_cases hc : s.1 ≤ x ∨ s.2.1 < s.1 ∨ 1114111 < s.2.1
    · rw [riseB_no hc] at h; cases h
    · rw [riseB_yes hc] at h
      obtain ⟨⟨h1, h2⟩, h3⟩ := srt_of_rise h
      refine ⟨⟨List.pairwise_cons.2 ⟨fun t ht => (h3 t ht).1, h1⟩, ?_⟩, ?_⟩
      · intro t ht
        rcases List.mem_cons.1 ht with rfl | ht
        · omega
        · exact h2 t ht
      · intro t ht
        rcases List.mem_cons.1 ht with rfl | ht
        · omega
        · have := h3 t ht; omega
theorem cutB_one (lo : Int) : ∀ (l : List Rg) (b : List Int), Srt l → b.length = 128 → (cutB lo l b).1 = b.mapIdx (fun j y => getG l y (lo + j))
  | [], b, _, _ => by
    apply List.ext_getElem?
    intro j
    simp [cutB, getG, List.getElem?_mapIdx]
  | s :: l, b, h, hb => by
    have hlt : ∀ t ∈ l, s.2.1 < t.1 := (List.pairwise_cons.1 h.1).1
    have hs := h.2 s (by simp)
    by_cases h1 : s.1 ≤ lo + 127
    · by_cases h2 : lo + 127 < s.2.1
      · rw [cutB_over h1 h2]
        apply List.ext_getElem?
        intro j
        simp only [fillTB, List.getElem?_mapIdx]
        cases hj : b[j]? with
        | none => rfl
        | some y =>
          have hjl := (List.getElem?_eq_some_iff.1 hj).1
          simp only [Option.map_some, getG]
          by_cases hc : s.1 ≤ lo + j ∧ lo + j ≤ s.2.1
          · rw [if_pos hc, if_pos hc]
          · rw [if_neg hc, if_neg hc, getG_below (fun t ht => by have := hlt t ht; omega)]
      · rw [cutB_on h1 (by omega), cutB_one lo l _ h.tail (by rw [fillTB_len, hb])]
        apply List.ext_getElem?
        intro j
        simp only [fillTB, List.getElem?_mapIdx]
        cases hj : b[j]? with
        | none => rfl
        | some y =>
          simp only [Option.map_some, getG]
          by_cases hc : s.1 ≤ lo + j ∧ lo + j ≤ s.2.1
          · rw [if_pos hc, if_pos hc, getG_below (fun t ht => by have := hlt t ht; omega)]
          · rw [if_neg hc, if_neg hc]
    · rw [cutB_far (by omega)]
      apply List.ext_getElem?
      intro j
      simp only [List.getElem?_mapIdx]
      cases hj : b[j]? with
      | none => rfl
      | some y =>
        have hjl := (List.getElem?_eq_some_iff.1 hj).1
        simp only [Option.map_some]
        rw [getG_below (fun t ht => by
          rcases List.mem_cons.1 ht with rfl | ht
          · omega
          · have := hlt t ht; omega)]
theorem cutB_two (lo : Int) : ∀ (l : List Rg) (b : List Int), Srt l → Srt (cutB lo l b).2 ∧ (∀ s ∈ (cutB lo l b).2, lo + 127 < s.2.1) ∧ ∀ y c, lo + 128 ≤ c → getG l y c = getG (cutB lo l b).2 y c
  | [], b, _ => ⟨⟨List.Pairwise.nil, by simp [cutB]⟩, by simp [cutB], fun _ _ _ => rfl⟩
  | s :: l, b, h => by
    have hlt : ∀ t ∈ l, s.2.1 < t.1 := (List.pairwise_cons.1 h.1).1
    have hs := h.2 s (by simp)
    by_cases h1 : s.1 ≤ lo + 127
    · by_cases h2 : lo + 127 < s.2.1
      · rw [cutB_over h1 h2]
        refine ⟨h, fun t ht => ?_, fun _ _ _ => rfl⟩
        rcases List.mem_cons.1 ht with rfl | ht
        · exact h2
        · have := hlt t ht; have := h.2 t (by simp [ht]); omega
      · rw [cutB_on h1 (by omega)]
        obtain ⟨a1, a2, a3⟩ := cutB_two lo l (fillTB lo s b) h.tail
        exact ⟨a1, a2, fun y c hc => by rw [getG_behind (by omega)]; exact a3 y c hc⟩
    · rw [cutB_far (by omega)]
      refine ⟨h, fun t ht => ?_, fun _ _ _ => rfl⟩
      rcases List.mem_cons.1 ht with rfl | ht
      · omega
      · have := hlt t ht; have := h.2 t (by simp [ht]); omega

/-- The values of the codes of block j. -/
def blkAt (l : List Rg) (z : Int) (j : Nat) : List Int := (List.range 128).map fun (t : Nat) => getG l z (128 * (j : Int) + (t : Int))
theorem blkAt_len (l : List Rg) (z : Int) (j : Nat) : (blkAt l z j).length = 128 := by simp [blkAt]
theorem blkAt_at (l : List Rg) (z : Int) (j t : Nat) (ht : t < 128) : (blkAt l z j)[t]? = some (getG l z (128 * (j : Int) + (t : Int))) := by simp [blkAt, ht]
/-- What is left of the ranges when k blocks are cut. -/
def LeftOf (l0 : List Rg) (z : Int) (k : Nat) (l : List Rg) : Prop := Srt l ∧ ∀ c : Int, 128 * (k : Int) ≤ c → getG l0 z c = getG l z c
theorem left_cut {l0 l : List Rg} {z : Int} {k : Nat} (h : LeftOf l0 z k l) : (cutB (128 * (k : Int)) l (List.replicate 128 z)).1 = blkAt l0 z k ∧ LeftOf l0 z (k + 1) (cutB (128 * (k : Int)) l (List.replicate 128 z)).2 := by
  obtain ⟨h1, h2⟩ := h
  refine ⟨?_, ?_⟩
  · rw [cutB_one _ _ _ h1 (by simp)]
    apply List.ext_getElem?
    intro j
    simp only [List.getElem?_mapIdx, List.getElem?_replicate]
    by_cases hj : j < 128
    · rw [if_pos hj, blkAt_at _ _ _ _ hj]
      simp only [Option.map_some]
      rw [h2 _ (by omega)]
    · rw [if_neg hj, List.getElem?_eq_none (by rw [blkAt_len]; omega)]
      rfl
  · obtain ⟨a1, _, a3⟩ := cutB_two (128 * (k : Int)) l (List.replicate 128 z) h1
    exact ⟨a1, fun c hc => by rw [h2 c (by omega)]; exact a3 z c (by omega)⟩

/-- What is kept while the table is laid: k blocks are told, by their places 'wh' among the unlike ones 'bl'. -/
structure StInv (l0 : List Rg) (z : Int) (k : Nat) (bl : List (List Int)) (wh : List Nat) : Prop where
  len : wh.length = k
  at_ : ∀ j, j < k → ∃ q, wh[j]? = some q ∧ bl[q]? = some (blkAt l0 z j)
  nodup : bl.Nodup
  real : ∀ b ∈ bl, ∃ j, j < k ∧ b = blkAt l0 z j
  few : bl.length ≤ k
theorem StInv.start (l0 : List Rg) (z : Int) : StInv l0 z 0 [] [] := ⟨rfl, fun j h => absurd h (by omega), List.nodup_nil, by simp, Nat.le_refl _⟩
theorem StInv.old {l0 : List Rg} {z : Int} {k q : Nat} {bl : List (List Int)} {wh : List Nat} (h : StInv l0 z k bl wh) (hq : bl[q]? = some (blkAt l0 z k)) : StInv l0 z (k + 1) bl (wh ++ [q]) := by
  refine ⟨by simp [h.len], fun j hj => ?_, h.nodup, fun b hb => ?_, by have := h.few; omega⟩
  · by_cases hjk : j < k
    · obtain ⟨q', h1, h2⟩ := h.at_ j hjk
      exact ⟨q', by rw [List.getElem?_append_left (by rw [h.len]; exact hjk)]; exact h1, h2⟩
    · obtain rfl : j = k := by omega
      exact ⟨q, by rw [List.getElem?_append_right (by rw [h.len]; exact Nat.le_refl _), h.len, Nat.sub_self]; rfl, hq⟩
  · obtain ⟨j, h1, h2⟩ := h.real b hb
    exact ⟨j, by omega, h2⟩
theorem StInv.new_ {l0 : List Rg} {z : Int} {k : Nat} {bl : List (List Int)} {wh : List Nat} (h : StInv l0 z k bl wh) (hn : blkAt l0 z k ∉ bl) : StInv l0 z (k + 1) (bl ++ [blkAt l0 z k]) (wh ++ [bl.length]) := by
  refine ⟨by simp [h.len], fun j hj => ?_, ?_, fun b hb => ?_, by have := h.few; simp; omega⟩
  · by_cases hjk : j < k
    · obtain ⟨q', h1, h2⟩ := h.at_ j hjk
      exact ⟨q', by rw [List.getElem?_append_left (by rw [h.len]; exact hjk)]; exact h1, by rw [List.getElem?_append_left ((List.getElem?_eq_some_iff.1 h2).1)]; exact h2⟩
    · obtain rfl : j = k := by omega
      exact ⟨bl.length, by rw [List.getElem?_append_right (by rw [h.len]; exact Nat.le_refl _), h.len, Nat.sub_self]; rfl, by simp⟩
  · rw [List.nodup_append]
    exact ⟨h.nodup, by simp, fun a ha b hb => by simp at hb; subst hb; exact fun e => hn (e ▸ ha)⟩
  · rcases List.mem_append.1 hb with hb | hb
    · obtain ⟨j, h1, h2⟩ := h.real b hb
      exact ⟨j, by omega, h2⟩
    · simp at hb
      exact ⟨k, by omega, hb⟩
end Go.Proofs.YtanngknhbgcobaaGreatDoor
/- The given ranges of classes and of joining, as lists. -/
namespace Go.Proofs.YtanngknhbgcobaaGreatDoor

def bidiL : List Rg := [(0, 8, 9), (9, 9, 11), (10, 10, 10), (11, 11, 11), (12, 12, 12), (13, 13, 10), (14, 27, 9), (28, 30, 10), (31, 31, 11), (32, 32, 12), (33, 34, 13), (35, 37, 5), (38, 42, 13), (43, 43, 4), (44, 44, 7), (45, 45, 4), (46, 47, 7), (48, 57, 3), (58, 58, 7), (59, 64, 13), (91, 96, 13), (123, 126, 13), (127, 132, 9), (133, 133, 10), (134, 159, 9), (160, 160, 7), (161, 161, 13), (162, 165, 5), (166, 169, 13), (171, 172, 13), (173, 173, 9), (174, 175, 13), (176, 177, 5), (178, 179, 3), (180, 180, 13), (182, 184, 13), (185, 185, 3), (187, 191, 13), (215, 215, 13), (247, 247, 13), (697, 698, 13), (706, 719, 13), (722, 735, 13), (768, 879, 8), (1424, 1424, 1), (1425, 1469, 8), (1470, 1470, 1), (1471, 1471, 8), (1472, 1472, 1), (1473, 1474, 8), (1475, 1475, 1), (1476, 1477, 8), (1478, 1478, 1), (1479, 1479, 8), (1480, 1535, 1), (1536, 1541, 6), (1542, 1543, 13), (1544, 1544, 2), (1545, 1546, 5), (1547, 1547, 2), (1548, 1548, 7), (1549, 1549, 2), (1550, 1551, 13), (1552, 1562, 8), (1563, 1610, 2), (1611, 1631, 8), (1632, 1641, 6), (1642, 1642, 5), (1643, 1644, 6), (1645, 1647, 2), (1648, 1648, 8), (1649, 1749, 2), (1750, 1756, 8), (1757, 1757, 6), (1758, 1758, 13), (1759, 1764, 8), (1765, 1766, 2), (1767, 1768, 8), (1769, 1769, 13), (1770, 1773, 8), (1774, 1775, 2), (1776, 1785, 3), (1786, 1808, 2), (1809, 1809, 8), (1810, 1839, 2), (1840, 1866, 8), (1867, 1957, 2), (1958, 1968, 8), (1969, 1983, 2), (1984, 2026, 1), (2027, 2035, 8), (2036, 2037, 1), (2038, 2041, 13), (2042, 2044, 1), (2045, 2045, 8), (2046, 2069, 1), (2070, 2073, 8), (2074, 2074, 1), (2075, 2083, 8), (2084, 2084, 1), (2085, 2087, 8), (2088, 2088, 1), (2089, 2093, 8), (2094, 2136, 1), (2137, 2139, 8), (2140, 2143, 1), (2144, 2191, 2), (2192, 2193, 6), (2194, 2199, 2), (2200, 2207, 8), (2208, 2249, 2), (2250, 2273, 8), (2274, 2274, 6), (2275, 2306, 8), (8192, 8202, 12), (8203, 8205, 9), (8207, 8207, 1), (8208, 8231, 13), (8232, 8232, 12), (8233, 8233, 10), (8234, 8234, 14), (8235, 8235, 16), (8236, 8236, 18), (8237, 8237, 15), (8238, 8238, 17), (8239, 8239, 7), (8240, 8244, 5), (8245, 8259, 13), (8260, 8260, 7), (8261, 8286, 13), (8287, 8287, 12), (8288, 8293, 9), (8294, 8294, 19), (8295, 8295, 20), (8296, 8296, 21), (8297, 8297, 22), (8298, 8303, 9), (8304, 8304, 3), (8308, 8313, 3), (8314, 8315, 4), (8316, 8318, 13), (8320, 8329, 3), (8330, 8331, 4), (8332, 8334, 13), (8352, 8399, 5), (8400, 8432, 8), (8592, 8721, 13), (8722, 8722, 4), (8723, 8723, 5), (8724, 9013, 13), (9083, 9108, 13), (9110, 9254, 13), (9280, 9290, 13), (9312, 9351, 13), (9352, 9371, 3), (9450, 9899, 13), (9901, 10239, 13), (10496, 11123, 13), (11776, 11869, 13), (12288, 12288, 12), (12289, 12292, 13), (12296, 12320, 13), (12330, 12333, 8), (12336, 12336, 13), (64285, 64285, 1), (64286, 64286, 8), (64287, 64296, 1), (64297, 64297, 4), (64298, 64335, 1), (64336, 64829, 2), (64830, 64847, 13), (64848, 64974, 2), (64975, 64975, 13), (64976, 65007, 9), (65008, 65020, 2), (65021, 65023, 13), (65024, 65039, 8), (65040, 65049, 13), (65056, 65071, 8), (65072, 65103, 13), (65104, 65104, 7), (65105, 65105, 13), (65106, 65106, 7), (65108, 65108, 13), (65109, 65109, 7), (65110, 65118, 13), (65119, 65119, 5), (65120, 65121, 13), (65122, 65123, 4), (65124, 65126, 13), (65128, 65128, 13), (65129, 65130, 5), (65131, 65131, 13), (65136, 65278, 2), (65279, 65279, 9), (65281, 65282, 13), (65283, 65285, 5), (65286, 65290, 13), (65291, 65291, 4), (65292, 65292, 7), (65293, 65293, 4), (65294, 65295, 7), (65296, 65305, 3), (65306, 65306, 7), (65307, 65312, 13), (65339, 65344, 13), (65371, 65381, 13), (65504, 65505, 5), (65506, 65508, 13), (65509, 65510, 5), (65520, 65528, 9), (65529, 65533, 13), (65534, 65535, 9), (67584, 68863, 1), (68864, 68927, 2), (68928, 69631, 1), (120782, 120831, 3), (124928, 126063, 1), (126064, 126143, 2), (126144, 126207, 1), (126208, 126287, 2), (126288, 126463, 1), (126464, 126719, 2), (126720, 126975, 1), (126976, 127231, 13), (127232, 127242, 3), (127744, 128727, 13), (917504, 917759, 9), (917760, 917999, 8), (918000, 921599, 9)]
def joinL : List Rg := [(768, 879, 1), (1155, 1161, 1), (1425, 1469, 1), (1471, 1471, 1), (1473, 1474, 1), (1476, 1477, 1), (1479, 1479, 1), (1552, 1562, 1), (1564, 1564, 1), (1568, 1568, 3), (1570, 1573, 2), (1574, 1574, 3), (1575, 1575, 2), (1576, 1576, 3), (1577, 1577, 2), (1578, 1582, 3), (1583, 1586, 2), (1587, 1599, 3), (1600, 1600, 5), (1601, 1607, 3), (1608, 1608, 2), (1609, 1610, 3), (1611, 1631, 1), (1646, 1647, 3), (1648, 1648, 1), (1649, 1651, 2), (1653, 1655, 2), (1656, 1671, 3), (1672, 1689, 2), (1690, 1727, 3), (1728, 1728, 2), (1729, 1730, 3), (1731, 1739, 2), (1740, 1740, 3), (1741, 1741, 2), (1742, 1742, 3), (1743, 1743, 2), (1744, 1745, 3), (1746, 1747, 2), (1749, 1749, 2), (1750, 1756, 1), (1759, 1764, 1), (1767, 1768, 1), (1770, 1773, 1), (1774, 1775, 2), (1786, 1788, 3), (1791, 1791, 3), (1840, 1866, 1), (1958, 1968, 1), (1994, 2026, 3), (2027, 2035, 1), (2042, 2042, 5), (2200, 2207, 1), (2250, 2273, 1), (2275, 2306, 1), (8203, 8203, 1), (8205, 8205, 5), (8206, 8207, 1), (8234, 8238, 1), (8288, 8292, 1), (8298, 8303, 1), (8400, 8432, 1), (43072, 43121, 3), (43122, 43122, 4), (65024, 65039, 1), (65056, 65071, 1), (65279, 65279, 1), (917760, 917999, 1)]
end Go.Proofs.YtanngknhbgcobaaGreatDoor
/- What codes are, as functions of the given ranges. -/
namespace Go.Proofs.YtanngknhbgcobaaGreatDoor
open Go.RowKit
def classF (c : Int) : Int := if 0 ≤ c ∧ c ≤ 1114111 then getG bidiL 0 c else 13
def joinF (c : Int) : Int := getG joinL 0 c
end Go.Proofs.YtanngknhbgcobaaGreatDoor
/- Options as data: whether they go together, as a number, and back. -/
namespace Go.Proofs.YtanngknhbgcobaaGreatDoor
open Go.RowKit

/-- Options: four kinds, ten flags. -/
structure Opt where
  d : Int
  l : Int
  t : Int
  g : Int
  b0 : Bool
  b1 : Bool
  b2 : Bool
  b3 : Bool
  b4 : Bool
  b5 : Bool
  b6 : Bool
  b7 : Bool
  b8 : Bool
  b9 : Bool
deriving DecidableEq
namespace Opt
def cells (o : Opt) : Array Value := #[.int .i64 o.d, .int .i64 o.l, .int .i64 o.t, .int .i64 o.g, .bool o.b0, .bool o.b1, .bool o.b2, .bool o.b3, .bool o.b4, .bool o.b5, .bool o.b6, .bool o.b7, .bool o.b8, .bool o.b9]
def val (o : Opt) : Value := .agg o.cells
def zero : Opt := ⟨0, 0, 0, 0, false, false, false, false, false, false, false, false, false, false⟩
/-- Whether the kinds are such as there may be. -/
def may (o : Opt) : Bool := decide (0 ≤ o.d ∧ o.d ≤ 3 ∧ 0 ≤ o.l ∧ o.l ≤ 4 ∧ 0 ≤ o.t ∧ o.t ≤ 4 ∧ 0 ≤ o.g ∧ o.g ≤ 4)
/-- Whether they do not go together. -/
def odd (o : Opt) : Bool := (!o.b1 && (decide (o.l ≠ 0) || decide (o.t ≠ 0) || o.b3 || o.b4 || o.b5)) || (o.b2 && decide (o.l = 0)) || (o.b3 && (decide (o.t = 3) || decide (o.t = 4))) || (o.b7 && !o.b6)
def err (o : Opt) : Int := if o.may = true then (if o.odd = true then 3 else 0) else 1
def n1 (b : Bool) : Nat := if b = true then 1 else 0
def flags (o : Opt) : List Bool := [o.b0, o.b1, o.b2, o.b3, o.b4, o.b5, o.b6, o.b7, o.b8, o.b9]
/-- The flags as a number, the first one counts least. -/
def low : List Bool → Nat
  | [] => 0
  | b :: l => n1 b + 2 * low l
def fl (o : Opt) : Nat := low o.flags
def num (o : Opt) : Int := o.d + 4 * o.l + 20 * o.t + 100 * o.g + 500 * (o.fl : Nat)
/-- The options of a number. -/
def of (n : Nat) : Opt := ⟨(n % 4 : Nat), (n / 4 % 5 : Nat), (n / 20 % 5 : Nat), (n / 100 % 5 : Nat), (n / 500).testBit 0, (n / 500).testBit 1, (n / 500).testBit 2, (n / 500).testBit 3, (n / 500).testBit 4, (n / 500).testBit 5, (n / 500).testBit 6, (n / 500).testBit 7, (n / 500).testBit 8, (n / 500).testBit 9⟩
def bits (o : Opt) : Int × Int := if o.err = 0 then (o.num, 0) else (0, o.err)
def back (n : Int) : Opt × Int := if n < 0 ∨ 511999 < n then (zero, 1) else if (of n.toNat).err = 0 then (of n.toNat, 0) else (zero, (of n.toNat).err)
theorem n1_le (b : Bool) : n1 b ≤ 1 := by cases b <;> decide
theorem n1_bit (b : Bool) : decide (n1 b = 1) = b := by cases b <;> rfl
theorem low_snoc (l : List Bool) (b : Bool) : low (l ++ [b]) = low l + n1 b * 2 ^ l.length := by
  induction l with
  | nil => simp [low]
  | cons a l ih =>
    rw [List.cons_append, low, low, ih, List.length_cons, Nat.pow_succ]
    rw [Nat.mul_add]
    have : 2 * (n1 b * 2 ^ l.length) = n1 b * (2 ^ l.length * 2) := by rw [Nat.mul_comm, Nat.mul_assoc]
    omega
theorem low_lt (l : List Bool) : low l < 2 ^ l.length := by
  induction l with
  | nil => decide
  | cons a l ih =>
    rw [low, List.length_cons, Nat.pow_succ]
    have := n1_le a
    omega
theorem low_bit : ∀ (l : List Bool) (i : Nat), (low l).testBit i = l.getD i false
  | [], i => by simp [low]
  | a :: l, 0 => by
    rw [low, Nat.testBit_zero]
    cases a <;> simp [n1] <;> omega
  | a :: l, i + 1 => by
    rw [low, Nat.testBit_succ, show (n1 a + 2 * low l) / 2 = low l by have := n1_le a; omega, low_bit l i]
    rfl
theorem fl_lt (o : Opt) : o.fl < 1024 := by
  have h := low_lt o.flags
  rw [show o.flags.length = 10 from rfl, show (2 : Nat) ^ 10 = 1024 by decide] at h
  exact h
theorem fl_of (m : Nat) (h : m < 1024) : low [m.testBit 0, m.testBit 1, m.testBit 2, m.testBit 3, m.testBit 4, m.testBit 5, m.testBit 6, m.testBit 7, m.testBit 8, m.testBit 9] = m := by
  apply Nat.eq_of_testBit_eq
  intro i
  rw [low_bit]
  by_cases hi : i < 10
  · have : i = 0 ∨ i = 1 ∨ i = 2 ∨ i = 3 ∨ i = 4 ∨ i = 5 ∨ i = 6 ∨ i = 7 ∨ i = 8 ∨ i = 9 := by omega
    rcases this with rfl | rfl | rfl | rfl | rfl | rfl | rfl | rfl | rfl | rfl <;> rfl
  · rw [Nat.testBit_lt_two_pow (Nat.lt_of_lt_of_le h (Nat.pow_le_pow_right (n := 2) (by decide) (show 10 ≤ i by omega)))]
    simp [List.getD, show ¬ i < 10 from hi]
theorem err_zero {o : Opt} (h : o.err = 0) : o.may = true := by
  unfold err at h
  split at h
  · assumption
  · cases h
theorem num_of {n : Nat} (h : n < 512000) : (of n).num = n := by
  have hf : (of n).fl = n / 500 := fl_of (n / 500) (by omega)
  unfold num
  rw [hf]
  simp only [of]
  omega
theorem of_num {o : Opt} (h : o.may = true) : 0 ≤ o.num ∧ o.num ≤ 511999 ∧ of o.num.toNat = o := by
  unfold may at h
  simp only [decide_eq_true_eq] at h
  have hf := fl_lt o
  have e : o.num = o.d + 4 * o.l + 20 * o.t + 100 * o.g + 500 * (o.fl : Nat) := rfl
  have h0 : 0 ≤ o.num := by omega
  obtain ⟨m, hm⟩ : ∃ m : Nat, o.num = m := ⟨o.num.toNat, by omega⟩
  have hd : m / 500 = o.fl := by omega
  refine ⟨h0, by omega, ?_⟩
  rw [hm, Int.toNat_natCast]
  have hb : ∀ i, (m / 500).testBit i = o.flags.getD i false := fun i => by rw [hd]; exact low_bit _ _
  unfold of
  rw [hb 0, hb 1, hb 2, hb 3, hb 4, hb 5, hb 6, hb 7, hb 8, hb 9]
  have e0 : ((m % 4 : Nat) : Int) = o.d := by omega
  have e1 : ((m / 4 % 5 : Nat) : Int) = o.l := by omega
  have e2 : ((m / 20 % 5 : Nat) : Int) = o.t := by omega
  have e3 : ((m / 100 % 5 : Nat) : Int) = o.g := by omega
  rw [e0, e1, e2, e3]
  rfl
end Opt
end Go.Proofs.YtanngknhbgcobaaGreatDoor
/- '==' of arrays whose elements are one cell each. -/
namespace Go.Proofs.YtanngknhbgcobaaGreatDoor
open Go.RowKit

section
variable {P : Program} {α : Type} [BEq α] (mk : α → Value)
theorem eqItems_one (d : Nat) {e : TypeId} (he : P.plainKey e = true) (hc : P.cellsOf e = 1) (heq : ∀ a b w, (Op.equalIn d e (mk a) (mk b)).run P w = .ok (a == b) w) (xs ys : Array Value) (f g : Nat → α) (w : World) :
    ∀ is : List Nat, (∀ i ∈ is, xs[i]? = some (mk (f i)) ∧ ys[i]? = some (mk (g i))) → (Op.eqItems d e (P.cellsOf e) xs ys is).run P w = .ok (is.all fun i => f i == g i) w
  | [], _ => rfl
  | i :: is, h => by
    obtain ⟨h1, h2⟩ := h i (by simp)
    have ih := eqItems_one d he hc heq xs ys f g w is fun j hj => h j (by simp [hj])
    rw [hc] at ih ⊢
    have p1 := run_part_plain (P := P) w he (xs := xs) (off := i * 1) (by rw [Nat.mul_one]; exact h1)
    have p2 := run_part_plain (P := P) w he (xs := ys) (off := i * 1) (by rw [Nat.mul_one]; exact h2)
    simp only [Op.eqItems, Sem.run_bind, p1, p2, Result.andThen_ok, heq, List.all_cons]
    cases f i == g i
    · simp
    · simp [ih]
theorem equal_one (d n : Nat) {t e : TypeId} {i : TypeInfo} (hu : P.underlying t = some (.array n e)) (hi : P.info? e = some i) (he : P.plainKey e = true) (hc : P.cellsOf e = 1) (heq : ∀ a b w, (Op.equalIn d e (mk a) (mk b)).run P w = .ok (a == b) w)
    (xs ys : Array Value) (f g : Nat → α) (h : ∀ i, i < n → xs[i]? = some (mk (f i)) ∧ ys[i]? = some (mk (g i))) (w : World) :
    (Op.equalIn (d + 1) t (.agg xs) (.agg ys)).run P w = .ok ((List.range n).all fun i => f i == g i) w := by
  rw [run_equalIn_array w d xs ys hu hi]
  exact eqItems_one mk d he hc heq xs ys f g w _ fun j hj => h j (by simpa using hj)
end
end Go.Proofs.YtanngknhbgcobaaGreatDoor
/- Options: slices.Contains at []bool, either, kindsOf, nearest. -/
namespace Go.Proofs.YtanngknhbgcobaaGreatDoor
open Go.RowKit

theorem rdBools (w : World) (l : List Bool) (t : TypeId) : Rd (w.alloc (.cells (l.map Value.bool).toArray t)) 1 (some ⟨w.heap.size, 0, none⟩) l.length (l.map Value.bool) := by
  have := Rd.new_ w (l.map Value.bool) t
  rwa [List.length_map] at this
set_option maxRecDepth 100000 in
theorem indexB_any (A : Option Addr) (n c : Nat) (xs : List Bool) (y : Bool) (hy : xs.any id = y) (w : World) (hr : Rd w 1 A n (xs.map Value.bool)) (hn : n ≤ 1000) :
    Calls Tryz.prog 122 #[.slice A n c, .bool true] w fun e w' => (∃ r : Int, e = .returned (.int .i64 r) ∧ decide (0 ≤ r) = y) ∧ w = w' := by
  have HY := Lib.hid hy
  clear hy
  have hlen : xs.length = n := by simpa using hr.len1
  have HL := Lib.hid hlen
  clear hlen
  go_enter Tryz.func122, Tryz.ntmps122
  go_wp2
  go_loop [8] (fun i => ∃ k : Nat, k ≤ n ∧ i = .int .i64 k ∧ (xs.take k).any id = false) (fun i => n - (intOf i).toNat)
  case atStart => exact ⟨0, Nat.zero_le _, rfl, rfl⟩
  case round =>
    obtain ⟨k, hk, rfl, hno⟩ := hrel
    have HN := Lib.hid hno
    clear hno
    by_cases hlt : k < n
    · obtain ⟨s, hsk⟩ : ∃ s, xs[k]? = some s := ⟨_, List.getElem?_eq_getElem (by rw [HL.out]; exact hlt)⟩
      obtain ⟨ad, rfl, _, hc⟩ := hr.at_ hlt
      have cs : w.cell? (ad.add k) = some (.bool s) := hc _ (by rw [List.getElem?_map, hsk]; rfl)
      have HS := Lib.hid hsk
      clear hsk hc
      cases s with
      | true =>
        have HM := Lib.hid (show y = true from HY.out.symm.trans (List.any_eq_true.2 ⟨true, List.mem_of_getElem? HS.out, rfl⟩))
        go_wp2
        go_ret
        exact ⟨⟨_, rfl, by rw [HM.out]; exact decide_eq_true (by omega)⟩, rfl⟩
      | false =>
        have HX := Lib.hid (show (xs.take (k + 1)).any id = false by
          rw [List.take_add_one, HS.out, List.any_append, HN.out]
          rfl)
        go_wp2
        go_round
        case rel => exact ⟨k + 1, by omega, by go_num, HX.out⟩
        case measure => simp [intOf]; omega
    · have HF := Lib.hid (show y = false by have := HN.out; rw [List.take_of_length_le (by rw [HL.out]; omega)] at this; exact HY.out.symm.trans this)
      go_wp2
      go_ret
      exact ⟨⟨-1, rfl, by rw [HF.out]; rfl⟩, rfl⟩
theorem containsB_any (A : Option Addr) (n c : Nat) (xs : List Bool) (y : Bool) (hy : xs.any id = y) (w : World) (hr : Rd w 1 A n (xs.map Value.bool)) (hn : n ≤ 1000) :
    Calls Tryz.prog 93 #[.slice A n c, .bool true] w fun e w' => e = .returned (.bool y) ∧ w = w' := by
  have HC := Lib.hid (indexB_any A n c xs y hy w hr hn)
  clear hr hy
  go_enter Tryz.func93, Tryz.ntmps93
  go_wp2_with fail
  refine HC.out.mono ?_
  rintro e w1 ⟨⟨r, rfl, hi⟩, rfl⟩
  have HI := Lib.hid hi
  clear hi HC
  go_wp2
  go_ret
  exact ⟨by rw [← HI.out]; rfl, rfl⟩
theorem either_any (A : Option Addr) (n c : Nat) (xs : List Bool) (y : Bool) (hy : xs.any id = y) (w : World) (hr : Rd w 1 A n (xs.map Value.bool)) (hn : n ≤ 1000) :
    Calls Tryz.prog 57 #[.slice A n c] w fun e w' => e = .returned (.bool y) ∧ w = w' := by
  have HC := Lib.hid (containsB_any A n c xs y hy w hr hn)
  clear hr hy
  go_enter Tryz.func57, Tryz.ntmps57
  go_wp2_with fail
  refine HC.out.mono ?_
  rintro e w1 ⟨rfl, rfl⟩
  go_wp2
  go_ret
  exact ⟨rfl, rfl⟩

/-- Four cells of whole numbers, in a block that may be written. -/
def FourAt (W : World) (b : Nat) (x0 x1 x2 x3 : Int) : Prop := (W.cell? ⟨b, 0, none⟩ = some (.int .i64 x0) ∧ W.cell? ⟨b, 1, none⟩ = some (.int .i64 x1) ∧ W.cell? ⟨b, 2, none⟩ = some (.int .i64 x2) ∧ W.cell? ⟨b, 3, none⟩ = some (.int .i64 x3)) ∧ ∀ i, W.frozen? ⟨b, i, none⟩ = false
theorem FourAt.below {W W' : World} {b : Nat} {x0 x1 x2 x3 : Int} (h : FourAt W b x0 x1 x2 x3) (hb : Below W.heap.size W W') : FourAt W' b x0 x1 x2 x3 := by
  have hl : b < W.heap.size := cell_lt h.1.1
  obtain ⟨⟨d0, d1, d2, d3⟩, hf⟩ := h
  exact ⟨⟨cell_below hb d0, cell_below hb d1, cell_below hb d2, cell_below hb d3⟩, fun i => (hb.frozen hl).trans (hf i)⟩
theorem frozen_setO (W : World) (a c : Addr) (v : Value) : (W.setCell a v).frozen? c = W.frozen? c := by simp [go_sem]
theorem below_setKO {w wr : World} {b : Nat} (h : Below w.heap.size w wr) (hb : w.heap.size ≤ b) (j : Nat) (u : Value) : Below w.heap.size w (wr.setCell ⟨b, j, none⟩ u) :=
  ⟨h.os, h.tape, h.output, by simpa [World.setCell] using h.size, fun i hi => (Below.heap_setCell wr ⟨b, j, none⟩ u i (by simp only; omega)).trans (h.block i hi)⟩
theorem set_same {W : World} {b j : Nat} {u v : Value} (h : W.cell? ⟨b, j, none⟩ = some u) : (W.setCell ⟨b, j, none⟩ v).cell? ⟨b, j, none⟩ = some v := World.cell?_setCell_same (h := h) ..
theorem set_other {W : World} {b j i : Nat} {u v : Value} (h : W.cell? ⟨b, i, none⟩ = some u) (hne : i ≠ j) : (W.setCell ⟨b, j, none⟩ v).cell? ⟨b, i, none⟩ = some u := (World.cell?_setCell_other (h := fun e => hne (by injection e with _ e2 _; exact e2.symm)) ..).trans h
theorem FourAt.set0 {W : World} {b : Nat} {x0 x1 x2 x3 : Int} (h : FourAt W b x0 x1 x2 x3) (u : Int) : FourAt (W.setCell ⟨b, 0, none⟩ (.int .i64 u)) b u x1 x2 x3 :=
  ⟨⟨set_same h.1.1, set_other h.1.2.1 (by omega), set_other h.1.2.2.1 (by omega), set_other h.1.2.2.2 (by omega)⟩, fun i => (frozen_setO ..).trans (h.2 i)⟩
theorem FourAt.set1 {W : World} {b : Nat} {x0 x1 x2 x3 : Int} (h : FourAt W b x0 x1 x2 x3) (u : Int) : FourAt (W.setCell ⟨b, 1, none⟩ (.int .i64 u)) b x0 u x2 x3 :=
  ⟨⟨set_other h.1.1 (by omega), set_same h.1.2.1, set_other h.1.2.2.1 (by omega), set_other h.1.2.2.2 (by omega)⟩, fun i => (frozen_setO ..).trans (h.2 i)⟩
theorem FourAt.set2 {W : World} {b : Nat} {x0 x1 x2 x3 : Int} (h : FourAt W b x0 x1 x2 x3) (u : Int) : FourAt (W.setCell ⟨b, 2, none⟩ (.int .i64 u)) b x0 x1 u x3 :=
  ⟨⟨set_other h.1.1 (by omega), set_other h.1.2.1 (by omega), set_same h.1.2.2.1, set_other h.1.2.2.2 (by omega)⟩, fun i => (frozen_setO ..).trans (h.2 i)⟩
theorem FourAt.set3 {W : World} {b : Nat} {x0 x1 x2 x3 : Int} (h : FourAt W b x0 x1 x2 x3) (u : Int) : FourAt (W.setCell ⟨b, 3, none⟩ (.int .i64 u)) b x0 x1 x2 u :=
  ⟨⟨set_other h.1.1 (by omega), set_other h.1.2.1 (by omega), set_other h.1.2.2.1 (by omega), set_same h.1.2.2.2⟩, fun i => (frozen_setO ..).trans (h.2 i)⟩
theorem size_alloc (w : World) (o : Obj) : (w.alloc o).heap.size = w.heap.size + 1 := by simp
theorem FourAt.new_ (w : World) (x0 x1 x2 x3 : Int) (T : TypeId) : FourAt (w.alloc (.cells #[.int .i64 x0, .int .i64 x1, .int .i64 x2, .int .i64 x3] T)) w.heap.size x0 x1 x2 x3 := by
  refine ⟨⟨?_, ?_, ?_, ?_⟩, fun i => by simp [go_sem]⟩ <;> (rw [World.cell?_alloc_at _ _ _ _ rfl]; rfl)
/-- The sizes of the kinds, as the program lays them. -/
def KindsAt (w : World) : Prop := w.cell? ⟨0, 0, none⟩ = some (.int .i64 4) ∧ w.cell? ⟨0, 1, none⟩ = some (.int .i64 5) ∧ w.cell? ⟨0, 2, none⟩ = some (.int .i64 5) ∧ w.cell? ⟨0, 3, none⟩ = some (.int .i64 5)
theorem KindsAt.below {w w' : World} (h : KindsAt w) (hb : Below w.heap.size w w') : KindsAt w' := ⟨cell_below hb h.1, cell_below hb h.2.1, cell_below hb h.2.2.1, cell_below hb h.2.2.2⟩

set_option maxRecDepth 100000 in
set_option maxHeartbeats 4000000 in
theorem opKinds_any (d l t g : Int) (b0 b1 b2 b3 b4 b5 b6 b7 b8 b9 : Bool) (w : World) :
    Calls Tryz.prog 55 #[.agg #[.int .i64 d, .int .i64 l, .int .i64 t, .int .i64 g, .bool b0, .bool b1, .bool b2, .bool b3, .bool b4, .bool b5, .bool b6, .bool b7, .bool b8, .bool b9]] w fun e w' => e = .returned (.agg #[.int .i64 d, .int .i64 l, .int .i64 t, .int .i64 g]) ∧ Below w.heap.size w w' := by
  go_enter Tryz.func55, Tryz.ntmps55
  go_wp2
  have hF := FourAt.new_ (w.alloc (.cells #[.int .i64 d, .int .i64 l, .int .i64 t, .int .i64 g, .bool b0, .bool b1, .bool b2, .bool b3, .bool b4, .bool b5, .bool b6, .bool b7, .bool b8, .bool b9] 24)) d l t g 106
  rw [size_alloc] at hF
  obtain ⟨⟨e0, e1, e2, e3⟩, _⟩ := hF
  refine bodyPost_ret (v := .agg #[.int .i64 d, .int .i64 l, .int .i64 t, .int .i64 g]) ?_ rfl ⟨rfl, below_self (below_new _ _) (below_new _ _)⟩
  simp [results, Tryz.results55, go_sem, e0, e1, e2, e3]
/-- A kind within its size. -/
def nrF (m x : Int) : Int := if m < (if x < 0 then 0 else x) then m else if x < 0 then 0 else x
def NearAt (w : World) (b : Nat) (d l t g : Int) (k : Nat) (wr : World) : Prop := FourAt wr b (if 0 < k then nrF 3 d else d) (if 1 < k then nrF 4 l else l) (if 2 < k then nrF 4 t else t) (if 3 < k then nrF 4 g else g) ∧ Below w.heap.size w wr ∧ FourAt wr (b + 1) 0 0 0 0
theorem FourAt.far {W : World} {b c : Nat} {x0 x1 x2 x3 : Int} (h : FourAt W b x0 x1 x2 x3) (hc : b ≠ c) (j : Nat) (u : Value) : FourAt (W.setCell ⟨c, j, none⟩ u) b x0 x1 x2 x3 :=
  ⟨⟨(World.cell?_setCell_other (h := fun e => hc (by injection e with e1 _ _; exact e1.symm)) ..).trans h.1.1, (World.cell?_setCell_other (h := fun e => hc (by injection e with e1 _ _; exact e1.symm)) ..).trans h.1.2.1, (World.cell?_setCell_other (h := fun e => hc (by injection e with e1 _ _; exact e1.symm)) ..).trans h.1.2.2.1, (World.cell?_setCell_other (h := fun e => hc (by injection e with e1 _ _; exact e1.symm)) ..).trans h.1.2.2.2⟩, fun i => (frozen_setO ..).trans (h.2 i)⟩
set_option maxRecDepth 100000 in
set_option maxHeartbeats 4000000 in
theorem opNearest_any (d l t g : Int) (w : World) (hK : KindsAt w) :
    Calls Tryz.prog 56 #[.agg #[.int .i64 d, .int .i64 l, .int .i64 t, .int .i64 g]] w fun e w' => e = .returned (.agg #[.int .i64 (nrF 3 d), .int .i64 (nrF 4 l), .int .i64 (nrF 4 t), .int .i64 (nrF 4 g)]) ∧ Below w.heap.size w w' := by
  have hb0 := below_new w (.cells #[.int .i64 d, .int .i64 l, .int .i64 t, .int .i64 g] 106)
  have hb1 := below_self hb0 (below_new (w.alloc (.cells #[.int .i64 d, .int .i64 l, .int .i64 t, .int .i64 g] 106)) (.cells #[.int .i64 0, .int .i64 0, .int .i64 0, .int .i64 0] 106))
  obtain ⟨z0, z1, z2, z3⟩ := hK.below hb1
  have HF := Lib.hid ((FourAt.new_ w d l t g 106).below (below_new (w.alloc (.cells #[.int .i64 d, .int .i64 l, .int .i64 t, .int .i64 g] 106)) (.cells #[.int .i64 0, .int .i64 0, .int .i64 0, .int .i64 0] 106)))
  have HB1 := Lib.hid hb1
  clear hb0 hb1 hK
  go_enter Tryz.func56, Tryz.ntmps56
  have i0 : ∀ w, (Instr.index 105 (.agg #[.int .i64 4, .int .i64 5, .int .i64 5, .int .i64 5]) (.int .i64 0)).run Tryz.prog w = .ok (.int .i64 4) w := fun _ => by kernel_rfl
  have i1 : ∀ w, (Instr.index 105 (.agg #[.int .i64 4, .int .i64 5, .int .i64 5, .int .i64 5]) (.int .i64 1)).run Tryz.prog w = .ok (.int .i64 5) w := fun _ => by kernel_rfl
  have i2 : ∀ w, (Instr.index 105 (.agg #[.int .i64 4, .int .i64 5, .int .i64 5, .int .i64 5]) (.int .i64 2)).run Tryz.prog w = .ok (.int .i64 5) w := fun _ => by kernel_rfl
  have i3 : ∀ w, (Instr.index 105 (.agg #[.int .i64 4, .int .i64 5, .int .i64 5, .int .i64 5]) (.int .i64 3)).run Tryz.prog w = .ok (.int .i64 5) w := fun _ => by kernel_rfl
  go_wp2
  have HN0 := Lib.hid (show NearAt w w.heap.size d l t g 0 _ from ⟨HF.out, HB1.out, by have := FourAt.new_ (w.alloc (.cells #[.int .i64 d, .int .i64 l, .int .i64 t, .int .i64 g] 106)) 0 0 0 0 106; rwa [size_alloc] at this⟩)
  clear HF HB1 z0 z1 z2 z3
  go_loopw [6] (fun i wr => ∃ k : Nat, k ≤ 4 ∧ i = .int .i64 k ∧ NearAt w w.heap.size d l t g k wr) (fun i _ => 4 - (intOf i).toNat)
  case atStart => exact ⟨0, Nat.zero_le _, rfl, HN0.out⟩
  case round =>
    clear HN0
    obtain ⟨k, hk, rfl, hN⟩ := hrel
    have hcase : k = 0 ∨ k = 1 ∨ k = 2 ∨ k = 3 ∨ k = 4 := by omega
    clear hk
    rcases hcase with rfl | rfl | rfl | rfl | rfl
    · have hF : FourAt wr w.heap.size d l t g := hN.1
      have hb := hN.2.1
      have h2 := hN.2.2
      have HX := Lib.hid (show NearAt w w.heap.size d l t g 1 (wr.setCell ⟨w.heap.size, 0, none⟩ (.int .i64 (nrF 3 d))) from ⟨hF.set0 _, below_setKO hb (Nat.le_refl _) _ _, h2.far (by omega) _ _⟩)
      obtain ⟨⟨d0, d1, d2, d3⟩, hf⟩ := hF
      have hf0 := hf 0
      have hlt := cell_lt d0
      clear hN hf h2 hb
      go_wp2
      go_roundw
      case rel => exact ⟨1, by omega, by go_num, HX.out⟩
      case measure => simp [intOf]
    · have hF : FourAt wr w.heap.size (nrF 3 d) l t g := hN.1
      have hb := hN.2.1
      have h2 := hN.2.2
      have HX := Lib.hid (show NearAt w w.heap.size d l t g 2 (wr.setCell ⟨w.heap.size, 1, none⟩ (.int .i64 (nrF 4 l))) from ⟨hF.set1 _, below_setKO hb (Nat.le_refl _) _ _, h2.far (by omega) _ _⟩)
      obtain ⟨⟨d0, d1, d2, d3⟩, hf⟩ := hF
      have hf0 := hf 1
      have hlt := cell_lt d0
      clear hN hf h2 hb
      go_wp2
      go_roundw
      case rel => exact ⟨2, by omega, by go_num, HX.out⟩
      case measure => simp [intOf]
    · have hF : FourAt wr w.heap.size (nrF 3 d) (nrF 4 l) t g := hN.1
      have hb := hN.2.1
      have h2 := hN.2.2
      have HX := Lib.hid (show NearAt w w.heap.size d l t g 3 (wr.setCell ⟨w.heap.size, 2, none⟩ (.int .i64 (nrF 4 t))) from ⟨hF.set2 _, below_setKO hb (Nat.le_refl _) _ _, h2.far (by omega) _ _⟩)
      obtain ⟨⟨d0, d1, d2, d3⟩, hf⟩ := hF
      have hf0 := hf 2
      have hlt := cell_lt d0
      clear hN hf h2 hb
      go_wp2
      go_roundw
      case rel => exact ⟨3, by omega, by go_num, HX.out⟩
      case measure => simp [intOf]
    · have hF : FourAt wr w.heap.size (nrF 3 d) (nrF 4 l) (nrF 4 t) g := hN.1
      have hb := hN.2.1
      have h2 := hN.2.2
      have HX := Lib.hid (show NearAt w w.heap.size d l t g 4 (wr.setCell ⟨w.heap.size, 3, none⟩ (.int .i64 (nrF 4 g))) from ⟨hF.set3 _, below_setKO hb (Nat.le_refl _) _ _, h2.far (by omega) _ _⟩)
      obtain ⟨⟨d0, d1, d2, d3⟩, hf⟩ := hF
      have hf0 := hf 3
      have hlt := cell_lt d0
      clear hN hf h2 hb
      go_wp2
      go_roundw
      case rel => exact ⟨4, by omega, by go_num, HX.out⟩
      case measure => simp [intOf]
    · have hF : FourAt wr w.heap.size (nrF 3 d) (nrF 4 l) (nrF 4 t) (nrF 4 g) := hN.1
      have HB := Lib.hid hN.2.1
      have h2 := hN.2.2
      have H2 := Lib.hid h2
      obtain ⟨⟨d0, d1, d2, d3⟩, _⟩ := hF
      obtain ⟨⟨q0, q1, q2, q3⟩, hf⟩ := h2
      have hf0 := hf 0
      have hf1 := hf 1
      have hf2 := hf 2
      have hf3 := hf 3
      have hlt := cell_lt d0
      have hlt2 := cell_lt q0
      simp only at hlt hlt2
      clear hN hf
      go_wp2
      (try simp only [Exit.inBlock, Exit.then])
      obtain ⟨⟨e0, e1, e2, e3⟩, _⟩ := (((H2.out.set0 (nrF 3 d)).set1 (nrF 4 l)).set2 (nrF 4 t)).set3 (nrF 4 g)
      refine bodyPost_ret (v := .agg #[.int .i64 (nrF 3 d), .int .i64 (nrF 4 l), .int .i64 (nrF 4 t), .int .i64 (nrF 4 g)]) ?_ rfl ⟨rfl, ?_⟩
      · simp [results, Tryz.results56, go_sem, e0, e1, e2, e3]
      · refine below_setKO (below_setKO (below_setKO (below_setKO HB.out ?_ _ _) ?_ _ _) ?_ _ _) ?_ _ _ <;> omega
end Go.Proofs.YtanngknhbgcobaaGreatDoor
/- A law for regions that draw their order: what each operation yields follows from what the operations yield that it waits for, in whatever world the region has come to by then; so one proof an operation serves every order. -/
namespace Go.Proofs.YtanngknhbgcobaaGreatDoor
open Go.RowKit

theorem cnt_drop (p : Nat → Bool) (i : Nat) (hp : p i = true) : ∀ n, (List.range n).countP p = (List.range n).countP (fun k => p k && !(k == i)) + if i < n then 1 else 0
  | 0 => by simp
  | n + 1 => by
    rw [List.range_succ, List.countP_append, List.countP_append, cnt_drop p i hp n]
    by_cases h : i = n
    · subst h
      simp [hp]
    · have e : (n == i) = false := by simp; omega
      simp only [List.countP_singleton, e, Bool.not_false, Bool.and_true]
      by_cases h2 : i < n
      · rw [if_pos h2, if_pos (show i < n + 1 by omega)]; omega
      · rw [if_neg h2, if_neg (show ¬ i < n + 1 by omega)]; omega
theorem listed_set (listed : Array Bool) (i k : Nat) (hi : i < listed.size) : (!(listed.setIfInBounds i true).getD k true) = ((!listed.getD k true) && !(k == i)) := by
  simp only [Array.getD_eq_getD_getElem?]
  by_cases h : k = i
  · subst h
    simp [hi]
  · rw [Array.getElem?_setIfInBounds_ne (fun e => h e.symm)]
    simp [h]
theorem listed_on (listed : Array Bool) (i k : Nat) (h : (listed.setIfInBounds i true).getD k false = true) : k = i ∨ listed.getD k false = true := by
  by_cases hk : k = i
  · exact .inl hk
  · right
    simp only [Array.getD_eq_getD_getElem?] at h ⊢
    rwa [Array.getElem?_setIfInBounds_ne (fun e => hk e.symm)] at h
theorem wpAny_inv {P : Program} {ops : Array Oper} {Q : Exit → Act → World → Prop} (S : Act → World → Prop) (G : Nat → Act → World → Prop)
    (hback : ∀ (i : Nat) (o : Oper), ops[i]? = some o → ∀ e ∈ o.after, e.on < i)
    (hstep : ∀ (i : Nat) (o : Oper), ops[i]? = some o → ∀ a w, S a w → (∀ e ∈ o.after, Region.binds .any e = true → G e.on a w) →
      if Region.wanted o (yielded ops a.tmps) = true then o.wp P a w (fun a' w' => S a' w' ∧ G i a' w' ∧ ∀ j, j ≠ i → G j a w → G j a' w') Q else S (a.put o.dst undef) w ∧ G i (a.put o.dst undef) w ∧ ∀ j, j ≠ i → G j a w → G j (a.put o.dst undef) w)
    (hend : ∀ a w, S a w → (∀ i, i < ops.size → G i a w) → Q .normal a w) :
    ∀ (fuel : Nat) (listed : Array Bool) (a : Act) (w : World), listed.size = ops.size → ((List.range ops.size).countP fun i => !listed.getD i true) = fuel → S a w → (∀ i, listed.getD i false = true → G i a w) → wpAny P .any ops Q fuel listed a w := by
  have hall : ∀ (listed : Array Bool), listed.size = ops.size → (∀ i, i < ops.size → listed.getD i true = true) → ∀ i, i < ops.size → listed.getD i false = true := fun listed hl h i hi => by
    have := h i hi
    simp only [Array.getD_eq_getD_getElem?, Array.getElem?_eq_getElem (show i < listed.size by omega), Option.getD_some] at this ⊢
    exact this
  intro fuel
  induction fuel with
  | zero =>
    intro listed a w hl hc hS hG
    rw [List.countP_eq_zero] at hc
    have hlist : ∀ i, i < ops.size → listed.getD i true = true := fun i hi => by
      have := hc i (List.mem_range.2 hi)
      simpa using this
    refine ⟨?_, hend a w hS fun i hi => hG i (hall listed hl hlist i hi)⟩
    unfold Region.ready
    rw [List.filter_eq_nil_iff]
    intro i hi
    rw [hlist i (List.mem_range.1 hi)]
    simp
  | succ fuel ih =>
    intro listed a w hl hc hS hG
    refine ⟨fun hr => ?_, fun i hi => ?_⟩
    · exfalso
      -- the least operation that is not listed is ready
      have hex : ∃ i, i < ops.size ∧ listed.getD i true = false := by
        refine Classical.byContradiction fun hn => ?_
        have : ((List.range ops.size).countP fun i => !listed.getD i true) = 0 := by
          rw [List.countP_eq_zero]
          intro i hi
          cases hv : listed.getD i true with
          | true => simp
          | false => exact absurd ⟨i, List.mem_range.1 hi, hv⟩ hn
        omega
      have hleast : ∀ n, ∀ i, i ≤ n → i < ops.size → listed.getD i true = false → ∃ m, m < ops.size ∧ listed.getD m true = false ∧ ∀ k, k < m → listed.getD k true = true := by
        intro n
        induction n with
        | zero =>
          intro i hi his hv
          obtain rfl : i = 0 := by omega
          exact ⟨0, his, hv, fun k hk => absurd hk (by omega)⟩
        | succ n ihn =>
          intro i hi his hv
          by_cases hq : ∃ k, k < i ∧ listed.getD k true = false
          · obtain ⟨k, hki, hkv⟩ := hq
            exact ihn k (by omega) (by omega) hkv
          · refine ⟨i, his, hv, fun k hk => ?_⟩
            cases hv2 : listed.getD k true with
            | true => rfl
            | false => exact absurd ⟨k, hk, hv2⟩ hq
      obtain ⟨i0, hi0, hv0⟩ := hex
      obtain ⟨m, hm, hmv, hmk⟩ := hleast i0 i0 (Nat.le_refl _) hi0 hv0
      have hmem : m ∈ Region.ready .any ops listed := by
        unfold Region.ready
        rw [List.mem_filter]
        refine ⟨List.mem_range.2 hm, ?_⟩
        rw [hmv, Array.getElem?_eq_getElem hm]
        simp only [Bool.not_false, Bool.true_and, Option.map_some, Option.getD_some]
        rw [Array.all_eq_true_iff_forall_mem]
        intro e he
        have hlt := hback m _ (Array.getElem?_eq_getElem hm) e he
        have h1 := hmk e.on hlt
        have h2 : listed.getD e.on false = true := by
          simp only [Array.getD_eq_getD_getElem?, Array.getElem?_eq_getElem (show e.on < listed.size by omega), Option.getD_some] at h1 ⊢
          exact h1
        rw [h2]
        simp
      rw [hr] at hmem
      cases hmem
    · unfold Region.ready at hi
      rw [List.mem_filter] at hi
      obtain ⟨hir, hi2⟩ := hi
      have his := List.mem_range.1 hir
      rw [Bool.and_eq_true] at hi2
      obtain ⟨hun, hdep⟩ := hi2
      obtain ⟨o, ho⟩ : ∃ o, ops[i]? = some o := ⟨_, Array.getElem?_eq_getElem his⟩
      rw [ho] at hdep
      simp only [Option.map_some, Option.getD_some] at hdep
      rw [Array.all_eq_true_iff_forall_mem] at hdep
      have hG2 : ∀ e ∈ o.after, Region.binds .any e = true → G e.on a w := fun e he hbd => by
        have := hdep e he
        rw [hbd] at this
        exact hG e.on (by simpa using this)
      have hst := hstep i o ho a w hS hG2
      have hcnt : ((List.range ops.size).countP fun k => !(listed.setIfInBounds i true).getD k true) = fuel := by
        have h1 := cnt_drop (fun k => !listed.getD k true) i hun ops.size
        rw [if_pos his, hc] at h1
        have h2 : (fun k => !(listed.setIfInBounds i true).getD k true) = fun k => (!listed.getD k true) && !(k == i) := by
          funext k
          exact listed_set listed i k (by omega)
        rw [h2]
        omega
      have hnext : ∀ a' w', (S a' w' ∧ G i a' w' ∧ ∀ j, j ≠ i → G j a w → G j a' w') → wpAny P .any ops Q fuel (listed.setIfInBounds i true) a' w' := fun a' w' h => by
        refine ih _ a' w' (by rw [Array.size_setIfInBounds]; exact hl) hcnt h.1 fun k hk => ?_
        rcases listed_on listed i k hk with rfl | hk
        · exact h.2.1
        · by_cases hki : k = i
          · subst hki; exact h.2.1
          · exact h.2.2 k hki (hG k hk)
      unfold wpOp
      rw [ho]
      by_cases hw : Region.wanted o (yielded ops a.tmps) = true
      · rw [if_pos hw] at hst
        show if Region.wanted o (yielded ops a.tmps) = true then _ else _
        rw [if_pos hw]
        exact .inl (Oper.wp_mono (fun a' w' h => hnext a' w' h) hst)
      · rw [if_neg hw] at hst
        show if Region.wanted o (yielded ops a.tmps) = true then _ else _
        rw [if_neg hw]
        exact hnext _ _ hst
/-- A region that draws its order, by one proof for each operation. -/
theorem wp_region_inv {P : Program} {ops : Array Oper} {Q : Exit → Act → World → Prop} {id : Nat} {a : Act} {w : World} (hm : P.follows .mixedOrders = true) (S : Act → World → Prop) (G : Nat → Act → World → Prop)
    (hback : ∀ (i : Nat) (o : Oper), ops[i]? = some o → ∀ e ∈ o.after, e.on < i)
    (hstart : S a w.drew)
    (hstep : ∀ (i : Nat) (o : Oper), ops[i]? = some o → ∀ a w, S a w → (∀ e ∈ o.after, Region.binds .any e = true → G e.on a w) →
      if Region.wanted o (yielded ops a.tmps) = true then o.wp P a w (fun a' w' => S a' w' ∧ G i a' w' ∧ ∀ j, j ≠ i → G j a w → G j a' w') Q else S (a.put o.dst undef) w ∧ G i (a.put o.dst undef) w ∧ ∀ j, j ≠ i → G j a w → G j (a.put o.dst undef) w)
    (hend : ∀ a w, S a w → (∀ i, i < ops.size → G i a w) → Q .normal a w) : (Code.region id ops true).wp P Q a w := by
  refine wp_region_any hm ?_
  refine wpAny_inv S G hback hstep hend ops.size _ a _ (by simp) ?_ hstart fun i h => ?_
  · rw [List.countP_eq_length.2 (fun i hi => ?_)]
    · simp
    · have := List.mem_range.1 hi
      simp [Array.getD_eq_getD_getElem?, this]
  · exfalso
    simp only [Array.getD_eq_getD_getElem?, Array.getElem?_replicate] at h
    split at h <;> simp at h
end Go.Proofs.YtanngknhbgcobaaGreatDoor
/- option.Check's region that draws its order: what each operation yields. -/
namespace Go.Proofs.YtanngknhbgcobaaGreatDoor
open Go.RowKit

/-- What the region reads: the options' block, Tashkeel, the two tests of ahead, seven flags. -/
structure Prm where
  B : Nat
  t : Int
  lb : Bool
  tb : Bool
  b1 : Bool
  b2 : Bool
  b3 : Bool
  b4 : Bool
  b5 : Bool
  b6 : Bool
  b7 : Bool
def slotF (i : Nat) : Nat := if i = 42 then 19 else 20 + i
def gdF (p : Prm) : Nat → Bool
  | 0 => true
  | 1 => true
  | 2 => true
  | 3 => true
  | 4 => !p.b1
  | 5 => !p.b1
  | 6 => !p.b1
  | 7 => !p.b1
  | 8 => !p.b1
  | 9 => !p.b1
  | 10 => !p.b1
  | 11 => !p.b1
  | 12 => !p.b1
  | 13 => !p.b1
  | 14 => true
  | 15 => true
  | 16 => true
  | 17 => true
  | 18 => p.b2
  | 19 => p.b2
  | 20 => true
  | 21 => true
  | 22 => true
  | 23 => true
  | 24 => p.b3
  | 25 => p.b3
  | 26 => p.b3
  | 27 => p.b3
  | 28 => p.b3
  | 29 => p.b3
  | 30 => p.b3
  | 31 => p.b3
  | 32 => true
  | 33 => true
  | 34 => true
  | 35 => true
  | 36 => p.b7
  | 37 => p.b7
  | 38 => p.b7
  | 39 => true
  | 40 => true
  | 41 => true
  | 42 => true
  | _ => false
def valF (p : Prm) : Nat → Value
  | 0 => .pointer (some ⟨p.B, 5, none⟩)
  | 1 => .bool (p.b1)
  | 2 => .bool (!p.b1)
  | 3 => .bool (!p.b1)
  | 4 => .bool (p.lb)
  | 5 => .bool (p.tb)
  | 6 => .pointer (some ⟨p.B, 7, none⟩)
  | 7 => .bool (p.b3)
  | 8 => .pointer (some ⟨p.B, 8, none⟩)
  | 9 => .bool (p.b4)
  | 10 => .pointer (some ⟨p.B, 9, none⟩)
  | 11 => .bool (p.b5)
  | 13 => .bool (p.lb || (p.tb || (p.b3 || (p.b4 || p.b5))))
  | 14 => .bool (!p.b1 && (p.lb || (p.tb || (p.b3 || (p.b4 || p.b5)))))
  | 15 => .pointer (some ⟨p.B, 6, none⟩)
  | 16 => .bool (p.b2)
  | 17 => .bool (p.b2)
  | 18 => .bool (p.lb)
  | 19 => .bool (!p.lb)
  | 20 => .bool (p.b2 && !p.lb)
  | 21 => .pointer (some ⟨p.B, 7, none⟩)
  | 22 => .bool (p.b3)
  | 23 => .bool (p.b3)
  | 24 => .pointer (some ⟨p.B, 2, none⟩)
  | 25 => .int .i64 p.t
  | 26 => .bool (p.t == 3)
  | 27 => .pointer (some ⟨p.B, 2, none⟩)
  | 28 => .int .i64 p.t
  | 29 => .bool (p.t == 4)
  | 31 => .bool ((p.t == 3) || (p.t == 4))
  | 32 => .bool (p.b3 && ((p.t == 3) || (p.t == 4)))
  | 33 => .pointer (some ⟨p.B, 11, none⟩)
  | 34 => .bool (p.b7)
  | 35 => .bool (p.b7)
  | 36 => .pointer (some ⟨p.B, 10, none⟩)
  | 37 => .bool (p.b6)
  | 38 => .bool (!p.b6)
  | 39 => .bool (p.b7 && !p.b6)
  | 41 => .bool ((!p.b1 && (p.lb || (p.tb || (p.b3 || (p.b4 || p.b5))))) || ((p.b2 && !p.lb) || ((p.b3 && ((p.t == 3) || (p.t == 4))) || (p.b7 && !p.b6))))
  | 42 => .bool ((!p.b1 && (p.lb || (p.tb || (p.b3 || (p.b4 || p.b5))))) || ((p.b2 && !p.lb) || ((p.b3 && ((p.t == 3) || (p.t == 4))) || (p.b7 && !p.b6))))
  | _ => undef
def rowF (p : Prm) : Nat → Option (List Bool)
  | 12 => some [p.lb, p.tb, p.b3, p.b4, p.b5]
  | 30 => some [p.t == 3, p.t == 4]
  | 40 => some [!p.b1 && (p.lb || (p.tb || (p.b3 || (p.b4 || p.b5)))), p.b2 && !p.lb, p.b3 && ((p.t == 3) || (p.t == 4)), p.b7 && !p.b6]
  | _ => none
/-- Operation i has yielded what it yields. -/
def GoodRow (r : Option (List Bool)) (v : Value) (s : Nat) (a : Act) (w : World) : Prop := match r with
  | none => a.tmps[s]? = some v
  | some l => ∃ g, a.tmps[s]? = some (.slice (some ⟨g, 0, none⟩) l.length l.length) ∧ Rd w 1 (some ⟨g, 0, none⟩) l.length (l.map Value.bool)
def GoodAt (p : Prm) (i : Nat) (a : Act) (w : World) : Prop := gdF p i = true → GoodRow (rowF p i) (valF p i) (slotF i) a w
/-- What stands all the while. -/
structure HoldsAt (p : Prm) (w0 : World) (w : World) (a : Act) : Prop where
  defers : a.defers = []
  size : a.tmps.size = 62
  s1 : a.tmps[1]? = some (.pointer (some ⟨p.B, 0, none⟩))
  s3 : a.tmps[3]? = some (.bool p.lb)
  s4 : a.tmps[4]? = some (.bool p.tb)
  c2 : w.cell? ⟨p.B, 2, none⟩ = some (.int .i64 p.t)
  c5 : w.cell? ⟨p.B, 5, none⟩ = some (.bool p.b1)
  c6 : w.cell? ⟨p.B, 6, none⟩ = some (.bool p.b2)
  c7 : w.cell? ⟨p.B, 7, none⟩ = some (.bool p.b3)
  c8 : w.cell? ⟨p.B, 8, none⟩ = some (.bool p.b4)
  c9 : w.cell? ⟨p.B, 9, none⟩ = some (.bool p.b5)
  c10 : w.cell? ⟨p.B, 10, none⟩ = some (.bool p.b6)
  c11 : w.cell? ⟨p.B, 11, none⟩ = some (.bool p.b7)
  below : Below w0.heap.size w0 w
theorem gdF_lt {p : Prm} {i : Nat} (h : gdF p i = true) : i < 43 := by
  unfold gdF at h
  split at h <;> first | omega | cases h
theorem HoldsAt.put {p : Prm} {w0 w w' : World} {a : Act} (h : HoldsAt p w0 w a) (hb : Below w.heap.size w w') (s : Nat) (v : Value) (h1 : s ≠ 1) (h3 : s ≠ 3) (h4 : s ≠ 4) : HoldsAt p w0 w' (a.put (some s) v) where
  defers := h.defers
  size := by simpa [Act.put] using h.size
  s1 := by simp only [Act.put]; rw [Array.getElem?_setIfInBounds_ne h1]; exact h.s1
  s3 := by simp only [Act.put]; rw [Array.getElem?_setIfInBounds_ne h3]; exact h.s3
  s4 := by simp only [Act.put]; rw [Array.getElem?_setIfInBounds_ne h4]; exact h.s4
  c2 := cell_below hb h.c2
  c5 := cell_below hb h.c5
  c6 := cell_below hb h.c6
  c7 := cell_below hb h.c7
  c8 := cell_below hb h.c8
  c9 := cell_below hb h.c9
  c10 := cell_below hb h.c10
  c11 := cell_below hb h.c11
  below := below_self h.below hb
theorem slotF_inj {i j : Nat} (hi : i < 43) (hj : j < 43) (h : j ≠ i) : slotF i ≠ slotF j := by
  unfold slotF
  split <;> split <;> omega
theorem slotF_lt {i : Nat} (hi : i < 43) : slotF i < 62 ∧ slotF i ≠ 1 ∧ slotF i ≠ 3 ∧ slotF i ≠ 4 := by
  unfold slotF
  split <;> omega
theorem GoodAt.keep {p : Prm} {i j : Nat} {a : Act} {w w' : World} (hi : i < 43) (h : GoodAt p j a w) (hji : j ≠ i) (hb : Below w.heap.size w w') (v : Value) : GoodAt p j (a.put (some (slotF i)) v) w' := by
  intro hg
  have hne := slotF_inj hi (gdF_lt hg) hji
  have h2 := h hg
  have e : (a.put (some (slotF i)) v).tmps[slotF j]? = a.tmps[slotF j]? := by
    simp only [Act.put]
    exact Array.getElem?_setIfInBounds_ne hne
  cases hr : rowF p j with
  | none =>
    rw [hr] at h2
    exact e.trans h2
  | some l =>
    rw [hr] at h2
    obtain ⟨g, h3, h4⟩ := h2
    exact ⟨g, e.trans h3, h4.below hb⟩
/-- Behind an operation that yields v, and at most makes memory. -/
theorem done_at {p : Prm} {w0 w w' : World} {a : Act} {i : Nat} (hi : i < 43) (h : HoldsAt p w0 w a) (hb : Below w.heap.size w w') (v : Value) (hv : (a.put (some (slotF i)) v).tmps[slotF i]? = some v → GoodAt p i (a.put (some (slotF i)) v) w') :
    HoldsAt p w0 w' (a.put (some (slotF i)) v) ∧ GoodAt p i (a.put (some (slotF i)) v) w' ∧ ∀ j, j ≠ i → GoodAt p j a w → GoodAt p j (a.put (some (slotF i)) v) w' := by
  obtain ⟨h0, h1, h3, h4⟩ := slotF_lt hi
  exact ⟨h.put hb _ v h1 h3 h4, hv (by simp [Act.put, h.size, h0]), fun j hj hg => hg.keep hi hj hb v⟩
theorem done_pure {p : Prm} {w0 w : World} {a : Act} {i : Nat} (hi : i < 43) (h : HoldsAt p w0 w a) (v : Value) (hr : rowF p i = none) (hv : gdF p i = true → v = valF p i) :
    HoldsAt p w0 w (a.put (some (slotF i)) v) ∧ GoodAt p i (a.put (some (slotF i)) v) w ∧ ∀ j, j ≠ i → GoodAt p j a w → GoodAt p j (a.put (some (slotF i)) v) w :=
  done_at hi h (Below.refl _ _) v fun e hg => by
    rw [hr, ← hv hg]
    exact e
theorem done_off {p : Prm} {w0 w : World} {a : Act} {i : Nat} (hi : i < 43) (h : HoldsAt p w0 w a) (hg : gdF p i = false) :
    HoldsAt p w0 w (a.put (some (slotF i)) undef) ∧ GoodAt p i (a.put (some (slotF i)) undef) w ∧ ∀ j, j ≠ i → GoodAt p j a w → GoodAt p j (a.put (some (slotF i)) undef) w :=
  done_at hi h (Below.refl _ _) undef fun _ hg' => by rw [hg] at hg'; cases hg'
theorem done_row {p : Prm} {w0 w : World} {a : Act} {i : Nat} (hi : i < 43) (h : HoldsAt p w0 w a) (l : List Bool) (T : TypeId) (hr : gdF p i = true → rowF p i = some l) :
    HoldsAt p w0 (w.alloc (.cells (l.map Value.bool).toArray T)) (a.put (some (slotF i)) (.slice (some ⟨w.heap.size, 0, none⟩) l.length l.length)) ∧ GoodAt p i (a.put (some (slotF i)) (.slice (some ⟨w.heap.size, 0, none⟩) l.length l.length)) (w.alloc (.cells (l.map Value.bool).toArray T)) ∧
      ∀ j, j ≠ i → GoodAt p j a w → GoodAt p j (a.put (some (slotF i)) (.slice (some ⟨w.heap.size, 0, none⟩) l.length l.length)) (w.alloc (.cells (l.map Value.bool).toArray T)) :=
  done_at hi h (below_new _ _) _ fun e hg => by
    rw [hr hg]
    exact ⟨_, e, rdBools w l T⟩
section
variable {P : Program} {o : Oper} {a : Act} {w : World} {K : Act → World → Prop} {Q : Exit → Act → World → Prop}
theorem oper_val {v : Value} {w' : World} (h : (execOp a.eval o).run P w = .ok (.value v) w') (hk : K (a.put o.dst v) w') : o.wp P a w K Q := by
  unfold Oper.wp
  rw [h]
  exact hk
theorem wanted_none {y : Nat → Option Bool} (h : o.guard = none) : Region.wanted o y = true := by simp [Region.wanted, h]
theorem wanted_some {y : Nat → Option Bool} {j : Nat} {g : Bool} (h : o.guard = some (j, true)) (hy : y j = some g) : Region.wanted o y = g := by simp [Region.wanted, h, hy]
theorem yielded_at {ops : Array Oper} {tmps : Array Value} {j s : Nat} {g : Bool} {o' : Oper} (ho : ops[j]? = some o') (hd : o'.dst = some s) (ht : tmps[s]? = some (.bool g)) : yielded ops tmps j = some g := by
  unfold yielded
  rw [ho]
  simp [hd, ht]
end
end Go.Proofs.YtanngknhbgcobaaGreatDoor
