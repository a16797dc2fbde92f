/- Codes as units: wide.appendCode, the closure that counts room, slices.ContainsFunc over it. -/
import Derived.Test.YtoopchpolcfdaaaDoorDecW
namespace Go.Proofs.YtoopchpolcfdaaaDoor
open Go.RowKit

/-- The units of a code. -/
def unitsW (c : Int) : List Int := if 1114112 ≤ c then [c - 1114112] else if 65536 ≤ c then [55296 + (c - 65536) / 1024, 56320 + (c - 65536) % 1024] else [c]
theorem sizeW_pos {c : Int} (h : sizeW c ≠ 0) : (0 ≤ c ∧ c < 65536) ∨ (65536 ≤ c ∧ c ≤ 1114111) ∨ (1169408 ≤ c ∧ c ≤ 1171455) := by
  rcases Classical.em ((0 ≤ c ∧ c < 65536) ∨ (65536 ≤ c ∧ c ≤ 1114111) ∨ (1169408 ≤ c ∧ c ≤ 1171455)) with h1 | h1
  · exact h1
  · exact absurd (sizeW_n (by omega) (by omega)) h
theorem sizeW_range (c : Int) : 0 ≤ sizeW c ∧ sizeW c ≤ 2 := by
  unfold sizeW
  split
  · split <;> omega
  · split <;> omega

set_option maxHeartbeats 1000000 in
theorem appendCode_any (base : Nat) (v : Value) (n : Nat) (xs : List Value) (c : Int) (w : World) (hown : w.ownsRow base 25 1 v n xs) (hbase : base ≤ w.heap.size) (hn : n ≤ 100000000) (hc : sizeW c ≠ 0) :
    Calls Tryd.prog 41 #[v, .int .i64 c] w fun e w' => ∃ v', e = .returned v' ∧ w'.ownsRow base 25 1 v' (n + (unitsW c).length) (xs ++ (unitsW c).map (Value.int .u16)) ∧ Below base w w' := by
  have hcc := sizeW_pos hc
  clear hc
  rcases hcc with ⟨h1, h2⟩ | ⟨h1, h2⟩ | ⟨h1, h2⟩
  · have HU := Lib.hid (show unitsW c = [c] by unfold unitsW; rw [if_neg (by omega), if_neg (by omega)])
    go_enter Tryd.func41, Tryd.ntmps41
    go_wp2_with (at_builtin; refine wpList_app rfl _ _ _ rfl u16Slice (by decide) v n _ rfl (hown.alloc _) ⟨w.heap.size, 0, none⟩ 1 1 [.int .u16 c] rfl rfl (cell_one_new _ _ _) (oneInt _ _) (by omega) (by unfold maxLen; omega) (Nat.le_trans hbase (by simp)) ?_; intro v1 w1 hown1 hg1 hat1)
    go_ret
    exact ⟨v1, rfl, by rw [HU.out]; exact hown1, below_app ((Below.refl _ _).alloc hbase _) hg1 (hown.alloc _) (Nat.le_trans hbase (by simp))⟩
  · have HU := Lib.hid (show unitsW c = [55296 + (c - 65536) / 1024, 56320 + (c - 65536) % 1024] by unfold unitsW; rw [if_neg (by omega), if_pos (by omega)])
    go_enter Tryd.func41, Tryd.ntmps41
    go_wp2_with (at_builtin; refine wpList_app rfl _ _ _ rfl u16Slice (by decide) v n _ rfl (hown.alloc _) ⟨w.heap.size, 0, none⟩ 2 2 [.int .u16 (55296 + (c - 65536) / 1024), .int .u16 (56320 + (c - 65536) % 1024)] rfl rfl (cells_new w [_, _] _) (oneInt2 _ _ _) (by omega) (by unfold maxLen; omega) (Nat.le_trans hbase (by simp)) ?_; intro v1 w1 hown1 hg1 hat1)
    go_ret
    exact ⟨v1, rfl, by rw [HU.out]; exact hown1, below_app ((Below.refl _ _).alloc hbase _) hg1 (hown.alloc _) (Nat.le_trans hbase (by simp))⟩
  · have HU := Lib.hid (show unitsW c = [c - 1114112] by unfold unitsW; rw [if_pos (by omega)])
    go_enter Tryd.func41, Tryd.ntmps41
    go_wp2_with (at_builtin; refine wpList_app rfl _ _ _ rfl u16Slice (by decide) v n _ rfl (hown.alloc _) ⟨w.heap.size, 0, none⟩ 1 1 [.int .u16 (c - 1114112)] rfl rfl (cell_one_new _ _ _) (oneInt _ _) (by omega) (by unfold maxLen; omega) (Nat.le_trans hbase (by simp)) ?_; intro v1 w1 hown1 hg1 hat1)
    go_ret
    exact ⟨v1, rfl, by rw [HU.out]; exact hown1, below_app ((Below.refl _ _).alloc hbase _) hg1 (hown.alloc _) (Nat.le_trans hbase (by simp))⟩

/-- The closure of wide.Encode: it adds the code's size to the captured variable, and says whether it is 0. -/
theorem encClosure_any (c r : Int) (B : Nat) (w : World) (hs : Stretches w) (hB : w.cell? ⟨B, 0, none⟩ = some (.int .i64 r)) (hf : w.frozen? ⟨B, 0, none⟩ = false) (hr0 : 0 ≤ r) (hr1 : r ≤ 1000000000) :
    Calls Tryd.prog 40 #[.int .i64 c, .pointer (some ⟨B, 0, none⟩)] w fun e w' => e = .returned (.bool (sizeW c == 0)) ∧ ∃ w1, Below w.heap.size w w1 ∧ w' = w1.setCell ⟨B, 0, none⟩ (.int .i64 (r + sizeW c)) := by
  have hlt := cell_lt hB
  obtain ⟨g0, g1⟩ := sizeW_range c
  go_enter Tryd.func40, Tryd.ntmps40
  go_wp2_with fail
  refine (size_any c _ hs).mono ?_
  rintro e w1 ⟨rfl, hb⟩
  have hB1 := cell_below hb hB
  have hf1 : w1.frozen? ⟨B, 0, none⟩ = false := (hb.frozen (p := ⟨B, 0, none⟩) hlt).trans hf
  go_wp2
  go_ret
  exact ⟨rfl, w1, hb, rfl⟩
end Go.Proofs.YtoopchpolcfdaaaDoor
