/- The waking question of layer 1's statements: naskhlaw01.awake returns true wherever the stretches are laid. -/
import Derived.Test.YtoopchpolcfdaaaDoorDecW2
import Derived.Test.YtoopchpolcfdaaaDoorEq
namespace Go.Proofs.YtoopchpolcfdaaaDoor
open Go.RowKit

theorem Stretches.below {w w' : World} (h : Stretches w) (hb : Below w.heap.size w w') : Stretches w' := by
  obtain ⟨s0, s1, s2, s3, s4, s5, s6, s7, s8, s9, s10, s11⟩ := h
  exact ⟨cell_below hb s0, cell_below hb s1, cell_below hb s2, cell_below hb s3, cell_below hb s4, cell_below hb s5, cell_below hb s6, cell_below hb s7, cell_below hb s8, cell_below hb s9, cell_below hb s10, cell_below hb s11⟩

set_option maxHeartbeats 1000000 in
theorem awakeW_any (w : World) (hs : Stretches w) :
    Calls Tryd.prog 13 #[] w fun e w' => e = .returned (.bool true) ∧ Below w.heap.size w w' := by
  have hsz : Hid (sizeW 128512 = 2) := Lib.hid (sizeW_2 (by omega) (by omega))
  go_enter Tryd.func13, Tryd.ntmps13
  go_wp2_with fail
  refine (decode_any (some ⟨w.heap.size, 0, none⟩) 3 3 [55357, 56832, 56832] _ (Rd.new_ w [.int .u16 55357, .int .u16 56832, .int .u16 56832] _) (by intro x hx; simp at hx; unfold Unit16; omega) (by omega) (Nat.le_refl _)).mono ?_
  rintro e w1 ⟨v, rfl, hown, hb⟩
  obtain ⟨A, c, rfl, hc⟩ := own_form hown
  have hb1 := below_self (below_new _ _) hb
  clear hb
  go_wp2_with fail
  refine (equalInt_b A (some ⟨w1.heap.size, 0, none⟩) 2 2 c 2 [128512, 1170944] [128512, 1170944] _ (Rd.alloc (Rd.of_own hown) _) (Rd.new_ w1 [.int .i64 128512, .int .i64 1170944] _) (by unfold maxLen; omega) (by unfold maxLen; omega)).mono ?_
  rintro e w2 ⟨rfl, hb⟩
  have hb2 := below_self (below_self hb1 (below_new _ _)) hb
  clear hb
  simp only [decide_true]
  go_wp2_with fail
  refine (size_any 128512 _ (hs.below hb2)).mono ?_
  rintro e w3 ⟨rfl, hb⟩
  have hb3 := below_self hb2 hb
  clear hb
  go_wp2
  go_ret
  exact ⟨retB (by simp [hsz.out]), hb3⟩
end Go.Proofs.YtoopchpolcfdaaaDoor
