/- The waking question of layer 2's statements: naskhlaw02.awake returns true wherever the arrays are laid. -/
import Derived.Test.YtoopchpolcfdaaaDoorDecN2
import Derived.Test.YtoopchpolcfdaaaDoorAwakeW
namespace Go.Proofs.YtoopchpolcfdaaaDoor
open Go.RowKit

set_option maxHeartbeats 1000000 in
theorem awakeN_any (w : World) (hs : TabN w) :
    Calls Tryd.prog 27 #[] w fun e w' => e = .returned (.bool true) ∧ Below w.heap.size w w' := by
  have hsz : Hid (sizeN 1575 = 2) := Lib.hid (sizeN_2 (by omega) (by omega))
  have hdn : Hid (decN [195, 164, 192] = [228, 1114304]) := Lib.hid (by decide)
  go_enter Tryd.func27, Tryd.ntmps27
  go_wp2_with fail
  refine (decodeN_any (some ⟨w.heap.size, 0, none⟩) 3 3 [195, 164, 192] _ (hs.below (below_new _ _)) (Rd.new_ w [.int .u8 195, .int .u8 164, .int .u8 192] _) (by intro x hx; simp at hx; unfold Byte8; omega) (by omega) (Nat.le_refl _)).mono ?_
  rintro e w1 ⟨v, rfl, hown, hb⟩
  rw [hdn.out] at hown
  obtain ⟨A, c, rfl, hc⟩ := own_form hown
  have hb1 := below_self (below_new _ _) hb
  clear hb
  go_wp2_with fail
  refine (equalInt_b A (some ⟨w1.heap.size, 0, none⟩) 2 2 c 2 [228, 1114304] [228, 1114304] _ (Rd.alloc (Rd.of_own hown) _) (Rd.new_ w1 [.int .i64 228, .int .i64 1114304] _) (by unfold maxLen; omega) (by unfold maxLen; omega)).mono ?_
  rintro e w2 ⟨rfl, hb⟩
  have hb2 := below_self (below_self hb1 (below_new _ _)) hb
  clear hb
  simp only [decide_true]
  go_wp2_with fail
  refine (sizeN_any 1575 _ (hs.below hb2).lasts).mono ?_
  rintro e w3 ⟨rfl, rfl⟩
  go_wp2
  go_ret
  exact ⟨retB (by simp [hsz.out]), hb2⟩
end Go.Proofs.YtoopchpolcfdaaaDoor
