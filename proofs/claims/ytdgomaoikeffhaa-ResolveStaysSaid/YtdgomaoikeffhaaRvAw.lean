/- naskhlaw27.awake. -/
import Derived.Test.YtdgomaoikeffhaaRvP2
import Derived.Test.YtdgomaoikeffhaaEq
namespace Go.Proofs.Ytdgomaoikeffhaa
open Go.RowKit

theorem rv_awake : lineA [1, 12] [1, 1] (0, 2) 0 = [1, 0] := by decide +kernel
set_option maxRecDepth 100000 in
set_option maxHeartbeats 2000000 in
theorem awakeRv_any (w : World) : Calls Try.prog 7 #[] w fun e w' => e = .returned (.bool true) ∧ Below w.heap.size w w' := by
  obtain ⟨W1, hW1⟩ : ∃ W1, w.alloc (.cells #[.int .i64 1, .int .i64 12] 3) = W1 := ⟨_, rfl⟩
  have h1 : Rd W1 1 (some ⟨w.heap.size, 0, none⟩) 2 (([1, 12] : List Int).map (Value.int .i64)) := by rw [← hW1]; exact Rd.new_ w [.int .i64 1, .int .i64 12] _
  have hb1 : Below w.heap.size w W1 := by rw [← hW1]; exact below_new w _
  have hsz : W1.heap.size = w.heap.size + 1 := by rw [← hW1, World.size_alloc]
  have h2 : Rd (W1.alloc (.cells #[.int .i64 1, .int .i64 1] 3)) 1 (some ⟨w.heap.size + 1, 0, none⟩) 2 (([1, 1] : List Int).map (Value.int .i64)) := by rw [← hsz]; exact Rd.new_ W1 [.int .i64 1, .int .i64 1] _
  have hb2 := below_new W1 (.cells #[.int .i64 1, .int .i64 1] 3)
  have HN := Lib.hid (rvLine_any (some ⟨w.heap.size, 0, none⟩) (some ⟨w.heap.size + 1, 0, none⟩) 2 2 2 2 [1, 12] [1, 1] 0 2 0 _ (h1.below hb2) h2 (by omega) (by omega) (by omega) (by omega))
  rw [rv_awake] at HN
  have HB2 := Lib.hid (below_self hb1 hb2)
  rw [← hW1] at HN HB2
  clear h1 hb1 h2 hb2 hsz hW1
  go_enter Try.func7, Try.ntmps7
  go_wp2_with (first
    | (go_at_call 9; refine HN.out.mono ?_; rintro e w3 ⟨v3, rfl, hv3, hb3⟩; obtain ⟨A3, c3, he3, _⟩ := own_form hv3; subst he3; have HV3 := Lib.hid hv3; have HB3 := Lib.hid (below_self HB2.out hb3); clear hv3 hb3)
    | (go_at_call 8; refine (equalInt_b A3 (some ⟨w3.heap.size, 0, none⟩) 2 2 c3 2 [1, 0] [1, 0] (w3.alloc (.cells #[.int .i64 1, .int .i64 0] 3)) ((Rd.of_own HV3.out).alloc _) (Rd.new_ w3 [.int .i64 1, .int .i64 0] _) (by unfold maxLen; omega) (by unfold maxLen; omega)).mono ?_; rintro e w5 ⟨rfl, hb5⟩; have HB5 := Lib.hid (below_self HB3.out (below_self (below_new w3 _) hb5)); clear hb5)
    | fail)
  go_ret
  exact ⟨rfl, HB5.out⟩
end Go.Proofs.Ytdgomaoikeffhaa
