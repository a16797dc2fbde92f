/- naskhlaw25.awake. -/
import Derived.Test.YtpddjojgcenlkaaBkN
import Derived.Test.YtpddjojgcenlkaaEq
namespace Go.Proofs.Ytpddjojgcenlkaa
open Go.RowKit

theorem bk_awake : bkF [40, 97, 41] [13, 0, 13] = [(0, 2)] := by decide +kernel
theorem n0_awake : n0F [13, 0, 13] 0 0 [13, 0, 13] (bkF [40, 97, 41] [13, 0, 13]) = [0, 0, 0] := by rw [bk_awake]; decide +kernel
set_option maxRecDepth 100000 in
set_option maxHeartbeats 4000000 in
theorem awakeBk_any (w : World) : Calls Try.prog 6 #[] w fun e w' => e = .returned (.bool true) ∧ Below w.heap.size w w' := by
  obtain ⟨W1, hW1⟩ : ∃ W1, w.alloc (.cells #[.int .i64 13, .int .i64 0, .int .i64 13] 3) = W1 := ⟨_, rfl⟩
  have h1 : Rd W1 1 (some ⟨w.heap.size, 0, none⟩) 3 (([13, 0, 13] : List Int).map (Value.int .i64)) := by rw [← hW1]; exact Rd.new_ w [.int .i64 13, .int .i64 0, .int .i64 13] _
  have hb1 : Below w.heap.size w W1 := by rw [← hW1]; exact below_new w _
  have hsz : W1.heap.size = w.heap.size + 1 := by rw [← hW1, World.size_alloc]
  have h2 : Rd (W1.alloc (.cells #[.int .i64 40, .int .i64 97, .int .i64 41] 3)) 1 (some ⟨w.heap.size + 1, 0, none⟩) 3 (([40, 97, 41] : List Int).map (Value.int .i64)) := by rw [← hsz]; exact Rd.new_ W1 [.int .i64 40, .int .i64 97, .int .i64 41] _
  have hb2 := below_new W1 (.cells #[.int .i64 40, .int .i64 97, .int .i64 41] 3)
  have HN := Lib.hid (bkN0_any (some ⟨w.heap.size + 1, 0, none⟩) (some ⟨w.heap.size, 0, none⟩) (some ⟨w.heap.size, 0, none⟩) 3 3 3 3 [40, 97, 41] [13, 0, 13] [13, 0, 13] 0 0 _ h2 (h1.below hb2) (h1.below hb2) (by omega))
  rw [n0_awake] at HN
  have H1 := Lib.hid (h1.below hb2)
  have HB2 := Lib.hid (below_self hb1 hb2)
  rw [← hW1] at HN H1 HB2
  clear h1 hb1 h2 hb2 hsz hW1
  go_enter Try.func6, Try.ntmps6
  go_wp2_with (first
    | (go_at_call 11; refine HN.out.mono ?_; rintro e w3 ⟨v3, rfl, hv3, hb3⟩; obtain ⟨A3, c3, he3, _⟩ := own_form hv3; subst he3; have HV3 := Lib.hid hv3; have HB3 := Lib.hid (below_self HB2.out hb3); have H3 := Lib.hid (H1.out.below hb3); clear hv3 hb3)
    | (go_at_call 10; refine (equalInt_b A3 (some ⟨w3.heap.size, 0, none⟩) 3 3 c3 3 [0, 0, 0] [0, 0, 0] (w3.alloc (.cells #[.int .i64 0, .int .i64 0, .int .i64 0] 3)) ((Rd.of_own HV3.out).alloc _) (Rd.new_ w3 [.int .i64 0, .int .i64 0, .int .i64 0] _) (by unfold maxLen; omega) (by unfold maxLen; omega)).mono ?_; rintro e w5 ⟨rfl, hb5⟩; have HB5 := Lib.hid (below_self HB3.out (below_self (below_new w3 _) hb5)); have H5 := Lib.hid ((H3.out.alloc _).below hb5); clear hb5)
    | (go_at_call 8; refine (bkFind_any (some ⟨w5.heap.size, 0, none⟩) (some ⟨w.heap.size, 0, none⟩) 3 3 3 3 [40, 97, 41] [13, 0, 13] (w5.alloc (.cells #[.int .i64 40, .int .i64 97, .int .i64 41] 3)) (Rd.new_ w5 [.int .i64 40, .int .i64 97, .int .i64 41] _) (H5.out.alloc _) (by omega) (by omega)).mono ?_; rintro e w7 ⟨v7, rfl, hv7, hb7⟩; rw [bk_awake] at hv7; obtain ⟨A7, c7, he7, _⟩ := own_form hv7; subst he7; have HB7 := Lib.hid (below_self HB5.out (below_self (below_new w5 _) hb7)); clear hv7 hb7)
    | fail)
  go_ret
  exact ⟨rfl, HB7.out⟩
end Go.Proofs.Ytpddjojgcenlkaa
