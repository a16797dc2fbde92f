/- The reference's Join of a code. -/
import Derived.Test.YtcjcimdembkbkaaPpF
import Derived.Test.YtcjcimdembkbkaaRgP
import Derived.Test.YtcjcimdembkbkaaTrR1
import Derived.Test.YtcjcimdembkbkaaMem3
namespace Go.Proofs.Ytcjcimdembkbkaa
open Go.RowKit
set_option maxRecDepth 100000 in
set_option maxHeartbeats 1000000 in
theorem refJoin_gen (lJ : List Rg) (nJ : Nat) (cJ : ∀ w : World, Calls Try.prog 60 #[] w fun e w' => e = .returned (.slice (some ⟨w.heap.size, 0, none⟩) nJ nJ) ∧ w' = w.alloc (.cells (cellsG lJ).toArray 81)) (hnJ : lJ.length = nJ) (h4 : nJ ≤ 4096) (c : Int) (w : World) :
    Calls Try.prog 48 #[.int .i64 c] w fun e w' => e = .returned (.int .i64 (getG lJ 0 c)) ∧ Below w.heap.size w w' := by
  have CJ := Lib.hid cJ
  have NJ := Lib.hid hnJ
  clear cJ hnJ
  go_enter Try.func48, Try.ntmps48
  go_wp2_with fail
  refine (CJ.out _).mono ?_
  rintro e w1 ⟨rfl, hw1⟩
  have hr := rd_blk (w := w1) (b := w.heap.size) (t := 81) 3 (cs := cellsG lJ) (m := nJ) (by rw [hw1]; exact heap_alloc_new _ _) (by rw [cellsG_len, NJ.out])
  have hb1 : Below w.heap.size w w1 := by rw [hw1]; exact below_new _ _
  have HR := Lib.hid hr
  clear hw1 hr
  go_wp2_with fail
  refine (refGetG_any (some ⟨w.heap.size, 0, none⟩) nJ nJ lJ 0 c w1 HR.out (by unfold maxLen; omega)).mono ?_
  rintro e w2 ⟨rfl, rfl⟩
  go_wp2
  go_ret
  exact ⟨rfl, hb1⟩
theorem refJoin_any (c v : Int) (hv : joinF c = v) (w : World) : Calls Try.prog 48 #[.int .i64 c] w fun e w' => e = .returned (.int .i64 v) ∧ Below w.heap.size w w' := by
  rw [← hv]
  exact refJoin_gen joinL 68 joinRanges_any (by decide +kernel) (by omega) c w
end Go.Proofs.Ytcjcimdembkbkaa
