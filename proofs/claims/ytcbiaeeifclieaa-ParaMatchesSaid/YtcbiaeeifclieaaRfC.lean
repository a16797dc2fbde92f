/- The reference's Class of a code. -/
import Derived.Test.YtcbiaeeifclieaaPpF
import Derived.Test.YtcbiaeeifclieaaRgP
import Derived.Test.YtcbiaeeifclieaaTrR1
import Derived.Test.YtcbiaeeifclieaaMem3
namespace Go.Proofs.Ytcbiaeeifclieaa
open Go.RowKit
set_option maxRecDepth 100000 in
set_option maxHeartbeats 1000000 in
theorem refClass_gen (lB : List Rg) (nB : Nat) (cB : ∀ w : World, Calls Try.prog 78 #[] w fun e w' => e = .returned (.slice (some ⟨w.heap.size, 0, none⟩) nB nB) ∧ w' = w.alloc (.cells (cellsG lB).toArray 142)) (hnB : lB.length = nB) (h4 : nB ≤ 4096) (c : Int) (w : World) :
    Calls Try.prog 54 #[.int .i64 c] w fun e w' => e = .returned (.int .i64 (if 0 ≤ c ∧ c ≤ 1114111 then getG lB 0 c else 13)) ∧ Below w.heap.size w w' := by
  have CB := Lib.hid cB
  have NB := Lib.hid hnB
  clear cB hnB
  have hc : c < 0 ∨ (0 ≤ c ∧ 1114111 < c) ∨ (0 ≤ c ∧ c ≤ 1114111) := by omega
  rcases hc with h | ⟨h, h'⟩ | ⟨h, h'⟩
  · have HV := Lib.hid (show (if 0 ≤ c ∧ c ≤ 1114111 then getG lB 0 c else 13) = 13 from if_neg (by omega))
    go_enter Try.func54, Try.ntmps54
    go_wp2
    go_ret
    exact ⟨by first | rfl | exact retI HV.out.symm, Below.refl _ _⟩
  · have HV := Lib.hid (show (if 0 ≤ c ∧ c ≤ 1114111 then getG lB 0 c else 13) = 13 from if_neg (by omega))
    go_enter Try.func54, Try.ntmps54
    go_wp2
    go_ret
    exact ⟨by first | rfl | exact retI HV.out.symm, Below.refl _ _⟩
  · have HV := Lib.hid (show (if 0 ≤ c ∧ c ≤ 1114111 then getG lB 0 c else 13) = getG lB 0 c from if_pos ⟨h, h'⟩)
    go_enter Try.func54, Try.ntmps54
    go_wp2_with fail
    refine (CB.out _).mono ?_
    rintro e w1 ⟨rfl, hw1⟩
    have hr := rd_blk (w := w1) (b := w.heap.size) (t := 142) 3 (cs := cellsG lB) (m := nB) (by rw [hw1]; exact heap_alloc_new _ _) (by rw [cellsG_len, NB.out])
    have hb1 : Below w.heap.size w w1 := by rw [hw1]; exact below_new _ _
    have HR := Lib.hid hr
    clear hw1 hr
    go_wp2_with fail
    refine (refGetG_any (some ⟨w.heap.size, 0, none⟩) nB nB lB 0 c w1 HR.out (by unfold maxLen; omega)).mono ?_
    rintro e w2 ⟨rfl, rfl⟩
    go_wp2
    go_ret
    exact ⟨by first | rfl | exact retI HV.out.symm, hb1⟩
theorem refClass_any (c v : Int) (hv : classF c = v) (w : World) : Calls Try.prog 54 #[.int .i64 c] w fun e w' => e = .returned (.int .i64 v) ∧ Below w.heap.size w w' := by
  rw [← hv]
  exact refClass_gen bidiL 230 bidiRanges_any (by decide +kernel) (by omega) c w
end Go.Proofs.Ytcbiaeeifclieaa
