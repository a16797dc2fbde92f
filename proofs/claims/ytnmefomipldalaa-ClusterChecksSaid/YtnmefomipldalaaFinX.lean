/- cluster's Finest of nothing, walked. -/
import Derived.Test.YtnmefomipldalaaFinZ
import Derived.Test.YtnmefomipldalaaFinY
namespace Go.Proofs.Ytnmefomipldalaa
open Go.RowKit

set_option maxRecDepth 100000 in
set_option maxHeartbeats 1000000 in
theorem prFinest_zero (c : Nat) (A : Option Addr) (w : World) :
    Calls Try.prog 16 #[.int .i64 0, .int .i64 0, .slice A 0 c] w fun e w' => ∃ v, e = .returned (.tuple #[v, .int .i64 0]) ∧ w'.ownsRow w.heap.size 33 4 v 0 [] ∧ Below w.heap.size w w' := by
  have HR := Lib.hid (show ∀ W, Rd W 4 A 0 (cellsC []) from fun W => Rd.nil_)
  go_enter Try.func16, Try.ntmps16
  go_wp2_with fail
  refine (fit_any 0 0 A 0 c [] w (HR.out _) (by unfold maxLen; omega)).mono ?_
  rintro e w1 ⟨rfl, hb1⟩
  rw [show fitB 0 0 [] = true from rfl]
  go_wp2_with fail
  refine (covered_any 0 A 0 c [] w1 (HR.out _) (by omega)).mono ?_
  rintro e w2 ⟨l', hp, hs, rfl, hb2⟩
  have hl' : l' = [] := List.perm_nil.1 hp
  rw [hl', show covB 0 [] = true from rfl]
  clear hp hs hl'
  have hb3 := hb1.trans (hb2.mono hb1.size)
  go_wp2_with fail
  refine (newSide_any 0 0 (by omega) (by omega) w2).mono ?_
  rintro e w3 ⟨b1, rfl, hs1⟩
  obtain ⟨B1, rfl, hA, ⟨la, lb, lc, ld⟩, hk1⟩ := sd_new hs1
  clear hs1
  go_wp2_with fail
  refine (newSide_any 0 0 (by omega) (by omega) w3).mono ?_
  rintro e w4 ⟨b2, rfl, hs2⟩
  obtain ⟨B2, rfl, hB, _, hk2⟩ := sd_new hs2
  clear hs2
  have hA4 := hA.old hk2
  have hkk : Kept w w4 [] := (Kept.of_below hb3 []).trans (hk1.trans hk2)
  have hbw : Below w.heap.size w w4 := ⟨hkk.os, hkk.tape, hkk.output, hkk.size, fun i hi => hkk.block i hi (by simp)⟩
  have HCL := Lib.hid (clusters_any B1 0 0 sd0 (by omega) (ok0 0 0) w4 hA4)
  have HB := Lib.hid hbw
  clear hA hB hA4 hk1 hk2 hkk hbw
  go_wp2_with fail
  refine wp_loop_rounds 1 ?_
  rw [rounds_succ]
  go_wp2_with fail
  refine HCL.out.mono ?_
  rintro e w5 ⟨v, rfl, hown, hb5⟩
  have hb6 := HB.out.trans (hb5.mono HB.out.size)
  go_wp2_with fail
  exact bodyPost_ret (v := .tuple #[v, .int .i64 0]) (by simp [results, go_sem]) rfl ⟨v, rfl, own_base hown HB.out.size, hb6⟩
end Go.Proofs.Ytnmefomipldalaa
