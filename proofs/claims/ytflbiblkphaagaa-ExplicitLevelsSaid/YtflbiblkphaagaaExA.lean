/- naskhlaw22.awake, walked. -/
import Derived.Test.YtflbiblkphaagaaExP4
import Derived.Test.YtflbiblkphaagaaEq
namespace Go.Proofs.Ytflbiblkphaagaa
open Go.RowKit

theorem awkE_base : baseL 0 = 0 := by decide
theorem awkE_lv : lvL [17, 0, 18, 0] 0 4 = [0, 1, 1, 0] := by decide +kernel
theorem awkE_cl : clL [17, 0, 18, 0] 0 4 = [9, 1, 9, 0] := by decide +kernel
theorem awkE_left : leftC 14 = true := by decide
theorem rdNewE (w : World) (l : List Int) (t : TypeId) : Rd (w.alloc (.cells (l.map (Value.int .i64)).toArray t)) 1 (some ⟨w.heap.size, 0, none⟩) l.length (l.map (Value.int .i64)) := by
  have := Rd.new_ w (l.map (Value.int .i64)) t
  rwa [List.length_map] at this
set_option maxRecDepth 100000 in
set_option maxHeartbeats 2000000 in
theorem awakeEx_any (w : World) : Calls Try.prog 28 #[] w fun e w' => e = .returned (.bool true) ∧ Below w.heap.size w w' := by
  obtain ⟨xs, hxs⟩ : ∃ xs : List Int, xs = [17, 0, 18, 0] := ⟨_, rfl⟩
  obtain ⟨ys, hys⟩ : ∃ ys : List Int, ys = [0, 1, 1, 0] := ⟨_, rfl⟩
  obtain ⟨zs, hzs⟩ : ∃ zs : List Int, zs = [9, 1, 9, 0] := ⟨_, rfl⟩
  have H1 := Lib.hid awkE_lv
  have H2 := Lib.hid awkE_cl
  have H3 := Lib.hid (fun W => exLeft_any 14 W)
  rw [awkE_left] at H3
  rw [← hxs] at H1 H2
  rw [← hys] at H1
  rw [← hzs] at H2
  have hr0 := rdNewE w [17, 0, 18, 0] 3
  have hb0 := below_new w (.cells #[.int .i64 17, .int .i64 0, .int .i64 18, .int .i64 0] 3)
  have hnw : ∀ W : World, Rd (W.alloc (.cells #[.int .i64 0, .int .i64 1, .int .i64 1, .int .i64 0] 3)) 1 (some ⟨W.heap.size, 0, none⟩) 4 (ys.map (Value.int .i64)) := fun W => by
    rw [hys]; exact rdNewE W [0, 1, 1, 0] 3
  have hnz : ∀ W : World, Rd (W.alloc (.cells #[.int .i64 9, .int .i64 1, .int .i64 9, .int .i64 0] 3)) 1 (some ⟨W.heap.size, 0, none⟩) 4 (zs.map (Value.int .i64)) := fun W => by
    rw [hzs]; exact rdNewE W [9, 1, 9, 0] 3
  have HNW := Lib.hid hnw
  have HNZ := Lib.hid hnz
  have HR0 : Hid (Rd (w.alloc (.cells #[.int .i64 17, .int .i64 0, .int .i64 18, .int .i64 0] 3)) 1 (some ⟨w.heap.size, 0, none⟩) 4 (xs.map (Value.int .i64))) := Lib.hid (by rw [hxs]; exact hr0)
  have HB0 := Lib.hid hb0
  clear hnw hnz hr0 hb0 hxs hys hzs
  go_enter Try.func28, Try.ntmps28
  go_wp2_with fail
  refine (exLevels_any _ 4 4 xs 0 _ HR0.out (by omega) (by omega)).mono ?_
  rintro e w1 ⟨⟨ga, gb, rfl, hra, hrb⟩, hb1⟩
  rw [awkE_base, H1.out] at hra
  rw [awkE_base, H2.out] at hrb
  have HRA := Lib.hid hra
  have HRB := Lib.hid hrb
  have HB1 := Lib.hid (below_self HB0.out hb1)
  clear hra hrb hb1
  go_wp2_with fail
  refine (equalInt_b _ _ 4 4 _ 4 ys ys _ (HRA.out.alloc _) (HNW.out w1) (by unfold maxLen; omega) (by unfold maxLen; omega)).mono ?_
  rintro e w2 ⟨rfl, hb2⟩
  rw [decide_eq_true rfl]
  have HB2 := Lib.hid (below_self HB1.out (below_self (below_new w1 _) hb2))
  have HRB2 := Lib.hid (HRB.out.below (below_self (below_new w1 _) hb2))
  clear hb2
  go_wp2_with fail
  refine (equalInt_b _ _ 4 4 _ 4 zs zs _ (HRB2.out.alloc _) (HNZ.out w2) (by unfold maxLen; omega) (by unfold maxLen; omega)).mono ?_
  rintro e w3 ⟨rfl, hb3⟩
  rw [decide_eq_true rfl]
  have HB3 := Lib.hid (below_self HB2.out (below_self (below_new w2 _) hb3))
  clear hb3
  go_wp2_with fail
  refine (H3.out _).mono ?_
  rintro e w4 ⟨rfl, rfl⟩
  go_wp2
  go_ret
  exact ⟨rfl, HB3.out⟩
end Go.Proofs.Ytflbiblkphaagaa
