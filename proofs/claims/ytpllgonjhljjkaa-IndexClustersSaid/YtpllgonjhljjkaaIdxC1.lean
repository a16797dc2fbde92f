/- The reference's Clusters of an index: units, and Clusters. -/
import Derived.Test.YtpllgonjhljjkaaIdxCM
import Derived.Test.YtpllgonjhljjkaaIdxR2
import Derived.Test.YtpllgonjhljjkaaCheckR
import Derived.Test.YtpllgonjhljjkaaClD
namespace Go.Proofs.Ytpllgonjhljjkaa
open Go.RowKit

set_option maxRecDepth 100000 in
set_option maxHeartbeats 2000000 in
theorem refUnitsOf_any (b : Nat) (l : List Int) (w : World) (lo hi : Nat) (hg : Good l) (h : IdrAt w b l) (h1 : lo < hi) (h2 : hi ≤ l.length) :
    Calls Try.prog 54 #[.pointer (some ⟨b, 0, none⟩), .agg #[.int .i64 lo, .int .i64 hi]] w fun e w' => e = .returned (.agg #[.int .i64 (pre l lo), .int .i64 (pre l hi)]) ∧ Below w.heap.size w w' := by
  have hlen := good_len hg
  have HG := Lib.hid hg
  have hb0 : Below w.heap.size w ((w.alloc (.cells #[.int .i64 lo, .int .i64 hi] 35)).alloc (.cells #[.int .i64 0, .int .i64 0] 35)) := (below_new _ _).alloc (by simp) _
  have HI := Lib.hid (h.below hb0)
  have hm : hi - 1 + 1 = hi := by omega
  have HM := Lib.hid hm
  have hi1 : ((hi : Int) - 1) = ((hi - 1 : Nat) : Int) := by omega
  have HI1 := Lib.hid hi1
  clear hg h hm hi1
  have c0 : ((w.alloc (.cells #[.int .i64 lo, .int .i64 hi] 35)).alloc (.cells #[.int .i64 0, .int .i64 0] 35)).cell? ⟨w.heap.size, 0, none⟩ = some (.int .i64 lo) := by go_simp
  have c1 : ((w.alloc (.cells #[.int .i64 lo, .int .i64 hi] 35)).alloc (.cells #[.int .i64 0, .int .i64 0] 35)).cell? ⟨w.heap.size, 1, none⟩ = some (.int .i64 hi) := by go_simp
  have HK := Lib.hid (show SpanBlk ((w.alloc (.cells #[.int .i64 lo, .int .i64 hi] 35)).alloc (.cells #[.int .i64 0, .int .i64 0] 35)) (w.heap.size + 1) (0, 0) by
    have := SpanBlk.new_ (w.alloc (.cells #[.int .i64 lo, .int .i64 hi] 35)) 0 0 35
    simpa using this)
  go_enter Try.func54, Try.ntmps54
  go_wp2_with fail
  generalize ((w.alloc (.cells #[.int .i64 lo, .int .i64 hi] 35)).alloc (.cells #[.int .i64 0, .int .i64 0] 35)) = w0 at *
  refine (refSpanX_in b l w0 lo HG.out HI.out (by omega)).mono ?_
  rintro e w1 ⟨rfl, hb⟩
  have hb1 := below_self hb0 hb
  have hbn := below_self hb (below_new w1 (.cells #[.int .i64 (pre l lo), .int .i64 (pre l (lo + 1))] 35))
  have hb2 := below_self hb0 hbn
  replace c1 := cell_below hbn c1
  have d0 : (w1.alloc (.cells #[.int .i64 (pre l lo), .int .i64 (pre l (lo + 1))] 35)).cell? ⟨w1.heap.size, 0, none⟩ = some (.int .i64 (pre l lo)) := by rw [World.cell?_alloc_at _ _ _ _ rfl]; rfl
  have HI2 := Lib.hid (HI.out.below hbn)
  have HK2 := Lib.hid (HK.out.below hbn)
  clear hb hbn hb1 hb0 c0 HI HK
  go_wp2_with fail
  rw [HI1.out]
  refine (refSpanX_in b l _ (hi - 1) HG.out HI2.out (by omega)).mono ?_
  rintro e w3 ⟨rfl, hb⟩
  rw [HM.out]
  have hbn := below_self hb (below_new w3 (.cells #[.int .i64 (pre l (hi - 1)), .int .i64 (pre l hi)] 35))
  have hb3 := below_self hb2 hbn
  replace d0 := cell_below hbn d0
  have d1 : (w3.alloc (.cells #[.int .i64 (pre l (hi - 1)), .int .i64 (pre l hi)] 35)).cell? ⟨w3.heap.size, 1, none⟩ = some (.int .i64 (pre l hi)) := by rw [World.cell?_alloc_at _ _ _ _ rfl]; rfl
  obtain ⟨t0, t1, t2, t3⟩ := HK2.out.below hbn
  simp only at t0 t1
  have HP := Lib.hid (SpanBlk.put (s := (0, 0)) ⟨t0, t1, t2, t3⟩ (pre l lo) (pre l hi))
  have hbe := (hb3.setCell (p := ⟨w.heap.size + 1, 0, none⟩) (by simp) (.int .i64 (pre l lo))).setCell (p := ⟨w.heap.size + 1, 1, none⟩) (by simp) (.int .i64 (pre l hi))
  clear hb hbn hb2 HI2 HK2
  go_wp2
  generalize (((w3.alloc (.cells #[.int .i64 (pre l (hi - 1)), .int .i64 (pre l hi)] 35)).setCell ⟨w.heap.size + 1, 0, none⟩ (.int .i64 (pre l lo))).setCell ⟨w.heap.size + 1, 1, none⟩ (.int .i64 (pre l hi))) = w5 at *
  obtain ⟨u0, u1, _, _⟩ := HP.out
  simp only at u0 u1
  exact bodyPost_ret (v := .agg #[.int .i64 (pre l lo), .int .i64 (pre l hi)]) (by simp [results, Try.results54, go_sem, u0, u1]) rfl ⟨rfl, hbe⟩
end Go.Proofs.Ytpllgonjhljjkaa
