/- The project's Size of a span. -/
import Derived.Test.YtaiefneimjdmhaaSpD
import Derived.Test.YtaiefneimjdmhaaSpRightP
namespace Go.Proofs.Ytaiefneimjdmhaa
open Go.RowKit
theorem prSizeS_any (lo hi : Int) (w : World) (hf : Fit hi) :
    Calls Try.prog 44 #[.agg #[.int .i64 lo, .int .i64 hi]] w fun e w' => e = .returned (.int .i64 (sizeS (lo, hi))) ∧ Below w.heap.size w w' := by
  obtain ⟨f0, f1⟩ := hf
  cases h : rightB (lo, hi) with
  | true =>
    have h' := of_decide_eq_true h
    obtain ⟨h1, h2⟩ := h'
    simp only at h1 h2
    have HS := Lib.hid (show sizeS (lo, hi) = hi - lo from if_pos h)
    go_enter Try.func44, Try.ntmps44
    go_wp2_with fail
    refine (prRight_any lo hi _).mono ?_
    rintro e w1 ⟨rfl, hb⟩
    have hb1 := below_self (below_new w _) hb
    have c0 : w1.cell? ⟨w.heap.size, 0, none⟩ = some (.int .i64 lo) := cell_below hb (by rw [World.cell?_alloc_at _ _ _ _ rfl]; rfl)
    have c1 : w1.cell? ⟨w.heap.size, 1, none⟩ = some (.int .i64 hi) := cell_below hb (by rw [World.cell?_alloc_at _ _ _ _ rfl]; rfl)
    go_wp2
    go_ret
    exact ⟨retI HS.out.symm, hb1⟩
  | false =>
    have HS := Lib.hid (show sizeS (lo, hi) = 0 from if_neg (by rw [h]; decide))
    go_enter Try.func44, Try.ntmps44
    go_wp2_with fail
    refine (prRight_any lo hi _).mono ?_
    rintro e w1 ⟨rfl, hb⟩
    have hb1 := below_self (below_new w _) hb
    go_wp2
    go_ret
    exact ⟨retI HS.out.symm, hb1⟩
end Go.Proofs.Ytaiefneimjdmhaa
