/- Strong of a Props. -/
import Derived.Test.YtanngknhbgcobaaPpKc
namespace Go.Proofs.Ytanngknhbgcobaa
open Go.RowKit

theorem ppStrong_gen (p : Value) (c v : Int) (w : World) (h : Tells w p c v) : Calls Try.prog 17 #[p, .int .i64 c] w fun e w' => e = .returned (.bool (decide (v ∈ [0, 1, 2]))) ∧ Below w.heap.size w w' := by
  obtain ⟨u, hu⟩ : ∃ u, decide (v ∈ ([0, 1, 2] : List Int)) = u := ⟨_, rfl⟩
  have h0 := (ppOf_gen p c v [0, 1, 2] (some ⟨w.heap.size, 0, none⟩) 3 3 _ (rdNewI w [0, 1, 2] 3) (by omega) (h _ (below_new _ _)))
  rw [hu] at h0 ⊢
  have H := Lib.hid h0
  clear h0 hu
  go_enter Try.func17, Try.ntmps17
  go_wp2_with fail
  refine H.out.mono ?_
  rintro e w2 ⟨rfl, hb⟩
  have hb2 := below_self (below_new w _) hb
  go_wp2
  go_ret
  exact ⟨rfl, hb2⟩
end Go.Proofs.Ytanngknhbgcobaa
