/- Cut spans are parts. -/
import Derived.Test.YtdgomaoikeffhaaCutD
namespace Go.Proofs.Ytdgomaoikeffhaa
open Go.RowKit

theorem partsFrom_cut {lo hi : Int} {r : List Int} {l : List Sp} (h0 : 0 ≤ lo) (hlt : lo < hi) (h : cutFrom lo hi r = some l) : partsFrom lo l hi = true := by
  induction r generalizing lo l with
  | nil =>
    simp [cutFrom] at h
    subst h
    simp [partsFrom, rightB, h0, hlt]
  | cons a r ih =>
    unfold cutFrom at h
    split at h
    · cases h
    · rename_i hn
      obtain ⟨l', h', rfl⟩ := Option.map_eq_some_iff.1 h
      have := ih (lo := a) (by omega) (by omega) h'
      unfold partsFrom
      simp only [rightB]
      rw [this]
      simp; omega
end Go.Proofs.Ytdgomaoikeffhaa
