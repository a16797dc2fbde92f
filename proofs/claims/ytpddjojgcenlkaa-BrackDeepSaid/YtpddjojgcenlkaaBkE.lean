/- Pairs of brackets: their places are of the class that was asked. No function of the program. -/
import Derived.Test.YtpddjojgcenlkaaBkD
namespace Go.Proofs.Ytpddjojgcenlkaa
open Go.RowKit

theorem bk_on (on : Nat → Bool) (kd : Nat → Int) (mt : Nat → Nat → Bool) : ∀ k, (∀ o ∈ (bkA on kd mt k).st, on o = true) ∧ ∀ p ∈ (bkA on kd mt k).out, on p.1 = true ∧ on p.2 = true
  | 0 => ⟨by simp [bkA], by simp [bkA]⟩
  | k + 1 => by
    obtain ⟨h1, h2⟩ := bk_on on kd mt k
    rw [bkA]
    generalize bkA on kd mt k = s at h1 h2
    unfold bkStep
    split
    · exact ⟨h1, h2⟩
    · rename_i hc
      have hk : on k = true := by
        cases h : on k with
        | true => rfl
        | false => exact absurd (.inr (.inl h)) hc
      split
      · split
        · exact ⟨h1, h2⟩
        · refine ⟨fun o ho => ?_, h2⟩
          rcases List.mem_cons.1 ho with rfl | ho
          · exact hk
          · exact h1 o ho
      · split
        · exact ⟨h1, h2⟩
        · rename_i o st hpop
          obtain ⟨_, pre, hst⟩ := popTo_some hpop
          refine ⟨fun x hx => h1 x (by rw [hst]; simp [hx]), fun p hp => ?_⟩
          rcases mem_insP.1 hp with rfl | hp
          · exact ⟨h1 o (by rw [hst]; simp), hk⟩
          · exact h2 p hp
end Go.Proofs.Ytpddjojgcenlkaa
