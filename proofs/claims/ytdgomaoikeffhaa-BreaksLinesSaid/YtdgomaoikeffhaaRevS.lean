/- slices.Reverse at spans, of a row of the call's own. -/
import Derived.Test.YtdgomaoikeffhaaSortRow
import Derived.Test.YtdgomaoikeffhaaLayRev
namespace Go.Proofs.Ytdgomaoikeffhaa
open Go.RowKit Go.Shelf

theorem revS_any {base g n cap : Nat} {l : List Sp} {w : World} (hown : w.ownsRow base 24 2 (.slice (some ⟨g, 0, none⟩) n cap) n (cellsS l)) (hn : n < 4611686018427387904) :
    Calls Try.prog 44 #[.slice (some ⟨g, 0, none⟩) n cap] w fun e w' => e = .returned (.tuple #[]) ∧ w'.ownsRow base 24 2 (.slice (some ⟨g, 0, none⟩) n cap) n (cellsS l.reverse) ∧ w.grownBy w' (some g) := by
  have hl : l.length = n := by have := hown.1; rw [cellsS_len] at this; omega
  have hd : l.toArray.size = n := by simpa using hl
  have hH := holds_of_own (enc := encS) (k := 2) (fun _ => rfl) l.toArray hd hown
  have h := AnyQ.slices_Reverse revS_lays 2 Try.isAgg24 Try.sizeOf24 encS (fun _ => rfl) (fun x v hv => by
    simp [encS] at hv
    rcases hv with rfl | rfl <;> rfl) g 0 cap l.toArray w hH (by omega)
  rw [hd] at h
  refine Calls.mono h ?_
  rintro e w' ⟨he, m, rfl⟩
  have hd' : (l.toArray.reverse).size = n := by simpa using hl
  obtain ⟨ho, hgr⟩ := own_of_sorted (enc := encS) (k := 2) (fun _ => rfl) hown m l.toArray.reverse #[] hd'
  have he2 : sortWorldK encS 2 w g 0 m l.toArray.reverse #[] = Sort.putRowK encS 2 (Sort.ahead w m) g 0 l.toArray.reverse := Sort.grow_empty _
  rw [he2] at ho hgr
  exact ⟨he, by simpa [cellsS] using ho, hgr⟩
theorem revNoneS (cap : Nat) (w : World) : Calls Try.prog 44 #[.slice none 0 cap] w fun e w' => e = .returned (.tuple #[]) ∧ w' = w :=
  AnyQ.slices_Reverse_empty revS_lays none cap w
end Go.Proofs.Ytdgomaoikeffhaa
