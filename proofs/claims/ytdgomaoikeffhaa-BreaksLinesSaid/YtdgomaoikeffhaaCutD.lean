/- Cut of a span, as plain mathematics; small words. -/
import Derived.Test.YtdgomaoikeffhaaPartsD
import Derived.Test.YtdgomaoikeffhaaSpBlk
import Derived.Test.YtdgomaoikeffhaaSpSlice
namespace Go.Proofs.Ytdgomaoikeffhaa
open Go.RowKit
theorem own_weak {w : World} {base base' : Nat} {e : TypeId} {size n : Nat} {v : Value} {xs : List Value} (h : w.ownsRow base e size v n xs) (hb : base' ≤ base) : w.ownsRow base' e size v n xs := by
  obtain ⟨h1, h2⟩ := h
  refine ⟨h1, ?_⟩
  rcases h2 with h2 | ⟨g, cap, cur, a, b, c⟩
  · exact .inl h2
  · exact .inr ⟨g, cap, cur, a, by omega, c⟩
theorem cellsS_snoc (l : List Sp) (s : Sp) : cellsS (l ++ [s]) = cellsS l ++ [.int .i64 s.1, .int .i64 s.2] := by simp [cellsS, encS]

/-- A span from lo to hi in parts, cut at what 'at' says; none where that does not rise within. -/
def cutFrom (lo hi : Int) : List Int → Option (List Sp)
  | [] => some [(lo, hi)]
  | a :: r => if a ≤ lo ∨ hi ≤ a then none else (cutFrom a hi r).map ((lo, a) :: ·)
/-- What Cut hands back. -/
def CutGives (w : World) (s : Sp) (at_ : List Int) (e : Ending) (w' : World) : Prop :=
  (rightB s = false ∧ e = .returned (.tuple #[.slice none 0 0, .int .i64 1]) ∧ Below w.heap.size w w') ∨
  (rightB s = true ∧ cutFrom s.1 s.2 at_ = none ∧ e = .returned (.tuple #[.slice none 0 0, .int .i64 10]) ∧ Below w.heap.size w w') ∨
  (rightB s = true ∧ ∃ l v, cutFrom s.1 s.2 at_ = some l ∧ e = .returned (.tuple #[v, .int .i64 0]) ∧ w'.ownsRow w.heap.size 24 2 v l.length (cellsS l) ∧ Below w.heap.size w w')
theorem cutFrom_len {lo hi : Int} {r : List Int} {l : List Sp} (h : cutFrom lo hi r = some l) : l.length = r.length + 1 := by
  induction r generalizing lo l with
  | nil => simp [cutFrom] at h; subst h; rfl
  | cons a r ih =>
    unfold cutFrom at h
    split at h
    · cases h
    · obtain ⟨l', h', rfl⟩ := Option.map_eq_some_iff.1 h
      simp [ih h']
end Go.Proofs.Ytdgomaoikeffhaa
