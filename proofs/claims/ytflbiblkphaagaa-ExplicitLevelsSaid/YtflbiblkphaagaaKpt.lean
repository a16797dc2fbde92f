/- What writes to some blocks alone leaves: rows, what lies below. -/
import Derived.Test.YtflbiblkphaagaaKp
namespace Go.Proofs.Ytflbiblkphaagaa
open Go.RowKit

theorem own_kept {w w' : World} {base : Nat} {e : TypeId} {size n : Nat} {v : Value} {xs : List Value} {S : List Nat} (h : w.ownsRow base e size v n xs) (hk : Kept w w' S) (hs : ∀ x ∈ S, x < base) : w'.ownsRow base e size v n xs :=
  ⟨h.1, h.2.imp id fun ⟨g, cap, cur, e1, hb, hg, r⟩ => ⟨g, cap, cur, e1, hb, hk.heap hg (fun hm => by have := hs g hm; omega), r⟩⟩
theorem own_keptG {w w' : World} {base : Nat} {e : TypeId} {size n g c : Nat} {xs : List Value} {S : List Nat} (h : w.ownsRow base e size (.slice (some ⟨g, 0, none⟩) n c) n xs) (hk : Kept w w' S) (hs : g ∉ S) : w'.ownsRow base e size (.slice (some ⟨g, 0, none⟩) n c) n xs := by
  refine ⟨h.1, h.2.imp id fun ⟨g', cap, cur, e1, hb, hg, r⟩ => ⟨g', cap, cur, e1, hb, hk.heap hg (fun hm => ?_), r⟩⟩
  simp only [Value.slice.injEq, Option.some.injEq, Addr.mk.injEq, and_true] at e1
  obtain ⟨rfl, _⟩ := e1
  exact hs hm
theorem Kept.lower {a b w : World} {S : List Nat} {B : Nat} (h : Kept a b S) (hb : Below B w a) (hB : B ≤ a.heap.size) (hs : ∀ x ∈ S, B ≤ x) : Below B w b :=
  ⟨h.os.trans hb.os, h.tape.trans hb.tape, h.output.trans hb.output, Nat.le_trans hb.size h.size, fun k hk => (h.block k (Nat.lt_of_lt_of_le hk hB) (fun hm => by have := hs k hm; omega)).trans (hb.block k hk)⟩
theorem Kept.belowE {w b : World} (h : Kept w b []) : Below w.heap.size w b := h.lower (Below.refl _ _) (Nat.le_refl _) (by simp)
theorem Kept.moreS {a b : World} {S T : List Nat} (h : Kept a b S) (hs : ∀ x ∈ S, x ∈ T) : Kept a b T := ⟨h.os, h.tape, h.output, h.size, fun i hi hn => h.block i hi (fun hm => hn (hs i hm))⟩
/-- Writes to new blocks are no writes. -/
theorem Kept.less {a b : World} {S T : List Nat} (h : Kept a b S) (hs : ∀ x ∈ S, x ∈ T ∨ a.heap.size ≤ x) : Kept a b T := ⟨h.os, h.tape, h.output, h.size, fun i hi hn => h.block i hi (fun hm => by
  rcases hs i hm with h' | h'
  · exact hn h'
  · omega)⟩
end Go.Proofs.Ytflbiblkphaagaa
