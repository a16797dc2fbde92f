/- Layer 3's awake. -/
import Derived.Test.YthhjcdnhlpjfnaaCutP
import Derived.Test.YthhjcdnhlpjfnaaPartsP
import Derived.Test.YthhjcdnhlpjfnaaSpHasP
import Derived.Test.YthhjcdnhlpjfnaaSpSizeP
namespace Go.Proofs.Ythhjcdnhlpjfnaa
open Go.RowKit
/-- A row of spans of the call's own, not empty: where it lies, and its cells. -/
theorem ownS_form {w : World} {base n : Nat} {v : Value} {l : List Sp} (h : w.ownsRow base 27 2 v n (cellsS l)) (hn : 0 < n) :
    ∃ g c, v = .slice (some ⟨g, 0, none⟩) n c ∧ g < w.heap.size ∧ base ≤ g ∧ ∀ (k : Nat) (s : Sp), l[k]? = some s → w.cell? ⟨g, k * 2, none⟩ = some (.int .i64 s.1) ∧ w.cell? ⟨g, k * 2 + 1, none⟩ = some (.int .i64 s.2) := by
  obtain ⟨g, c, hv, _, hlt⟩ := h.form hn
  subst hv
  refine ⟨g, c, rfl, hlt, (h.lt g rfl).1, fun k s hk => ?_⟩
  obtain ⟨e1, e2⟩ := cellsS_at hk
  have hc := h.cells (g := g) rfl
  have a1 := hc _ _ e1
  have a2 := hc _ _ e2
  rw [addNew] at a1 a2
  exact ⟨a1, a2⟩

set_option maxRecDepth 100000 in
set_option maxHeartbeats 2000000 in
theorem awakeS_any (w : World) : Calls Try.prog 11 #[] w fun e w' => e = .returned (.bool true) ∧ Below w.heap.size w w' := by
  go_enter Try.func11, Try.ntmps11
  go_wp2_with fail
  refine (prCut_any 0 5 (some ⟨w.heap.size, 0, none⟩) 2 2 [2, 3] _ (Rd.new_ w [.int .i64 2, .int .i64 3] _) (by omega)).mono ?_
  rintro e w1 h
  rcases h with ⟨h, _⟩ | ⟨_, h, _⟩ | ⟨_, l, v, hl, rfl, hown, hb⟩
  · exact absurd h (by decide)
  · exact absurd h (by decide)
  · have hl' : [(0, 2), (2, 3), (3, 5)] = l := by
      have : cutFrom 0 5 [2, 3] = some [(0, 2), (2, 3), (3, 5)] := by decide
      exact Option.some.inj (this.symm.trans hl)
    subst hl'
    clear hl
    have hb1 := below_self (below_new _ _) hb
    obtain ⟨g, c, rfl, hg, _, hc⟩ := ownS_form hown (by decide)
    obtain ⟨a1, a2⟩ := hc 1 (2, 3) rfl
    obtain ⟨a3, a4⟩ := hc 2 (3, 5) rfl
    have hrd := Rd.of_own hown
    simp only at a1 a2 a3 a4
    have hp : partsS [(0, 2), (2, 3), (3, 5)] 5 = true := by decide
    have hh : hasB (2, 3) 2 = true := by decide
    have hz : sizeS (3, 5) = 2 := by decide
    clear hown hb hc
    simp only [List.length_cons, List.length_nil, Nat.zero_add, Nat.reduceAdd] at hrd
    go_wp2_with fail
    refine (prParts_any (some ⟨g, 0, none⟩) 3 c [(0, 2), (2, 3), (3, 5)] 5 _ hrd (by unfold maxLen; omega)).mono ?_
    rintro e w2 ⟨rfl, hb⟩
    rw [hp]
    have hb2 := below_self hb1 hb
    replace a1 := cell_below hb a1
    replace a2 := cell_below hb a2
    replace a3 := cell_below hb a3
    replace a4 := cell_below hb a4
    clear hb
    go_wp2_with fail
    refine (prHas_any 2 3 2 _).mono ?_
    rintro e w3 ⟨rfl, hb⟩
    rw [hh]
    have hb3 := below_self hb2 hb
    replace a3 := cell_below hb a3
    replace a4 := cell_below hb a4
    clear hb
    go_wp2_with fail
    refine (prSizeS_any 3 5 _ (by unfold Fit; omega)).mono ?_
    rintro e w4 ⟨rfl, hb⟩
    rw [hz]
    have hb4 := below_self hb3 hb
    go_wp2
    go_ret
    exact ⟨rfl, hb4⟩
end Go.Proofs.Ythhjcdnhlpjfnaa
