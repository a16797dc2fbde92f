/- slices.Reverse at spans, of the end of a row of the call's own. -/
import Derived.Test.YtdgomaoikeffhaaRevS
namespace Go.Proofs.Ytdgomaoikeffhaa
open Go.RowKit Go.Shelf

theorem revO_any {base g n m cap : Nat} {l d : List Sp} {w : World} (hown : w.ownsRow base 24 2 (.slice (some ⟨g, 0, none⟩) n cap) n (cellsS (l ++ d))) (hl : l.length = m) (hn : n < 4611686018427387904) :
    Calls Try.prog 44 #[.slice (some ⟨g, m * 2, none⟩) (n - m) (cap - m)] w fun e w' => e = .returned (.tuple #[]) ∧ w'.ownsRow base 24 2 (.slice (some ⟨g, 0, none⟩) n cap) n (cellsS (l ++ d.reverse)) ∧ w.grownBy w' (some g) := by
  have hall : (l ++ d).length = n := by have := hown.1; rw [cellsS_len] at this; omega
  have hdl : d.toArray.size = n - m := by rw [List.length_append] at hall; simp; omega
  have hall2 : (l ++ d).toArray.size = n := by simpa using hall
  have hH0 := holds_of_own (enc := encS) (k := 2) (fun _ => rfl) (l ++ d).toArray hall2 hown
  have hH : Sort.HoldsK encS 2 w g (m * 2) d.toArray := by
    intro j hj
    rw [Sort.size_flatK, hdl] at hj
    have h1 := hH0 (m * 2 + j) (by rw [Sort.size_flatK, hall2]; omega)
    rw [Nat.zero_add] at h1
    refine ⟨?_, h1.2⟩
    rw [h1.1]
    have hj2 : j < (cellsS d).length := by rw [cellsS_len]; simp at hdl; omega
    have e1 : (cellsS (l ++ d))[m * 2 + j]? = some (cellsS d)[j] := by
      have : cellsS (l ++ d) = cellsS l ++ cellsS d := by simp [cellsS]
      rw [this, List.getElem?_append_right (by rw [cellsS_len]; omega), cellsS_len, hl, show m * 2 + j - m * 2 = j by omega, List.getElem?_eq_getElem hj2]
    have e2 : (cellsS d)[j]? = some (cellsS d)[j] := List.getElem?_eq_getElem hj2
    rw [flatK_get (enc := encS) (k := 2) (fun _ => rfl) (l ++ d).toArray (u := (cellsS d)[j]) e1, flatK_get (enc := encS) (k := 2) (fun _ => rfl) d.toArray (u := (cellsS d)[j]) e2]
  have h := AnyQ.slices_Reverse revS_lays 2 Try.isAgg24 Try.sizeOf24 encS (fun _ => rfl) (fun x v hv => by
    simp [encS] at hv
    rcases hv with rfl | rfl <;> rfl) g (m * 2) (cap - m) d.toArray w hH (by omega)
  rw [hdl] at h
  refine Calls.mono h ?_
  rintro e w' ⟨he, q, rfl⟩
  have hg1 : w.grownBy (Sort.ahead w q) (some g) := ⟨rfl, rfl, rfl, Nat.le_refl _, fun _ _ _ => rfl⟩
  have hg2 := grown_trans hg1 (mapBlock_grown (Sort.ahead w q) g (Sort.putCells id (m * 2) (Sort.flatK encS 2 d.toArray.reverse)))
  refine ⟨he, ?_, hg2⟩
  rcases hown.2 with ⟨h', _⟩ | ⟨g', cap', cur, h', hb, hg, hnc, hcm, hcs, htake⟩
  · simp at h'
  · simp only [Value.slice.injEq, Option.some.injEq, Addr.mk.injEq, and_true, true_and] at h'
    obtain ⟨rfl, rfl⟩ := h'
    have hrl : (d.toArray.reverse).size = n - m := by simpa using hdl
    refine ⟨by rw [cellsS_len]; simp at hall ⊢; omega, .inr ⟨g, cap, Sort.putCells id (m * 2) (Sort.flatK encS 2 d.toArray.reverse) cur, rfl, hb, ?_, hnc, hcm, by simp [Sort.putCells, hcs], ?_⟩⟩
    · show (w.heap.modify g _)[g]? = _
      rw [Array.getElem?_modify, if_pos rfl, hg]
      first | done | rfl
    · apply List.ext_getElem?
      intro j
      have hle : n * 2 ≤ cur.size := by rw [hcs]; exact Nat.mul_le_mul_right 2 hnc
      have hspl : cellsS (l ++ d.reverse) = cellsS l ++ cellsS d.reverse := by simp [cellsS]
      have hspl0 : cellsS (l ++ d) = cellsS l ++ cellsS d := by simp [cellsS]
      have hmn : m ≤ n := by rw [List.length_append] at hall; omega
      rw [hspl]
      by_cases hj : j < n * 2
      · rw [List.getElem?_take, if_pos hj, Array.getElem?_toList]
        unfold Sort.putCells
        rw [Array.getElem?_mapIdx, Array.getElem?_eq_getElem (by omega), Option.map_some]
        by_cases hm : m * 2 ≤ j
        · rw [if_pos ⟨hm, by rw [Sort.size_flatK, hrl]; omega⟩, List.getElem?_append_right (by rw [cellsS_len]; omega), cellsS_len, hl]
          have hj2 : j - m * 2 < (cellsS d.reverse).length := by rw [cellsS_len, List.length_reverse]; simp at hdl; omega
          have e2 : (cellsS d.reverse)[j - m * 2]? = some (cellsS d.reverse)[j - m * 2] := List.getElem?_eq_getElem hj2
          rw [e2, flatK_get (enc := encS) (k := 2) (fun _ => rfl) d.toArray.reverse (u := (cellsS d.reverse)[j - m * 2]) (by rw [Array.toList_reverse]; exact e2)]
          rfl
        · rw [if_neg (by omega), List.getElem?_append_left (by rw [cellsS_len]; omega)]
          have h5 : (cur.toList.take (n * 2))[j]? = (cellsS (l ++ d))[j]? := by rw [htake]
          rw [hspl0, List.getElem?_append_left (by rw [cellsS_len]; omega), List.getElem?_take, if_pos hj] at h5
          rw [← h5, Array.getElem?_toList, Array.getElem?_eq_getElem (by omega)]
      · rw [List.getElem?_eq_none (by simp; omega), List.getElem?_eq_none (by
          rw [← hspl, cellsS_len]
          simp at hall ⊢
          omega)]
end Go.Proofs.Ytdgomaoikeffhaa
