/- Texts of one claim, one behind the other. -/
import Derived.Test.YtbnjflkafdkcpaaMgAo2
import Derived.Test.YtbnjflkafdkcpaaMgAo6
/- slices.Reverse at []int, of a middle part of a row of the call's own. -/
namespace Go.Proofs.Ytbnjflkafdkcpaa
open Go.RowKit Go.Shelf

theorem mapBlock_grownI (w : World) (g : Nat) (f : Array Value → Array Value) (q : Nat) : w.grownBy (Sort.mapBlock (Sort.ahead w q) g f) (some g) :=
  ⟨rfl, rfl, rfl, by simp [Sort.mapBlock, Sort.ahead], fun i _ hne => by
    show (w.heap.modify g _)[i]? = _
    rw [Array.getElem?_modify, if_neg (fun e => hne (by rw [e]))]⟩
theorem revMI_any {base g n cap p L cm : Nat} {out : List Int} {w : World} (hown : w.ownsRow base 3 1 (.slice (some ⟨g, 0, none⟩) n cap) n (out.map (Value.int .i64))) (hp : p + L ≤ n) (hn : n < 4611686018427387904) :
    Calls Try.prog 28 #[.slice (some ⟨g, p, none⟩) L cm] w fun e w' => e = .returned (.tuple #[]) ∧ w'.ownsRow base 3 1 (.slice (some ⟨g, 0, none⟩) n cap) n ((revM out p L).map (Value.int .i64)) ∧ w.grownBy w' (some g) := by
  have hall : out.length = n := by simpa using hown.1
  obtain ⟨d, hd⟩ : ∃ d, (out.drop p).take L = d := ⟨_, rfl⟩
  have hdl : d.length = L := by rw [← hd]; simp; omega
  have hdat : ∀ k, k < L → d[k]? = out[p + k]? := fun k hk => by rw [← hd, List.getElem?_take, if_pos hk, List.getElem?_drop]
  have hH : Sort.Holds (Value.int .i64) w g p d.toArray := by
    intro j hj
    have hjL : j < L := by simpa [hdl] using hj
    have hjo : p + j < out.length := by omega
    have hc := hown.cellAt (p + j) (by omega)
    rw [List.getElem?_map, List.getElem?_eq_getElem hjo] at hc
    refine ⟨?_, hown.frozenAt (p + j)⟩
    rw [hc, getElem!_pos d.toArray j hj]
    have e := hdat j hjL
    rw [List.getElem?_eq_getElem hjo, List.getElem?_eq_getElem (by omega)] at e
    simp only [List.getElem_toArray, Option.map_some]
    rw [Option.some.inj e]
  have h := Any.slices_Reverse_int revI_lays g p cm d w hH (by omega)
  rw [hdl] at h
  refine Calls.mono h ?_
  rintro e w' ⟨he, q, rfl⟩
  refine ⟨he, ?_, mapBlock_grownI w g _ q⟩
  rcases hown.2 with ⟨h', _⟩ | ⟨g', cap', cur, h', hb, hg, hnc, hcm, hcs, htake⟩
  · simp at h'
  · simp only [Value.slice.injEq, Option.some.injEq, Addr.mk.injEq, and_true, true_and] at h'
    obtain ⟨rfl, rfl⟩ := h'
    have hrm : (revM out p L).length = n := by unfold revM; simp; omega
    refine ⟨by simpa using hrm, .inr ⟨g, cap, Sort.putCells (Value.int .i64) p d.reverse.toArray cur, rfl, hb, ?_, hnc, hcm, by simp [Sort.putCells, hcs], ?_⟩⟩
    · show (w.heap.modify g _)[g]? = _
      rw [Array.getElem?_modify, if_pos rfl, hg]
      first | done | rfl
    · apply List.ext_getElem?
      intro j
      by_cases hj : j < n
      · rw [List.getElem?_take, if_pos (by omega), Array.getElem?_toList]
        unfold Sort.putCells
        rw [Array.getElem?_mapIdx, Array.getElem?_eq_getElem (by omega), Option.map_some, List.getElem?_map, revM_at (by omega)]
        by_cases hm : p ≤ j ∧ j < p + L
        · rw [if_pos ⟨hm.1, by simp; omega⟩, if_pos hm]
          have hjo : p + (L - 1 - (j - p)) < out.length := by omega
          have hjr : j - p < d.reverse.toArray.size := by simp; omega
          rw [getElem!_pos d.reverse.toArray (j - p) hjr]
          have e : d.reverse[j - p]? = out[p + (L - 1 - (j - p))]? := by rw [List.getElem?_reverse (by omega), hdl, hdat _ (by omega)]
          rw [List.getElem?_eq_getElem hjo, List.getElem?_eq_getElem (by simp; omega)] at e
          rw [List.getElem?_eq_getElem hjo, List.getElem_toArray, Option.some.inj e]
          rfl
        · rw [if_neg (by simp; omega), if_neg hm]
          have h5 : (cur.toList.take (n * 1))[j]? = (out.map (Value.int .i64))[j]? := by rw [htake]
          rw [List.getElem?_map, List.getElem?_take, if_pos (by omega), Array.getElem?_toList, Array.getElem?_eq_getElem (by omega)] at h5
          exact h5
      · rw [List.getElem?_eq_none (by simp; omega), List.getElem?_eq_none (by simp; omega)]
end Go.Proofs.Ytbnjflkafdkcpaa
