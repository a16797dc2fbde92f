/- A row of the call's own, handed to the sort's contracts and taken back: no function of the program. -/
import Derived.Test.YtdgomaoikeffhaaSpBlk
import Derived.Test.YtdgomaoikeffhaaOpenI
import Derived.Test.YtdgomaoikeffhaaMem2
import Derived.Shelf.SlSortCmp.NoneTotal
namespace Go.Proofs.Ytdgomaoikeffhaa
open Go.RowKit Go.Shelf

section
variable {α : Type} [Inhabited α] {enc : α → List Value} {k : Nat}
theorem flatK_get (hk : ∀ x, (enc x).length = k) (d : Array α) {j : Nat} {u : Value} (h : (d.toList.flatMap enc)[j]? = some u) : (Sort.flatK enc k d)[j]! = u := by
  obtain ⟨i, c, s, rfl, hc, hi, hu⟩ := flatMap_at enc k hk h
  have hil : i < d.size := by simpa using (List.getElem?_eq_some_iff.1 hi).1
  have hlt : i * k + c < d.size * k := by
    have := Nat.mul_le_mul_right k (show i + 1 ≤ d.size from hil)
    rw [Nat.add_mul, Nat.one_mul] at this
    omega
  have k0 : 0 < k := by omega
  have e1 : (i * k + c) / k = i := by
    rw [Nat.mul_comm, Nat.mul_add_div k0, Nat.div_eq_of_lt hc, Nat.add_zero]
  have e2 : (i * k + c) % k = c := by
    rw [Nat.mul_comm, Nat.mul_add_mod, Nat.mod_eq_of_lt hc]
  rw [Sort.get_flatK _ _ _ _ hlt, e1, e2]
  have hs : d[i]! = s := by
    rw [getElem!_pos d i hil]
    have := (List.getElem?_eq_some_iff.1 hi).2
    simpa using this
  rw [hs]
  have hcl : c < (enc s).length := by rw [hk]; exact hc
  rw [getElem!_pos _ c hcl]
  exact (List.getElem?_eq_some_iff.1 hu).2
theorem flatK_list (hk : ∀ x, (enc x).length = k) (d : Array α) : (Sort.flatK enc k d).toList = d.toList.flatMap enc := by
  apply List.ext_getElem?
  intro j
  by_cases h : j < d.size * k
  · have hl : j < (d.toList.flatMap enc).length := by rw [flatMap_len enc k hk]; simpa using h
    have := flatK_get hk d (List.getElem?_eq_getElem hl)
    rw [List.getElem?_eq_getElem hl, ← this, getElem!_pos _ j (by simpa using h)]
    rw [List.getElem?_eq_getElem (by simpa using h)]
    simp
  · rw [List.getElem?_eq_none (by simpa using h), List.getElem?_eq_none (by rw [flatMap_len enc k hk]; simpa using h)]
theorem holds_of_own (hk : ∀ x, (enc x).length = k) {w : World} {base : Nat} {e : TypeId} {g n cap : Nat} (d : Array α) (hd : d.size = n) (h : w.ownsRow base e k (.slice (some ⟨g, 0, none⟩) n cap) n (d.toList.flatMap enc)) : Sort.HoldsK enc k w g 0 d := by
  intro j hj
  rw [Sort.size_flatK, hd] at hj
  have hl : j < (d.toList.flatMap enc).length := by rw [flatMap_len enc k hk]; simpa [hd] using hj
  have hc := h.cellAt j hj
  rw [List.getElem?_eq_getElem hl] at hc
  refine ⟨?_, by rw [Nat.zero_add]; exact h.frozenAt j⟩
  rw [Nat.zero_add, hc, flatK_get hk d (List.getElem?_eq_getElem hl)]
  rfl
theorem grow_grown (w : World) (os : Array Obj) (row : Option Nat) : w.grownBy (Sort.grow w os) row :=
  ⟨rfl, rfl, rfl, by simp, fun i hi _ => by show (w.heap ++ os)[i]? = _; rw [Array.getElem?_append_left hi]⟩
theorem mapBlock_grown (w : World) (g : Nat) (f : Array Value → Array Value) : w.grownBy (Sort.mapBlock w g f) (some g) :=
  ⟨rfl, rfl, rfl, by simp [Sort.mapBlock], fun i _ hne => by
    show (w.heap.modify g _)[i]? = _
    rw [Array.getElem?_modify, if_neg (fun e => hne (by rw [e]))]⟩
theorem grown_trans {a b c : World} {row : Option Nat} (h : a.grownBy b row) (h' : b.grownBy c row) : a.grownBy c row :=
  ⟨h'.os.trans h.os, h'.tape.trans h.tape, h'.output.trans h.output, Nat.le_trans h.size h'.size, fun i hi hne => (h'.block i (Nat.lt_of_lt_of_le hi h.size) hne).trans (h.block i hi hne)⟩
/-- The row behind the sort: the call's own still, with the new elements. -/
theorem own_of_sorted (hk : ∀ x, (enc x).length = k) {w : World} {base : Nat} {e : TypeId} {g n cap : Nat} {xs : List Value} (h : w.ownsRow base e k (.slice (some ⟨g, 0, none⟩) n cap) n xs) (m : Nat) (dk : Array α) (os : Array Obj) (hd : dk.size = n) :
    (sortWorldK enc k w g 0 m dk os).ownsRow base e k (.slice (some ⟨g, 0, none⟩) n cap) n (dk.toList.flatMap enc) ∧ w.grownBy (sortWorldK enc k w g 0 m dk os) (some g) := by
  have hg1 : w.grownBy (Sort.ahead w m) (some g) := ⟨rfl, rfl, rfl, Nat.le_refl _, fun _ _ _ => rfl⟩
  have hg2 := grown_trans hg1 (mapBlock_grown (Sort.ahead w m) g (Sort.putCells id 0 (Sort.flatK enc k dk)))
  have hg3 := grown_trans hg2 (grow_grown (Sort.putRowK enc k (Sort.ahead w m) g 0 dk) os (some g))
  refine ⟨?_, hg3⟩
  rcases h.2 with ⟨h', _⟩ | ⟨g', cap', cur, h', hb, hg, hnc, hcm, hcs, htake⟩
  · simp at h'
  · simp only [Value.slice.injEq, Option.some.injEq, Addr.mk.injEq, and_true, true_and] at h'
    obtain ⟨rfl, rfl⟩ := h'
    have hlt := (Array.getElem?_eq_some_iff.1 hg).1
    refine ⟨by rw [flatMap_len enc k hk]; simp [hd], .inr ⟨g, cap, Sort.putCells id 0 (Sort.flatK enc k dk) cur, rfl, hb, ?_, hnc, hcm, by simp [Sort.putCells, hcs], ?_⟩⟩
    · show ((Sort.putRowK enc k (Sort.ahead w m) g 0 dk).heap ++ os)[g]? = _
      rw [Array.getElem?_append_left (by show g < (w.heap.modify g _).size; simpa using hlt)]
      show (w.heap.modify g _)[g]? = _
      rw [Array.getElem?_modify, if_pos rfl, hg]
      first | done | rfl
    · apply List.ext_getElem?
      intro j
      have hle : n * k ≤ cur.size := by rw [hcs]; exact Nat.mul_le_mul_right k hnc
      by_cases hj : j < n * k
      · have hl : j < (dk.toList.flatMap enc).length := by rw [flatMap_len enc k hk]; simpa [hd] using hj
        rw [List.getElem?_take, if_pos hj, Array.getElem?_toList]
        rw [List.getElem?_eq_getElem hl]
        unfold Sort.putCells
        rw [Array.getElem?_mapIdx, Array.getElem?_eq_getElem (by omega), Option.map_some, if_pos ⟨Nat.zero_le _, by rw [Sort.size_flatK, hd]; omega⟩, Nat.sub_zero, flatK_get hk dk (List.getElem?_eq_getElem hl)]
        rfl
      · rw [List.getElem?_eq_none (by simp; omega), List.getElem?_eq_none (by rw [flatMap_len enc k hk]; simp [hd]; omega)]
end
end Go.Proofs.Ytdgomaoikeffhaa
