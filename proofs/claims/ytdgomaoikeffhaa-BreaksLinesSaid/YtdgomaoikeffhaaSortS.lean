/- slices.SortFunc at spans, by their Lo: the row of the call's own holds a permutation, sorted. -/
import Derived.Test.YtdgomaoikeffhaaSortRow
import Derived.Test.YtdgomaoikeffhaaLaySort
import Derived.Test.YtdgomaoikeffhaaCmpI
import Derived.Test.YtdgomaoikeffhaaLoM
namespace Go.Proofs.Ytdgomaoikeffhaa
open Go.RowKit Go.Shelf

def cmpLo (a b : Sp) : Int := cmpI a.1 b.1
theorem cmpI_lt (x y : Int) : decide (cmpI x y < 0) = decide (x < y) := by
  unfold cmpI
  split
  · rename_i h; simp [h]
  · rename_i h
    split <;> simp [h]
theorem ltLo (a b : Sp) : ltOf cmpLo a b = decide (a.1 < b.1) := cmpI_lt _ _
theorem swoLo : Sort.SWO (ltOf cmpLo) where
  irrefl x := by simp [ltLo]
  trans x y z h1 h2 := by simp [ltLo] at *; omega
  ntrans x y z h1 h2 := by simp [ltLo] at *; omega
theorem perm_of_in {d d' : Array Sp} (h : Sort.PermIn 0 d.size d d') : d'.toList.Perm d.toList ∧ d'.size = d.size := by
  obtain ⟨h1, _, h3⟩ := h
  have e1 : d'.extract 0 d.size = d' := by rw [← h1, Array.extract_size]
  have e2 : d.extract 0 d.size = d := Array.extract_size
  rw [e1, e2] at h3
  exact ⟨h3, h1⟩
theorem sorted_of_in {d : Array Sp} {n : Nat} (hn : d.size = n) (h : Sort.SortedIn (ltOf cmpLo) 0 n d) : LoSorted d.toList := by
  subst hn
  unfold LoSorted
  rw [List.pairwise_iff_getElem]
  intro i j hi hj hij
  have := h i j (Nat.zero_le _) hij (by simpa using hj)
  rw [ltLo, getElem!_pos d i (by simpa using hi), getElem!_pos d j (by simpa using hj)] at this
  have := of_decide_eq_false this
  simp only [Array.getElem_toList]
  omega
/-- What a comparison handed to the sort owes: of any two spans it tells how their Lo stand, in any world; it may lay blocks. -/
def CmpLoAt (g : FuncId) : Prop := ∀ (x y : Sp) (w : World), Calls Try.prog g #[.agg #[.int .i64 x.1, .int .i64 x.2], .agg #[.int .i64 y.1, .int .i64 y.2]] w fun e w' => e = .returned (.int .i64 (cmpLo x y)) ∧ ∃ os, w' = Sort.grow w os

theorem sortS_any (f : FuncId) (eg : ∀ args w, (callFunc f args).run Try.prog w = .ok (.enter f args) w) (hf : CmpLoAt f) {base g n cap : Nat} {l : List Sp} {w : World} (hown : w.ownsRow base 24 2 (.slice (some ⟨g, 0, none⟩) n cap) n (cellsS l)) (hn : n < 4611686018427387904) :
    Calls Try.prog 50 #[.slice (some ⟨g, 0, none⟩) n cap, .func (.func f) #[] #[]] w fun e w' => e = .returned (.tuple #[]) ∧ ∃ l', List.Perm l' l ∧ LoSorted l' ∧ w'.ownsRow base 24 2 (.slice (some ⟨g, 0, none⟩) n cap) n (cellsS l') ∧ w.grownBy w' (some g) := by
  have hl : l.length = n := by have := hown.1; rw [cellsS_len] at this; omega
  have hd : l.toArray.size = n := by simpa using hl
  have hH := holds_of_own (enc := encS) (k := 2) (fun _ => rfl) l.toArray hd hown
  have hlt := (hown.lt g rfl).2
  have hsize : (l.toArray : Array Sp).size < 4611686018427387904 := by omega
  have hcmp : CmpLays Try.prog f #[] encS 2 cmpLo g 0 l.toArray.size w := by
    intro m os dk _ x y
    refine (hf x y _).mono fun e w' ⟨he, os', hw⟩ => ⟨he, 0, os', hw⟩
  have h := AnyQ.slices_SortFunc sortS_lays 2 Try.isAgg24 Try.sizeOf24 encS (fun _ => rfl) (fun x v hv => by
    simp [encS] at hv
    rcases hv with rfl | rfl <;> rfl) cmpLo swoLo f #[] g 0 cap l.toArray w eg hcmp hH hlt hsize
  rw [hd] at h
  refine Calls.mono h ?_
  rintro e w' ⟨he, d', m, os, hp, hs, rfl⟩
  have hp' := perm_of_in (d := l.toArray) (d' := d') (by rw [hd]; exact hp)
  have hd' : d'.size = n := by omega
  obtain ⟨ho, hgr⟩ := own_of_sorted (enc := encS) (k := 2) (fun _ => rfl) hown m d' os hd'
  exact ⟨he, d'.toList, by simpa using hp'.1, sorted_of_in hd' hs, ho, hgr⟩
end Go.Proofs.Ytdgomaoikeffhaa
