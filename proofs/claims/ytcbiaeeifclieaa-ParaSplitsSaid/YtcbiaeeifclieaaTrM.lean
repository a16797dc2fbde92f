/- Blocks of a table as data: what cutting gives, what is kept while the table is laid. -/
import Derived.Test.YtcbiaeeifclieaaTrD
namespace Go.Proofs.Ytcbiaeeifclieaa
open Go.RowKit

theorem getG_below {l : List Rg} {y c : Int} (h : ∀ s ∈ l, c < s.1) : getG l y c = y := by
  induction l with
  | nil => rfl
  | cons s l ih =>
    have := h s (by simp)
    rw [getG, if_neg (by omega)]
    exact ih fun t ht => h t (by simp [ht])
theorem getG_behind {l : List Rg} {y c : Int} {s : Rg} (h : s.2.1 < c) : getG (s :: l) y c = getG l y c := by rw [getG, if_neg (by omega)]
/-- Ranges that rise. -/
def Srt (l : List Rg) : Prop := l.Pairwise (fun s t => s.2.1 < t.1) ∧ ∀ s ∈ l, s.1 ≤ s.2.1
theorem Srt.tail {s : Rg} {l : List Rg} (h : Srt (s :: l)) : Srt l := ⟨(List.pairwise_cons.1 h.1).2, fun t ht => h.2 t (by simp [ht])⟩
theorem srt_of_rise : ∀ {l : List Rg} {x : Int}, riseB x l = true → Srt l ∧ ∀ s ∈ l, x < s.1 ∧ s.2.1 ≤ 1114111
  | [], _, _ => ⟨⟨List.Pairwise.nil, by simp⟩, by simp⟩
  | s :: l, x, h => by
    by_cases hc : s.1 ≤ x ∨ s.2.1 < s.1 ∨ 1114111 < s.2.1
    · rw [riseB_no hc] at h; cases h
    · rw [riseB_yes hc] at h
      obtain ⟨⟨h1, h2⟩, h3⟩ := srt_of_rise h
      refine ⟨⟨List.pairwise_cons.2 ⟨fun t ht => (h3 t ht).1, h1⟩, ?_⟩, ?_⟩
      · intro t ht
        rcases List.mem_cons.1 ht with rfl | ht
        · omega
        · exact h2 t ht
      · intro t ht
        rcases List.mem_cons.1 ht with rfl | ht
        · omega
        · have := h3 t ht; omega
theorem cutB_one (lo : Int) : ∀ (l : List Rg) (b : List Int), Srt l → b.length = 128 → (cutB lo l b).1 = b.mapIdx (fun j y => getG l y (lo + j))
  | [], b, _, _ => by
    apply List.ext_getElem?
    intro j
    simp [cutB, getG, List.getElem?_mapIdx]
  | s :: l, b, h, hb => by
    have hlt : ∀ t ∈ l, s.2.1 < t.1 := (List.pairwise_cons.1 h.1).1
    have hs := h.2 s (by simp)
    by_cases h1 : s.1 ≤ lo + 127
    · by_cases h2 : lo + 127 < s.2.1
      · rw [cutB_over h1 h2]
        apply List.ext_getElem?
        intro j
        simp only [fillTB, List.getElem?_mapIdx]
        cases hj : b[j]? with
        | none => rfl
        | some y =>
          have hjl := (List.getElem?_eq_some_iff.1 hj).1
          simp only [Option.map_some, getG]
          by_cases hc : s.1 ≤ lo + j ∧ lo + j ≤ s.2.1
          · rw [if_pos hc, if_pos hc]
          · rw [if_neg hc, if_neg hc, getG_below (fun t ht => by have := hlt t ht; omega)]
      · rw [cutB_on h1 (by omega), cutB_one lo l _ h.tail (by rw [fillTB_len, hb])]
        apply List.ext_getElem?
        intro j
        simp only [fillTB, List.getElem?_mapIdx]
        cases hj : b[j]? with
        | none => rfl
        | some y =>
          simp only [Option.map_some, getG]
          by_cases hc : s.1 ≤ lo + j ∧ lo + j ≤ s.2.1
          · rw [if_pos hc, if_pos hc, getG_below (fun t ht => by have := hlt t ht; omega)]
          · rw [if_neg hc, if_neg hc]
    · rw [cutB_far (by omega)]
      apply List.ext_getElem?
      intro j
      simp only [List.getElem?_mapIdx]
      cases hj : b[j]? with
      | none => rfl
      | some y =>
        have hjl := (List.getElem?_eq_some_iff.1 hj).1
        simp only [Option.map_some]
        rw [getG_below (fun t ht => by
          rcases List.mem_cons.1 ht with rfl | ht
          · omega
          · have := hlt t ht; omega)]
theorem cutB_two (lo : Int) : ∀ (l : List Rg) (b : List Int), Srt l → Srt (cutB lo l b).2 ∧ (∀ s ∈ (cutB lo l b).2, lo + 127 < s.2.1) ∧ ∀ y c, lo + 128 ≤ c → getG l y c = getG (cutB lo l b).2 y c
  | [], b, _ => ⟨⟨List.Pairwise.nil, by simp [cutB]⟩, by simp [cutB], fun _ _ _ => rfl⟩
  | s :: l, b, h => by
    have hlt : ∀ t ∈ l, s.2.1 < t.1 := (List.pairwise_cons.1 h.1).1
    have hs := h.2 s (by simp)
    by_cases h1 : s.1 ≤ lo + 127
    · by_cases h2 : lo + 127 < s.2.1
      · rw [cutB_over h1 h2]
        refine ⟨h, fun t ht => ?_, fun _ _ _ => rfl⟩
        rcases List.mem_cons.1 ht with rfl | ht
        · exact h2
        · have := hlt t ht; have := h.2 t (by simp [ht]); omega
      · rw [cutB_on h1 (by omega)]
        obtain ⟨a1, a2, a3⟩ := cutB_two lo l (fillTB lo s b) h.tail
        exact ⟨a1, a2, fun y c hc => by rw [getG_behind (by omega)]; exact a3 y c hc⟩
    · rw [cutB_far (by omega)]
      refine ⟨h, fun t ht => ?_, fun _ _ _ => rfl⟩
      rcases List.mem_cons.1 ht with rfl | ht
      · omega
      · have := hlt t ht; have := h.2 t (by simp [ht]); omega

/-- The values of the codes of block j. -/
def blkAt (l : List Rg) (z : Int) (j : Nat) : List Int := (List.range 128).map fun (t : Nat) => getG l z (128 * (j : Int) + (t : Int))
theorem blkAt_len (l : List Rg) (z : Int) (j : Nat) : (blkAt l z j).length = 128 := by simp [blkAt]
theorem blkAt_at (l : List Rg) (z : Int) (j t : Nat) (ht : t < 128) : (blkAt l z j)[t]? = some (getG l z (128 * (j : Int) + (t : Int))) := by simp [blkAt, ht]
/-- What is left of the ranges when k blocks are cut. -/
def LeftOf (l0 : List Rg) (z : Int) (k : Nat) (l : List Rg) : Prop := Srt l ∧ ∀ c : Int, 128 * (k : Int) ≤ c → getG l0 z c = getG l z c
theorem left_cut {l0 l : List Rg} {z : Int} {k : Nat} (h : LeftOf l0 z k l) : (cutB (128 * (k : Int)) l (List.replicate 128 z)).1 = blkAt l0 z k ∧ LeftOf l0 z (k + 1) (cutB (128 * (k : Int)) l (List.replicate 128 z)).2 := by
  obtain ⟨h1, h2⟩ := h
  refine ⟨?_, ?_⟩
  · rw [cutB_one _ _ _ h1 (by simp)]
    apply List.ext_getElem?
    intro j
    simp only [List.getElem?_mapIdx, List.getElem?_replicate]
    by_cases hj : j < 128
    · rw [if_pos hj, blkAt_at _ _ _ _ hj]
      simp only [Option.map_some]
      rw [h2 _ (by omega)]
    · rw [if_neg hj, List.getElem?_eq_none (by rw [blkAt_len]; omega)]
      rfl
  · obtain ⟨a1, _, a3⟩ := cutB_two (128 * (k : Int)) l (List.replicate 128 z) h1
    exact ⟨a1, fun c hc => by rw [h2 c (by omega)]; exact a3 z c (by omega)⟩

/-- What is kept while the table is laid: k blocks are told, by their places 'wh' among the unlike ones 'bl'. -/
structure StInv (l0 : List Rg) (z : Int) (k : Nat) (bl : List (List Int)) (wh : List Nat) : Prop where
  len : wh.length = k
  at_ : ∀ j, j < k → ∃ q, wh[j]? = some q ∧ bl[q]? = some (blkAt l0 z j)
  nodup : bl.Nodup
  real : ∀ b ∈ bl, ∃ j, j < k ∧ b = blkAt l0 z j
  few : bl.length ≤ k
theorem StInv.start (l0 : List Rg) (z : Int) : StInv l0 z 0 [] [] := ⟨rfl, fun j h => absurd h (by omega), List.nodup_nil, by simp, Nat.le_refl _⟩
theorem StInv.old {l0 : List Rg} {z : Int} {k q : Nat} {bl : List (List Int)} {wh : List Nat} (h : StInv l0 z k bl wh) (hq : bl[q]? = some (blkAt l0 z k)) : StInv l0 z (k + 1) bl (wh ++ [q]) := by
  refine ⟨by simp [h.len], fun j hj => ?_, h.nodup, fun b hb => ?_, by have := h.few; omega⟩
  · by_cases hjk : j < k
    · obtain ⟨q', h1, h2⟩ := h.at_ j hjk
      exact ⟨q', by rw [List.getElem?_append_left (by rw [h.len]; exact hjk)]; exact h1, h2⟩
    · obtain rfl : j = k := by omega
      exact ⟨q, by rw [List.getElem?_append_right (by rw [h.len]; exact Nat.le_refl _), h.len, Nat.sub_self]; rfl, hq⟩
  · obtain ⟨j, h1, h2⟩ := h.real b hb
    exact ⟨j, by omega, h2⟩
theorem StInv.new_ {l0 : List Rg} {z : Int} {k : Nat} {bl : List (List Int)} {wh : List Nat} (h : StInv l0 z k bl wh) (hn : blkAt l0 z k ∉ bl) : StInv l0 z (k + 1) (bl ++ [blkAt l0 z k]) (wh ++ [bl.length]) := by
  refine ⟨by simp [h.len], fun j hj => ?_, ?_, fun b hb => ?_, by have := h.few; simp; omega⟩
  · by_cases hjk : j < k
    · obtain ⟨q', h1, h2⟩ := h.at_ j hjk
      exact ⟨q', by rw [List.getElem?_append_left (by rw [h.len]; exact hjk)]; exact h1, by rw [List.getElem?_append_left ((List.getElem?_eq_some_iff.1 h2).1)]; exact h2⟩
    · obtain rfl : j = k := by omega
      exact ⟨bl.length, by rw [List.getElem?_append_right (by rw [h.len]; exact Nat.le_refl _), h.len, Nat.sub_self]; rfl, by simp⟩
  · rw [List.nodup_append]
    exact ⟨h.nodup, by simp, fun a ha b hb => by simp at hb; subst hb; exact fun e => hn (e ▸ ha)⟩
  · rcases List.mem_append.1 hb with hb | hb
    · obtain ⟨j, h1, h2⟩ := h.real b hb
      exact ⟨j, by omega, h2⟩
    · simp at hb
      exact ⟨k, by omega, hb⟩
end Go.Proofs.Ytcbiaeeifclieaa
