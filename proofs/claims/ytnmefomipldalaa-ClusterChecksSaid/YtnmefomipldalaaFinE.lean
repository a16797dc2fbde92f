/- The finest map: what fills the places that no link has; sides without links. No program in this text. -/
import Derived.Test.YtnmefomipldalaaFinC
namespace Go.Proofs.Ytnmefomipldalaa

open Classical in
/-- What joins a place that no link has to the one ahead of it. -/
noncomputable def fillAt (K : List NC) (i : Nat) : Option NC := if i = 0 ∨ ∃ y ∈ K, y.a ≤ i ∧ i < y.b then none else some ⟨i - 1, i + 1, 0, 0⟩
open Classical in
/-- What joins those ahead of all links to the first one. -/
noncomputable def fillAhead (K : List NC) : List NC := if h : ∃ f, FirstOf K f ∧ 0 < f then [⟨0, Classical.choose h + 1, 0, 0⟩] else []
noncomputable def fillsOf (n : Nat) (K : List NC) : List NC := (List.range n).filterMap (fillAt K) ++ fillAhead K
theorem FirstOf.only {L : List NC} {f g : Nat} (h : FirstOf L f) (k : FirstOf L g) : f = g := by
  obtain ⟨⟨y, hy, hr, e⟩, h2⟩ := h
  obtain ⟨⟨z, hz, hzr, e'⟩, k2⟩ := k
  have h3 := h2 z hz hzr
  have h4 := k2 y hy hr
  omega
theorem ahead_mem {K : List NC} {x : NC} (hx : x ∈ fillAhead K) : ∃ f, FirstOf K f ∧ x = ⟨0, f + 1, 0, 0⟩ := by
  unfold fillAhead at hx
  split at hx
  · rename_i h
    exact ⟨_, (Classical.choose_spec h).1, List.mem_singleton.1 hx⟩
  · exact absurd hx (by simp)
theorem fills_of {n m : Nat} {K : List NC} (hK : ∀ x ∈ K, x.real ∧ x.b ≤ n ∧ x.d ≤ m) : Fills n (K ++ fillsOf n K) ∧ ∀ x ∈ K ++ fillsOf n K, x.real → x ∈ K := by
  have hfill : ∀ x ∈ fillsOf n K, (∃ i, i < n ∧ 0 < i ∧ (∀ y ∈ K, ¬(y.a ≤ i ∧ i < y.b)) ∧ x = ⟨i - 1, i + 1, 0, 0⟩) ∨ ∃ f, FirstOf K f ∧ x = ⟨0, f + 1, 0, 0⟩ := fun x hx => by
    rcases List.mem_append.1 hx with hx | hx
    · obtain ⟨i, hi, hf⟩ := List.mem_filterMap.1 hx
      unfold fillAt at hf
      split at hf
      · exact absurd hf (by simp)
      · rename_i hno
        injection hf with hf
        exact .inl ⟨i, by simpa using hi, Nat.pos_of_ne_zero (fun h => hno (.inl h)), fun y hy hh => hno (.inr ⟨y, hy, hh⟩), hf.symm⟩
    · exact .inr (ahead_mem hx)
  have hreal : ∀ x ∈ K ++ fillsOf n K, x.real → x ∈ K := fun x hx hr => by
    rcases List.mem_append.1 hx with hx | hx
    · exact hx
    · exfalso
      rcases hfill x hx with ⟨i, _, _, _, rfl⟩ | ⟨f, _, rfl⟩
      · exact absurd hr.2 (Nat.lt_irrefl 0)
      · exact absurd hr.2 (Nat.lt_irrefl 0)
  have hfirst : ∀ f, FirstOf K f ↔ FirstOf (K ++ fillsOf n K) f := fun f => by
    constructor
    · rintro ⟨⟨y, hy, hr, e⟩, h2⟩
      exact ⟨⟨y, List.mem_append_left _ hy, hr, e⟩, fun z hz hzr => h2 z (hreal z hz hzr) hzr⟩
    · rintro ⟨⟨y, hy, hr, e⟩, h2⟩
      exact ⟨⟨y, hreal y hy hr, hr, e⟩, fun z hz hzr => h2 z (List.mem_append_left _ hz) hzr⟩
  refine ⟨⟨fun x hx hr => ?_, fun i hi h0 hno => ?_, fun f hf h0 => ?_⟩, hreal⟩
  · rcases List.mem_append.1 hx with hx | hx
    · exact absurd (hK x hx).1 hr
    · rcases hfill x hx with ⟨i, h1, h2, h3, h4⟩ | ⟨f, h1, h2⟩
      · exact .inl ⟨i, h1, h2, fun y hy hyr => h3 y (hreal y hy hyr), h4⟩
      · refine .inr ⟨f, ?_, (hfirst f).1 h1, h2⟩
        obtain ⟨⟨y, hy, hyr, e⟩, _⟩ := h1
        have h5 := (hK y hy).2.1
        have h6 := hyr.1
        omega
  · refine List.mem_append_right _ (List.mem_append_left _ (List.mem_filterMap.2 ⟨i, by simpa using hi, ?_⟩))
    unfold fillAt
    rw [if_neg]
    rintro (h | ⟨y, hy, h⟩)
    · omega
    · exact hno y (List.mem_append_left _ hy) (hK y hy).1 h
  · have hfk := (hfirst f).2 hf
    refine List.mem_append_right _ (List.mem_append_right _ ?_)
    unfold fillAhead
    have hex : ∃ f, FirstOf K f ∧ 0 < f := ⟨f, hfk, h0⟩
    rw [dif_pos hex]
    have e := (Classical.choose_spec hex).1.only hfk
    rw [e]
    exact List.mem_singleton_self _
/-- A side of which nothing is linked. -/
def sd0 : Sd := ⟨id, (· + 1), fun _ => none⟩
theorem ok0 (n m : Nat) : Ok n m sd0 := ⟨Part.start n, ⟨fun _ _ h => by simp [sd0] at h, fun _ _ h => by simp [sd0] at h⟩, fun _ _ h => by simp [sd0] at h⟩
theorem both0 (n m : Nat) : Both n m sd0 sd0 := ⟨ok0 n m, ok0 m n, fun _ _ h => by simp [sd0] at h, fun _ _ h => by simp [sd0] at h⟩
theorem sound0 (L : List NC) (s : Bool) (n : Nat) : Sound L s n sd0 := ⟨fun i _ => .refl _, fun _ _ _ h => by simp [sd0] at h, fun _ _ _ h => by simp [sd0] at h, fun _ _ _ => rfl⟩
/-- The finest map of the links. -/
theorem finest_end {K : List NC} {n m : Nat} {A B : Sd} (hK : ∀ x ∈ K, x.real ∧ x.b ≤ n ∧ x.d ≤ m) (hne : K ≠ []) (hb : Both n m A B) (hs : Sound (K ++ fillsOf n K) false n A) (hl : ∀ x ∈ K, Lies A x.a x.b x.c x.d) : Finest (K ++ fillsOf n K) 0 n m (clusL A.M n) := by
  obtain ⟨hf, hr⟩ := fills_of hK
  refine finest_of hb hs (fun x hx hxr => hl x (hr x hx hxr)) hf ?_
  obtain ⟨y, l, e⟩ := List.exists_cons_of_ne_nil hne
  obtain ⟨k, u, v, h, _⟩ := hl y (by rw [e]; exact List.mem_cons_self ..)
  exact ⟨k, _, h⟩
end Go.Proofs.Ytnmefomipldalaa
