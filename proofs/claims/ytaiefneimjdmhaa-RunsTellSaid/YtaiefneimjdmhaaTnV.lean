/- Rows put together from within are the order in which places, and runs, are seen. No function of the program. -/
import Derived.Test.YtaiefneimjdmhaaTnM2
import Derived.Test.YtaiefneimjdmhaaRuO
namespace Go.Proofs.Ytaiefneimjdmhaa
open Go.RowKit

theorem tnAll_snoc {α : Type} (lv : α → Nat) (x : α) : ∀ (l : List α) (R : List (TnR α)), tnAll lv (l ++ [x]) R = tnPut ⟨lv x, [x]⟩ (tnAll lv l R)
  | [], R => rfl
  | y :: l, R => by
    rw [List.cons_append, tnAll, tnAll]
    exact tnAll_snoc lv x l _
theorem tnPop_perm {v : Nat} : ∀ (t : TnR Nat) (R : List (TnR Nat)), ((tnPop v t R).flatMap (·.seq)).Perm ((t :: R).flatMap (·.seq))
  | t, [] => by
    rw [tnPop]
    split <;> exact .refl _
  | t, u :: R => by
    rw [tnPop]
    split
    · split
      · exact (tnPop_perm (u.join t) R).trans (tn_join_perm u t R)
      · exact .refl _
    · exact .refl _
theorem tnPop_len {v : Nat} : ∀ (t : TnR Nat) (R : List (TnR Nat)), (tnPop v t R).length ≤ (t :: R).length
  | t, [] => by rw [tnPop]; split <;> simp
  | t, u :: R => by
    rw [tnPop]
    split
    · split
      · have := tnPop_len (v := v) (u.join t) R
        simp only [List.length_cons] at this ⊢
        omega
      · simp
    · simp
theorem tnTop_perm (r : TnR Nat) (R : List (TnR Nat)) : ((tnTop r R).flatMap (·.seq)).Perm ((r :: R).flatMap (·.seq)) := by
  cases R with
  | nil => exact .refl _
  | cons u R =>
    rw [tnTop]
    split
    · exact tn_join_perm u r R
    · exact .refl _
theorem tnTop_len (r : TnR Nat) (R : List (TnR Nat)) : (tnTop r R).length ≤ R.length + 1 := by
  cases R with
  | nil => simp [tnTop]
  | cons u R => rw [tnTop]; split <;> simp
theorem tnPut_perm (r : TnR Nat) (R : List (TnR Nat)) : ((tnPut r R).flatMap (·.seq)).Perm ((r :: R).flatMap (·.seq)) := by
  cases R with
  | nil => exact .refl _
  | cons t R =>
    rw [tnPut]
    refine (tnTop_perm _ _).trans ?_
    rw [List.flatMap_cons, List.flatMap_cons]
    exact List.Perm.append_left _ (tnPop_perm t R)
theorem tnPut_len (r : TnR Nat) (R : List (TnR Nat)) : (tnPut r R).length ≤ R.length + 1 := by
  cases R with
  | nil => simp [tnPut]
  | cons t R =>
    rw [tnPut]
    have h1 := tnTop_len r (tnPop r.lev t R)
    have h2 := tnPop_len (v := r.lev) t R
    omega
/-- The rows of the first k places. -/
def tnTo (lv : Nat → Nat) (k : Nat) : List (TnR Nat) := tnAll lv (List.range k) []
theorem tnTo_next (lv : Nat → Nat) (k : Nat) : tnTo lv (k + 1) = tnPut ⟨lv k, [k]⟩ (tnTo lv k) := by
  unfold tnTo
  rw [List.range_succ, tnAll_snoc]
theorem tnTo_len (lv : Nat → Nat) : ∀ k, (tnTo lv k).length ≤ k
  | 0 => Nat.le_refl _
  | k + 1 => by
    rw [tnTo_next]
    have := tnPut_len ⟨lv k, [k]⟩ (tnTo lv k)
    have := tnTo_len lv k
    omega
theorem tnTo_lt (lv : Nat → Nat) : ∀ k, ∀ x ∈ (tnTo lv k).flatMap (·.seq), x < k
  | 0, x, h => by cases h
  | k + 1, x, h => by
    rw [tnTo_next, (tnPut_perm _ _).mem_iff, List.flatMap_cons] at h
    rcases List.mem_append.1 h with h | h
    · simp at h; omega
    · have := tnTo_lt lv k x h; omega
theorem tnTo_end {lv : Nat → Nat} {n : Nat} (h : ∀ i, lv i ≤ 126) (hn : 0 < n) : ∃ t R, tnTo lv n = t :: R ∧ (tnEnd t R).seq = wnF lv 126 0 (List.range n) := by
  rcases tn_all (lv := lv) (k := List.range n) (fun x _ => h x) with ⟨h1, _⟩ | h1
  · have := congrArg List.length h1
    simp at this
    omega
  · exact h1
theorem wn_len {α : Type} (lv : α → Nat) (d v : Nat) (o : List α) : (wnF lv d v o).length = o.length := (wn_perm lv d v o).length_eq
/-- As which level a place counts. -/
def lvO (ls : List Int) (i : Nat) : Nat := (heldF (ls.getD i 0)).toNat
theorem lvO_le (ls : List Int) (i : Nat) : lvO ls i ≤ 126 := by unfold lvO heldF; omega
theorem heldF_in (x : Int) : 0 ≤ heldF x ∧ heldF x ≤ 126 := by unfold heldF; omega
theorem visA_pas {hs : List Int} {lv : Nat → Nat} {low : Nat} (hlv : ∀ i, hs.getD i 0 = (lv i : Int)) (hlow : ∀ v : Nat, oddB hs v = true ↔ low ≤ v) : ∀ (v : Nat) (o : List Nat), visA hs v o = pasF lv low v o
  | 0, _ => rfl
  | v + 1, o => by
    by_cases ho : low ≤ v + 1
    · rw [visA, pasF, if_pos ((hlow (v + 1)).2 ho), if_pos ho, visA_pas hlv hlow v]
      congr 1
      refine revR_congr2 fun x _ => ?_
      rw [hlv]
      by_cases h1 : v + 1 ≤ lv x
      · rw [decide_eq_true h1, decide_eq_true (by omega)]
      · rw [decide_eq_false h1, decide_eq_false (by omega)]
    · rw [pasF, if_neg ho, visA_stay]
      rw [Bool.eq_false_iff]
      exact fun h => ho ((hlow (v + 1)).1 h)
theorem vis_held (ls : List Int) : visF ls = visA (ls.map heldF) 126 (List.range ls.length) := by
  have h1 := vis_126 (ls := ls.map heldF) (fun x hx => by obtain ⟨y, _, rfl⟩ := List.mem_map.1 hx; exact heldF_in y)
  rw [List.length_map] at h1
  rw [← h1]
  unfold visF
  rw [List.map_map, List.length_map]
  rw [show (heldF ∘ heldF) = heldF by funext x; simp only [Function.comp]; unfold heldF; omega]
theorem low_of (hs : List Int) (h0 : ∀ x ∈ hs, 0 ≤ x) : LowOk hs (hs.foldl lowS 0) := by
  have := LowOk.fold hs [] 0 (.inl ⟨rfl, by simp⟩) h0
  rwa [List.nil_append] at this
theorem vis_tn (ls : List Int) : visF ls = wnF (lvO ls) 126 0 (List.range ls.length) := by
  rw [vis_held, wn_pas]
  obtain ⟨hs, hhs⟩ : ∃ hs, ls.map heldF = hs := ⟨_, rfl⟩
  rw [hhs]
  have hin : ∀ x ∈ hs, 0 ≤ x ∧ x ≤ 126 := fun x hx => by rw [← hhs] at hx; obtain ⟨y, _, rfl⟩ := List.mem_map.1 hx; exact heldF_in y
  have hlv : ∀ i, hs.getD i 0 = (lvO ls i : Int) := fun i => by
    unfold lvO
    have hz := heldF_in (ls.getD i 0)
    rw [Int.toNat_of_nonneg hz.1, ← hhs, List.getD_eq_getElem?_getD, List.getD_eq_getElem?_getD, List.getElem?_map]
    cases ls[i]? with
    | none => rfl
    | some x => rfl
  have hmem : ∀ i ∈ List.range ls.length, (lvO ls i : Int) ∈ hs := fun i hi => by
    rw [List.mem_range] at hi
    rw [← hlv i, List.getD_eq_getElem?_getD, List.getElem?_eq_getElem (by rw [← hhs, List.length_map]; exact hi)]
    exact List.getElem_mem _
  rcases low_of hs fun x hx => (hin x hx).1 with ⟨h0, hev⟩ | ⟨h0, h1, h2, h3⟩
  · rw [visA_stay, show (126 : Nat) = 2 * 63 from rfl, pas_even]
    · intro x hx _
      have := hev _ (hmem x hx)
      omega
    · rw [Bool.eq_false_iff]
      intro hc
      unfold oddB at hc
      rw [List.any_eq_true] at hc
      obtain ⟨x, hx, hd⟩ := hc
      exact hev x hx (of_decide_eq_true hd).1
  · obtain ⟨low, hlow⟩ : ∃ low : Nat, hs.foldl lowS 0 = (low : Int) := ⟨(hs.foldl lowS 0).toNat, by omega⟩
    rw [hlow] at h0 h1 h2 h3
    have hl126 := (hin _ h2).2
    rw [pas_low (lvO ls) (low := low) (by omega) 126 _ (by omega) (fun x hx hodd => by
      have := h3 _ (hmem x hx) (by omega)
      omega)]
    refine visA_pas hlv (fun v => ?_) 126 _
    unfold oddB
    rw [List.any_eq_true]
    constructor
    · rintro ⟨x, hx, hd⟩
      have hd := of_decide_eq_true hd
      have := h3 x hx hd.1
      omega
    · intro hv
      exact ⟨_, h2, decide_eq_true ⟨h1, by omega⟩⟩
/-! Runs. -/
def lvG (r : Rg) : Nat := (heldF r.2.2).toNat
theorem visGA_pas (low : Nat) : ∀ (v : Nat) (R : List Rg), visGA (low : Int) v R = pasF lvG low v R
  | 0, _ => rfl
  | v + 1, R => by
    by_cases ho : low ≤ v + 1
    · rw [visGA, pasF, if_pos (by omega), if_pos ho, visGA_pas low v]
      congr 1
      refine revR_congr2 fun x _ => ?_
      have := heldF_in x.2.2
      unfold lvG
      by_cases h1 : v + 1 ≤ (heldF x.2.2).toNat
      · rw [decide_eq_true h1, decide_eq_true (by omega)]
      · rw [decide_eq_false h1, decide_eq_false (by omega)]
    · rw [visGA, pasF, if_neg (by omega), if_neg ho]
theorem visG_tn (R : List Rg) : visG R = wnF lvG 126 0 R := by
  rw [wn_pas]
  have hl := low_of (R.map fun r => heldF r.2.2) (fun x hx => by obtain ⟨y, _, rfl⟩ := List.mem_map.1 hx; exact (heldF_in _).1)
  have he : (R.map fun r => heldF r.2.2).foldl lowS 0 = lowF R := rfl
  rw [he] at hl
  rcases hl with ⟨h0, hev⟩ | ⟨h0, h1, h2, h3⟩
  · rw [visG, if_neg (by omega), show (126 : Nat) = 2 * 63 from rfl, pas_even]
    intro x hx _
    have h4 := hev _ (List.mem_map.2 ⟨x, hx, rfl⟩)
    have := heldF_in x.2.2
    unfold lvG
    omega
  · obtain ⟨low, hlow⟩ : ∃ low : Nat, lowF R = (low : Int) := ⟨(lowF R).toNat, by omega⟩
    have h126 := (lowF_in R).2
    rw [visG, if_pos h0, hlow, visGA_pas]
    rw [hlow] at h0 h1 h2 h3 h126
    rw [pas_low lvG (low := low) (by omega) 126 _ (by omega) (fun x hx hodd => by
      have := heldF_in x.2.2
      unfold lvG at hodd ⊢
      have := h3 _ (List.mem_map.2 ⟨x, hx, rfl⟩) (by omega)
      omega)]
theorem revR_map2 {α β : Type} (f : α → β) (p : β → Bool) : ∀ l acc : List α, revR p (acc.map f) (l.map f) = (revR (fun x => p (f x)) acc l).map f
  | [], acc => rfl
  | x :: l, acc => by
    rw [List.map_cons, revR, revR]
    by_cases h : p (f x) = true
    · rw [if_pos h, if_pos h]
      exact revR_map2 f p l (x :: acc)
    · rw [if_neg h, if_neg h, List.map_append, List.map_cons]
      congr 2
      exact revR_map2 f p l []
theorem wn_map {α β : Type} (f : α → β) (lv : β → Nat) : ∀ (d v : Nat) (o : List α), wnF lv d v (o.map f) = (wnF (fun x => lv (f x)) d v o).map f
  | 0, _, _ => rfl
  | d + 1, v, o => by
    rw [wnF, wnF, wn_map f lv d (v + 1) o]
    exact revR_map2 f _ _ []
theorem range_getD {α : Type} (R : List α) (z : α) : (List.range R.length).map (fun i => R.getD i z) = R := by
  apply List.ext_getElem?
  intro i
  by_cases hi : i < R.length
  · rw [List.getElem?_map, List.getElem?_range hi, List.getElem?_eq_getElem hi]
    simp [List.getD_eq_getElem?_getD, hi]
  · rw [List.getElem?_eq_none (by simp; omega), List.getElem?_eq_none (by omega)]
/-- Runs as they are seen, by their numbers. -/
theorem visG_at (R : List Rg) (z : Rg) : visG R = (wnF (fun i => lvG (R.getD i z)) 126 0 (List.range R.length)).map fun i => R.getD i z := by
  rw [visG_tn]
  have := wn_map (fun i => R.getD i z) lvG 126 0 (List.range R.length)
  rw [range_getD] at this
  exact this
end Go.Proofs.Ytaiefneimjdmhaa
