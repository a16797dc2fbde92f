/- Orders as mathematics: parts turned round, level by level; what each place's inverse is. No function of the program. -/
import Derived.Test.YtbnjflkafdkcpaaMem
namespace Go.Proofs.Ytbnjflkafdkcpaa
open Go.RowKit

/-- Each longest part whose places are so, turned round: what stands ahead is kept, the last one first. -/
def revR {α : Type} (p : α → Bool) : List α → List α → List α
  | acc, [] => acc
  | acc, x :: l => if p x = true then revR p (x :: acc) l else acc ++ x :: revR p [] l
theorem revR_perm {α : Type} (p : α → Bool) : ∀ (l acc : List α), (revR p acc l).Perm (acc ++ l)
  | [], acc => by simp [revR]
  | x :: l, acc => by
    rw [revR]
    split
    · exact (revR_perm p l (x :: acc)).trans (by simpa using (List.perm_middle (a := x) (l₁ := acc) (l₂ := l)).symm)
    · exact List.Perm.append_left acc ((revR_perm p l []).cons x)
theorem revR_all {α : Type} {p : α → Bool} : ∀ (l acc : List α), (∀ x ∈ l, p x = true) → revR p acc l = l.reverse ++ acc
  | [], acc, _ => rfl
  | x :: l, acc, h => by
    rw [revR, if_pos (h x (by simp)), revR_all l (x :: acc) fun y hy => h y (by simp [hy])]
    simp
theorem revR_none {α : Type} {p : α → Bool} : ∀ (l : List α), (∀ x ∈ l, p x = false) → revR p [] l = l
  | [], _ => rfl
  | x :: l, h => by
    rw [revR, if_neg (by rw [h x (by simp)]; decide), revR_none l fun y hy => h y (by simp [hy])]
    rfl
def heldF (x : Int) : Int := min (max x 0) 126
/-- Whether an odd level is at most a level. -/
def oddB (ls : List Int) (v : Int) : Bool := ls.any fun x => decide (x % 2 = 1 ∧ x ≤ v)
def visA (ls : List Int) : Nat → List Nat → List Nat
  | 0, o => o
  | v + 1, o => visA ls v (if oddB ls ((v + 1 : Nat) : Int) = true then revR (fun i => decide (((v + 1 : Nat) : Int) ≤ ls.getD i 0)) [] o else o)
def mostF : List Int → Int
  | [] => 0
  | x :: l => max x (mostF l)
/-- In which order places are seen. -/
def visF (ls : List Int) : List Nat := visA (ls.map heldF) (mostF (ls.map heldF)).toNat (List.range ls.length)
theorem visA_perm (ls : List Int) : ∀ (v : Nat) (o : List Nat), (visA ls v o).Perm o
  | 0, o => .refl o
  | v + 1, o => by
    rw [visA]
    refine (visA_perm ls v _).trans ?_
    split
    · exact revR_perm _ o []
    · exact .refl o
theorem vis_perm (ls : List Int) : (visF ls).Perm (List.range ls.length) := visA_perm _ _ _
theorem vis_len (ls : List Int) : (visF ls).length = ls.length := by rw [(vis_perm ls).length_eq, List.length_range]
theorem visA_stay {ls : List Int} : ∀ (v : Nat) (o : List Nat), oddB ls v = false → visA ls v o = o
  | 0, o, _ => rfl
  | v + 1, o, h => by
    rw [visA, if_neg (by rw [h]; decide), visA_stay v o]
    rw [Bool.eq_false_iff] at h ⊢
    intro h2
    apply h
    unfold oddB at h2 ⊢
    rw [List.any_eq_true] at h2 ⊢
    obtain ⟨x, hx, hd⟩ := h2
    have hd := of_decide_eq_true hd
    exact ⟨x, hx, decide_eq_true ⟨hd.1, by omega⟩⟩
/-- Where no level is odd nothing is turned. -/
theorem vis_even {ls : List Int} (h : ∀ x ∈ ls, heldF x % 2 = 0) : visF ls = List.range ls.length := by
  unfold visF
  rw [visA_stay]
  rw [Bool.eq_false_iff]
  intro h2
  unfold oddB at h2
  rw [List.any_eq_true] at h2
  obtain ⟨x, hx, hd⟩ := h2
  have hd := of_decide_eq_true hd
  obtain ⟨y, hy, rfl⟩ := List.mem_map.1 hx
  have := h y hy
  omega
theorem most_same {v : Int} (hv : 0 ≤ v) : ∀ n : Nat, mostF (List.replicate (n + 1) v) = v
  | 0 => by simp [mostF]; omega
  | n + 1 => by
    rw [List.replicate_succ, mostF, most_same hv n]
    omega
/-- Where all are odd, and the same, all is turned. -/
theorem vis_odd {v : Int} (hv : v % 2 = 1) (h0 : 0 ≤ v) (h1 : v ≤ 126) (n : Nat) : visF (List.replicate n v) = (List.range n).reverse := by
  cases n with
  | zero => rfl
  | succ n =>
    have hh : (List.replicate (n + 1) v).map heldF = List.replicate (n + 1) v := by
      rw [List.map_replicate]
      congr 1
      unfold heldF
      omega
    unfold visF
    rw [hh, most_same h0, List.length_replicate]
    obtain ⟨k, hk⟩ : ∃ k : Nat, v.toNat = k + 1 := ⟨v.toNat - 1, by omega⟩
    have hkv : ((k + 1 : Nat) : Int) = v := by omega
    have ho : oddB (List.replicate (n + 1) v) ((k + 1 : Nat) : Int) = true := by
      unfold oddB
      rw [List.any_eq_true]
      exact ⟨v, by simp, decide_eq_true ⟨hv, by omega⟩⟩
    have hno : oddB (List.replicate (n + 1) v) (k : Int) = false := by
      rw [Bool.eq_false_iff]
      intro h2
      unfold oddB at h2
      rw [List.any_eq_true] at h2
      obtain ⟨x, hx, hd⟩ := h2
      have hd := of_decide_eq_true hd
      have := (List.mem_replicate.1 hx).2
      omega
    rw [hk, visA, if_pos ho, visA_stay _ _ hno, revR_all, List.append_nil]
    intro x hx
    rw [List.mem_range] at hx
    apply decide_eq_true
    rw [List.getD_eq_getElem?_getD, List.getElem?_replicate, if_pos hx]
    simp
    omega
/-- Where a place stands. -/
def posF (x : Nat) : List Nat → Nat
  | [] => 0
  | y :: l => if y = x then 0 else posF x l + 1
theorem posF_mem {x : Nat} : ∀ {o : List Nat}, x ∈ o → o[posF x o]? = some x
  | [], h => by cases h
  | y :: l, h => by
    rw [posF]
    by_cases hy : y = x
    · rw [if_pos hy, hy]; rfl
    · rw [if_neg hy, List.getElem?_cons_succ]
      exact posF_mem ((List.mem_cons.1 h).resolve_left fun e => hy e.symm)
theorem posF_at {x : Nat} : ∀ {o : List Nat} {i : Nat}, o.Nodup → o[i]? = some x → posF x o = i
  | [], _, _, h => by simp at h
  | y :: l, 0, _, h => by
    obtain rfl := Option.some.inj h
    rw [posF, if_pos rfl]
  | y :: l, i + 1, hn, h => by
    rw [List.nodup_cons] at hn
    rw [List.getElem?_cons_succ] at h
    have hxl := List.mem_of_getElem? h
    rw [posF, if_neg (fun e => hn.1 (by rw [e]; exact hxl)), posF_at hn.2 h]
def invF (o : List Nat) : List Nat := (List.range o.length).map fun i => posF i o
theorem invF_len (o : List Nat) : (invF o).length = o.length := by simp [invF]
section
variable {o : List Nat} {n : Nat} (h : o.Perm (List.range n))
include h
theorem perm_len : o.length = n := by rw [h.length_eq, List.length_range]
theorem perm_nodup : o.Nodup := h.nodup_iff.2 List.nodup_range
theorem perm_mem {x : Nat} : x ∈ o ↔ x < n := by rw [h.mem_iff, List.mem_range]
theorem inv_at {i x : Nat} (hi : o[i]? = some x) : (invF o)[x]? = some i := by
  have hx : x < o.length := by rw [perm_len h]; exact (perm_mem h).1 (List.mem_of_getElem? hi)
  unfold invF
  rw [List.getElem?_map, List.getElem?_range hx]
  simp only [Option.map_some]
  rw [posF_at (perm_nodup h) hi]
theorem at_inv {i x : Nat} (hi : (invF o)[i]? = some x) : o[x]? = some i := by
  have hl : i < o.length := by rw [← invF_len]; exact (List.getElem?_eq_some_iff.1 hi).1
  unfold invF at hi
  rw [List.getElem?_map, List.getElem?_range hl] at hi
  simp only [Option.map_some] at hi
  obtain rfl := Option.some.inj hi
  exact posF_mem ((perm_mem h).2 (by rw [← perm_len h]; exact hl))
theorem inv_perm : (invF o).Perm (List.range n) := by
  have hl := perm_len h
  have hnd : (invF o).Nodup := by
    unfold invF
    rw [List.Nodup, List.pairwise_map]
    refine List.Pairwise.imp_of_mem (fun {a b} ha hb hlt => ?_) (List.pairwise_lt_range (n := o.length))
    intro e
    rw [List.mem_range] at ha hb
    have e1 := posF_mem (o := o) ((perm_mem h).2 (show a < n by omega))
    have e2 := posF_mem (o := o) ((perm_mem h).2 (show b < n by omega))
    rw [e, e2] at e1
    have := Option.some.inj e1
    omega
  refine (List.perm_ext_iff_of_nodup hnd List.nodup_range).2 fun x => ?_
  rw [List.mem_range]
  constructor
  · intro hx
    obtain ⟨i, hi⟩ := List.getElem?_of_mem hx
    have := (List.getElem?_eq_some_iff.1 (at_inv h hi)).1
    omega
  · intro hx
    have hx2 : x < o.length := by omega
    exact List.mem_of_getElem? (inv_at h (List.getElem?_eq_getElem hx2))
theorem inv_inv : invF (invF o) = o := by
  apply List.ext_getElem?
  intro i
  by_cases hi : i < o.length
  · rw [List.getElem?_eq_getElem hi]
    exact inv_at (inv_perm h) (inv_at h (List.getElem?_eq_getElem hi))
  · rw [List.getElem?_eq_none (by rw [invF_len, invF_len]; omega), List.getElem?_eq_none (by omega)]
/-- What is seen by an order, and by its inverse again. -/
theorem app_inv {l : List Int} (hl : l.length = n) : (invF o).map (fun i => (o.map fun i => l.getD i 0).getD i 0) = l := by
  apply List.ext_getElem?
  intro i
  by_cases hi : i < n
  · have hi2 : i < (invF o).length := by rw [invF_len, perm_len h]; exact hi
    obtain ⟨x, hx⟩ : ∃ x, (invF o)[i]? = some x := ⟨_, List.getElem?_eq_getElem hi2⟩
    have e := at_inv h hx
    rw [List.getElem?_map, hx]
    simp only [Option.map_some]
    rw [List.getD_eq_getElem?_getD, List.getElem?_map, e]
    simp only [Option.map_some, Option.getD_some]
    rw [List.getD_eq_getElem?_getD, List.getElem?_eq_getElem (by omega)]
    rfl
  · rw [List.getElem?_eq_none (by rw [List.length_map, invF_len, perm_len h]; omega), List.getElem?_eq_none (by omega)]
end
end Go.Proofs.Ytbnjflkafdkcpaa
