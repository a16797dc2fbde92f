/- The program's way through bases with marks: what lies behind a base's marks; a group that falls is turned round. No function of the program. -/
import Derived.Test.YtbnjflkafdkcpaaAcD
import Derived.Test.YtbnjflkafdkcpaaRoQ
namespace Go.Proofs.Ytbnjflkafdkcpaa
open Go.RowKit

theorem hi_spec {ls : List Int} {ms : List Bool} {i : Nat} (hi : i < ls.length) : i + 1 ≤ hiA ls ms i ∧ hiA ls ms i ≤ ls.length ∧ ∀ k, i + 1 ≤ k → k < hiA ls ms i → ms.getD k false = true := by
  obtain ⟨a, b, c, _⟩ := ext_spec (ls := ls) (ms := ms) (x := ls.getD i 0) ls.length (i + 1) (by omega) hi
  exact ⟨a, b, fun k h1 h2 => (c k h1 h2).1⟩
/-- Marks begin no group. -/
theorem grpA_marks {ls : List Int} {ms : List Bool} {i : Nat} : ∀ {j : Nat}, i ≤ j → (∀ k, i ≤ k → k < j → ms.getD k false = true) → grpA ls ms j = grpA ls ms i
  | 0, h, _ => by rw [show i = 0 by omega]
  | j + 1, h, hm => by
    by_cases e : i = j + 1
    · rw [e]
    · rw [grpA, if_neg (by unfold isG; rw [hm j (by omega) (by omega)]; simp), grpA_marks (j := j) (by omega) (fun k h1 h2 => hm k h1 (by omega))]
theorem grpA_to {ls : List Int} {ms : List Bool} {i : Nat} (hi : i < ls.length) : grpA ls ms (hiA ls ms i) = grpA ls ms (i + 1) := by
  obtain ⟨a, _, c⟩ := hi_spec (ms := ms) hi
  exact grpA_marks a c
/-- A part of a row, turned round. -/
def revM (out : List Int) (p L : Nat) : List Int := out.take p ++ (((out.drop p).take L).reverse ++ out.drop (p + L))
theorem revM_at {out : List Int} {p L j : Nat} (h : p + L ≤ out.length) : (revM out p L)[j]? = if p ≤ j ∧ j < p + L then out[p + (L - 1 - (j - p))]? else out[j]? := by
  unfold revM
  have ht : (out.take p).length = p := by rw [List.length_take]; omega
  have hr : (((out.drop p).take L).reverse).length = L := by simp; omega
  by_cases h1 : j < p
  · rw [if_neg (by omega), List.getElem?_append_left (by omega), List.getElem?_take, if_pos h1]
  · rw [List.getElem?_append_right (by omega), ht]
    by_cases h2 : j < p + L
    · rw [if_pos ⟨by omega, h2⟩, List.getElem?_append_left (by omega), List.getElem?_reverse (by simp; omega), List.getElem?_take, List.getElem?_drop]
      have hl : ((out.drop p).take L).length = L := by simp; omega
      rw [hl, if_pos (by omega)]
    · rw [if_neg (by omega), List.getElem?_append_right (by omega), hr, List.getElem?_drop]
      congr 1
      omega
/-- Whether a row falls by one each time. -/
def fallW (l : List Int) : Bool := decide (∀ k, k < l.length → l.getD k 0 = l.getD 0 0 - (k : Int))
def accU0 (o : List Int) (G : List Sp) : List Int := G.foldl (fun out s => accS o s o.length out) o
section
variable {ls : List Int} {ms : List Bool} {o : List Int} {lo : Nat}
/-- Where places stand, by the inverse. -/
def invI (o : List Int) : List Int := (invF (natL o)).map fun i => ((i : Nat) : Int)
theorem invI_len (o : List Int) : (invI o).length = o.length := by unfold invI; rw [List.length_map, invF_len, natL_len]
theorem invI_at {k x : Nat} (h : permB o = true) (hx : o[k]? = some (x : Int)) : (invI o)[x]? = some (k : Int) := by
  unfold invI
  obtain ⟨y, e, _, hy⟩ := natL_at h hx
  have hxy : x = y := by omega
  subst hxy
  rw [List.getElem?_map, inv_at (natL_perm h) hy]
  rfl
theorem at_invI {k x : Nat} (h : permB o = true) (hx : (invI o)[x]? = some (k : Int)) : o[k]? = some (x : Int) := by
  unfold invI at hx
  rw [List.getElem?_map] at hx
  cases e : (invF (natL o))[x]? with
  | none => rw [e] at hx; cases hx
  | some y =>
    rw [e, Option.map_some] at hx
    have hy : y = k := by have := Option.some.inj hx; omega
    subst hy
    have h1 := at_inv (natL_perm h) e
    unfold natL at h1
    rw [List.getElem?_map] at h1
    cases e2 : o[y]? with
    | none => rw [e2] at h1; cases h1
    | some z =>
      rw [e2, Option.map_some] at h1
      obtain ⟨z', e3, _, _⟩ := natL_at h e2
      have := Option.some.inj h1
      subst e3
      rw [show z' = x by omega]
theorem invI_in {x : Nat} (h : permB o = true) (hx : x < o.length) : ∃ k : Nat, (invI o)[x]? = some (k : Int) ∧ k < o.length := by
  have hl : x < (invI o).length := by rw [invI_len]; exact hx
  obtain ⟨k, hk⟩ : ∃ k : Nat, (invI o)[x]? = some (k : Int) := by
    unfold invI
    have hl2 : x < (invF (natL o)).length := by rw [invF_len, natL_len]; exact hx
    exact ⟨(invF (natL o))[x], by rw [List.getElem?_map, List.getElem?_eq_getElem hl2]; rfl⟩
  exact ⟨k, hk, (List.getElem?_eq_some_iff.1 (at_invI h hk)).1⟩
/-- The group's places as they stand fall: then the group falls, from where its last place stands. -/
theorem fall_here {a b : Nat} (h : permB o = true) (hab : a < b) (hb : b ≤ o.length) (hf : fallW (((invI o).drop a).take (b - a)) = true) :
    ∃ p : Nat, (invI o)[b - 1]? = some (p : Int) ∧ (invI o)[a]? = some ((p + (b - a) - 1 : Nat) : Int) ∧ p + (b - a) ≤ o.length ∧ fallB o p ((a : Int), (b : Int)) = true := by
  have hl : (((invI o).drop a).take (b - a)).length = b - a := by simp [invI_len]; omega
  have hf2 := of_decide_eq_true hf
  rw [hl] at hf2
  have hat : ∀ k, k < b - a → (((invI o).drop a).take (b - a)).getD k 0 = (invI o).getD (a + k) 0 := fun k hk => by
    rw [List.getD_eq_getElem?_getD, List.getElem?_take, if_pos hk, List.getElem?_drop, ← List.getD_eq_getElem?_getD]
  obtain ⟨q, hq, hql⟩ := invI_in h (show a < o.length by omega)
  obtain ⟨p, hp, hpl⟩ := invI_in h (show b - 1 < o.length by omega)
  have hgd : ∀ {x k : Nat}, (invI o)[x]? = some (k : Int) → (invI o).getD x 0 = (k : Int) := fun hx => by rw [List.getD_eq_getElem?_getD, hx]; rfl
  have e1 := hf2 (b - a - 1) (by omega)
  rw [hat _ (by omega), hat 0 (by omega), Nat.add_zero, show a + (b - a - 1) = b - 1 by omega, hgd hp, hgd hq] at e1
  have hqp : q = p + (b - a) - 1 := by omega
  refine ⟨p, hp, by rw [hq, hqp], by omega, decide_eq_true ⟨?_, ?_⟩⟩
  · unfold lenG; simp only; omega
  · intro k hk
    have hk2 : k < b - a := by unfold lenG at hk; simp only at hk; omega
    have e2 := hf2 (b - a - 1 - k) (by omega)
    rw [hat _ (by omega), hat 0 (by omega), Nat.add_zero, hgd hq] at e2
    obtain ⟨r, hr, hrl⟩ := invI_in h (show a + (b - a - 1 - k) < o.length by omega)
    rw [hgd hr] at e2
    have hrk : r = p + k := by omega
    have := at_invI h hr
    rw [hrk] at this
    rw [List.getD_eq_getElem?_getD, this]
    simp only [Option.getD_some]
    omega
theorem fall_no {a b : Nat} (h : permB o = true) (hab : a < b) (hb : b ≤ o.length) (hf : fallW (((invI o).drop a).take (b - a)) = false) : ∀ i, fallB o i ((a : Int), (b : Int)) = false := by
  intro i
  cases hc : fallB o i ((a : Int), (b : Int)) with
  | false => rfl
  | true =>
    exfalso
    have hl : (((invI o).drop a).take (b - a)).length = b - a := by simp [invI_len]; omega
    have hlg : lenG ((a : Int), (b : Int)) = b - a := by unfold lenG; simp only; omega
    have hin : ∀ k, k < b - a → (invI o)[a + k]? = some ((i + (b - a - 1 - k) : Nat) : Int) := fun k hk => by
      have h1 := fall_at (k := b - a - 1 - k) hc (by rw [hlg]; omega)
      simp only at h1
      rw [show (b : Int) - 1 - ((b - a - 1 - k : Nat) : Int) = ((a + k : Nat) : Int) by omega] at h1
      exact invI_at h h1
    have : fallW (((invI o).drop a).take (b - a)) = true := by
      refine decide_eq_true fun k hk => ?_
      rw [hl] at hk
      have hat : ∀ k, k < b - a → (((invI o).drop a).take (b - a)).getD k 0 = ((i + (b - a - 1 - k) : Nat) : Int) := fun k hk => by
        rw [List.getD_eq_getElem?_getD, List.getElem?_take, if_pos hk, List.getElem?_drop, hin k hk]
        rfl
      rw [hat k hk, hat 0 (by omega)]
      omega
    rw [hf] at this
    cases this
theorem accU0_len (o : List Int) (G : List Sp) : (accU0 o G).length = o.length := acc_len o G o rfl
theorem accS_no {s : Sp} {out : List Int} (hno : ∀ i, fallB o i s = false) : ∀ m, accS o s m out = out
  | 0 => rfl
  | m + 1 => by rw [accS, if_neg (by rw [hno m]; decide), accS_no hno m]
/-- A group that falls from p on is turned round there; groups ahead of it have left its places alone. -/
theorem accS_rev (h : permB o = true) {a b p : Nat} (hg : GrpOk ls ms a b) (hl : ls.length = o.length) (hlo : a ≤ ls.length) (hf : fallB o p ((a : Int), (b : Int)) = true) :
    accS o ((a : Int), (b : Int)) o.length (accU0 o (grpA ls ms a)) = revM (accU0 o (grpA ls ms a)) p (b - a) := by
  have hnd : o.Nodup := (of_decide_eq_true h).2
  have hlg : lenG ((a : Int), (b : Int)) = b - a := by unfold lenG; simp only; omega
  have hpl := (of_decide_eq_true hf).1
  rw [hlg] at hpl
  have hab := hg.lt
  have hbl := hg.le
  have hul := accU0_len o (grpA ls ms a)
  have hin : ∀ j, p ≤ j → j < p + (b - a) → o[j]? = some ((b : Int) - 1 - ((j - p : Nat) : Int)) := fun j h1 h2 => by
    have := fall_at (k := j - p) hf (by rw [hlg]; omega)
    rwa [show p + (j - p) = j by omega] at this
  have hunt : ∀ j, p ≤ j → j < p + (b - a) → (accU0 o (grpA ls ms a))[j]? = some ((b : Int) - 1 - ((j - p : Nat) : Int)) := fun j h1 h2 => by
    show (accF o (grpA ls ms a))[j]? = _
    rw [acc_map hnd, List.getElem?_map, hin j h1 h2, Option.map_some]
    congr 1
    refine tur_none _ _ fun t ht => ?_
    obtain ⟨c, hc, rfl, hgc⟩ := grpA_mem hlo ht
    unfold hitA
    rw [Bool.and_eq_false_iff]
    refine .inl (decide_eq_false ?_)
    simp only
    rintro ⟨h3, h4⟩
    have hok := isG_ok (show c < ls.length by omega) hgc
    have := grp_one (k := b - 1 - (j - p)) hg hok (by omega) (by omega)
    omega
  apply List.ext_getElem?
  intro j
  rw [revM_at (by rw [hul]; exact hpl)]
  by_cases hj : j < o.length
  · have hv : o[j]? = some o[j] := List.getElem?_eq_getElem hj
    rw [accS_hit hnd hul hv]
    by_cases hjp : p ≤ j ∧ j < p + (b - a)
    · have hvj := hin j hjp.1 hjp.2
      rw [hv] at hvj
      have hvj := Option.some.inj hvj
      rw [if_pos hjp, hunt (p + (b - a - 1 - (j - p))) (by omega) (by omega), if_pos]
      · show some ((a : Int) + (b : Int) - 1 - o[j]) = _
        rw [hvj]
        refine congrArg some ?_
        omega
      · unfold hitA
        rw [Bool.and_eq_true, decide_eq_true_eq, List.any_eq_true]
        exact ⟨by simp only; omega, p, by rw [List.mem_range]; omega, hf⟩
    · rw [if_neg hjp, if_neg]
      intro hh
      unfold hitA at hh
      rw [Bool.and_eq_true, decide_eq_true_eq] at hh
      have h1 := hh.1
      simp only at h1
      have h2 := fall_at (k := (b - 1 - o[j].toNat : Nat)) hf (by rw [hlg]; omega)
      simp only at h2
      rw [show (b : Int) - 1 - ((b - 1 - o[j].toNat : Nat) : Int) = o[j] by omega] at h2
      have := nodup_at hnd hv h2
      omega
  · rw [List.getElem?_eq_none (by rw [accS_len, hul]; omega), if_neg (by omega), List.getElem?_eq_none (by rw [hul]; omega)]
theorem accU0_snoc (o : List Int) (G : List Sp) (s : Sp) : accU0 o (G ++ [s]) = accS o s o.length (accU0 o G) := by unfold accU0; rw [List.foldl_append]; rfl
end
end Go.Proofs.Ytbnjflkafdkcpaa
