/- A law for regions that draw their order: what each operation yields follows from what the operations yield that it waits for, in whatever world the region has come to by then; so one proof an operation serves every order. -/
import Derived.Test.YtcdogkabdhbjmaaDoorMem
import Derived.Orders
namespace Go.Proofs.YtcdogkabdhbjmaaDoor
open Go.RowKit

theorem cnt_drop (p : Nat → Bool) (i : Nat) (hp : p i = true) : ∀ n, (List.range n).countP p = (List.range n).countP (fun k => p k && !(k == i)) + if i < n then 1 else 0
  | 0 => by simp
  | n + 1 => by
    rw [List.range_succ, List.countP_append, List.countP_append, cnt_drop p i hp n]
    by_cases h : i = n
    · subst h
      simp [hp]
    · have e : (n == i) = false := by simp; omega
      simp only [List.countP_singleton, e, Bool.not_false, Bool.and_true]
      by_cases h2 : i < n
      · rw [if_pos h2, if_pos (show i < n + 1 by omega)]; omega
      · rw [if_neg h2, if_neg (show ¬ i < n + 1 by omega)]; omega
theorem listed_set (listed : Array Bool) (i k : Nat) (hi : i < listed.size) : (!(listed.setIfInBounds i true).getD k true) = ((!listed.getD k true) && !(k == i)) := by
  simp only [Array.getD_eq_getD_getElem?]
  by_cases h : k = i
  · subst h
    simp [hi]
  · rw [Array.getElem?_setIfInBounds_ne (fun e => h e.symm)]
    simp [h]
theorem listed_on (listed : Array Bool) (i k : Nat) (h : (listed.setIfInBounds i true).getD k false = true) : k = i ∨ listed.getD k false = true := by
  by_cases hk : k = i
  · exact .inl hk
  · right
    simp only [Array.getD_eq_getD_getElem?] at h ⊢
    rwa [Array.getElem?_setIfInBounds_ne (fun e => hk e.symm)] at h
theorem wpAny_inv {P : Program} {ops : Array Oper} {Q : Exit → Act → World → Prop} (S : Act → World → Prop) (G : Nat → Act → World → Prop)
    (hback : ∀ (i : Nat) (o : Oper), ops[i]? = some o → ∀ e ∈ o.after, e.on < i)
    (hstep : ∀ (i : Nat) (o : Oper), ops[i]? = some o → ∀ a w, S a w → (∀ e ∈ o.after, Region.binds .any e = true → G e.on a w) →
      if Region.wanted o (yielded ops a.tmps) = true then o.wp P a w (fun a' w' => S a' w' ∧ G i a' w' ∧ ∀ j, j ≠ i → G j a w → G j a' w') Q else S (a.put o.dst undef) w ∧ G i (a.put o.dst undef) w ∧ ∀ j, j ≠ i → G j a w → G j (a.put o.dst undef) w)
    (hend : ∀ a w, S a w → (∀ i, i < ops.size → G i a w) → Q .normal a w) :
    ∀ (fuel : Nat) (listed : Array Bool) (a : Act) (w : World), listed.size = ops.size → ((List.range ops.size).countP fun i => !listed.getD i true) = fuel → S a w → (∀ i, listed.getD i false = true → G i a w) → wpAny P .any ops Q fuel listed a w := by
  have hall : ∀ (listed : Array Bool), listed.size = ops.size → (∀ i, i < ops.size → listed.getD i true = true) → ∀ i, i < ops.size → listed.getD i false = true := fun listed hl h i hi => by
    have := h i hi
    simp only [Array.getD_eq_getD_getElem?, Array.getElem?_eq_getElem (show i < listed.size by omega), Option.getD_some] at this ⊢
    exact this
  intro fuel
  induction fuel with
  | zero =>
    intro listed a w hl hc hS hG
    rw [List.countP_eq_zero] at hc
    have hlist : ∀ i, i < ops.size → listed.getD i true = true := fun i hi => by
      have := hc i (List.mem_range.2 hi)
      simpa using this
    refine ⟨?_, hend a w hS fun i hi => hG i (hall listed hl hlist i hi)⟩
    unfold Region.ready
    rw [List.filter_eq_nil_iff]
    intro i hi
    rw [hlist i (List.mem_range.1 hi)]
    simp
  | succ fuel ih =>
    intro listed a w hl hc hS hG
    refine ⟨fun hr => ?_, fun i hi => ?_⟩
    · exfalso
      -- the least operation that is not listed is ready
      have hex : ∃ i, i < ops.size ∧ listed.getD i true = false := by
        refine Classical.byContradiction fun hn => ?_
        have : ((List.range ops.size).countP fun i => !listed.getD i true) = 0 := by
          rw [List.countP_eq_zero]
          intro i hi
          cases hv : listed.getD i true with
          | true => simp
          | false => exact absurd ⟨i, List.mem_range.1 hi, hv⟩ hn
        omega
      have hleast : ∀ n, ∀ i, i ≤ n → i < ops.size → listed.getD i true = false → ∃ m, m < ops.size ∧ listed.getD m true = false ∧ ∀ k, k < m → listed.getD k true = true := by
        intro n
        induction n with
        | zero =>
          intro i hi his hv
          obtain rfl : i = 0 := by omega
          exact ⟨0, his, hv, fun k hk => absurd hk (by omega)⟩
        | succ n ihn =>
          intro i hi his hv
          by_cases hq : ∃ k, k < i ∧ listed.getD k true = false
          · obtain ⟨k, hki, hkv⟩ := hq
            exact ihn k (by omega) (by omega) hkv
          · refine ⟨i, his, hv, fun k hk => ?_⟩
            cases hv2 : listed.getD k true with
            | true => rfl
            | false => exact absurd ⟨k, hk, hv2⟩ hq
      obtain ⟨i0, hi0, hv0⟩ := hex
      obtain ⟨m, hm, hmv, hmk⟩ := hleast i0 i0 (Nat.le_refl _) hi0 hv0
      have hmem : m ∈ Region.ready .any ops listed := by
        unfold Region.ready
        rw [List.mem_filter]
        refine ⟨List.mem_range.2 hm, ?_⟩
        rw [hmv, Array.getElem?_eq_getElem hm]
        simp only [Bool.not_false, Bool.true_and, Option.map_some, Option.getD_some]
        rw [Array.all_eq_true_iff_forall_mem]
        intro e he
        have hlt := hback m _ (Array.getElem?_eq_getElem hm) e he
        have h1 := hmk e.on hlt
        have h2 : listed.getD e.on false = true := by
          simp only [Array.getD_eq_getD_getElem?, Array.getElem?_eq_getElem (show e.on < listed.size by omega), Option.getD_some] at h1 ⊢
          exact h1
        rw [h2]
        simp
      rw [hr] at hmem
      cases hmem
    · unfold Region.ready at hi
      rw [List.mem_filter] at hi
      obtain ⟨hir, hi2⟩ := hi
      have his := List.mem_range.1 hir
      rw [Bool.and_eq_true] at hi2
      obtain ⟨hun, hdep⟩ := hi2
      obtain ⟨o, ho⟩ : ∃ o, ops[i]? = some o := ⟨_, Array.getElem?_eq_getElem his⟩
      rw [ho] at hdep
      simp only [Option.map_some, Option.getD_some] at hdep
      rw [Array.all_eq_true_iff_forall_mem] at hdep
      have hG2 : ∀ e ∈ o.after, Region.binds .any e = true → G e.on a w := fun e he hbd => by
        have := hdep e he
        rw [hbd] at this
        exact hG e.on (by simpa using this)
      have hst := hstep i o ho a w hS hG2
      have hcnt : ((List.range ops.size).countP fun k => !(listed.setIfInBounds i true).getD k true) = fuel := by
        have h1 := cnt_drop (fun k => !listed.getD k true) i hun ops.size
        rw [if_pos his, hc] at h1
        have h2 : (fun k => !(listed.setIfInBounds i true).getD k true) = fun k => (!listed.getD k true) && !(k == i) := by
          funext k
          exact listed_set listed i k (by omega)
        rw [h2]
        omega
      have hnext : ∀ a' w', (S a' w' ∧ G i a' w' ∧ ∀ j, j ≠ i → G j a w → G j a' w') → wpAny P .any ops Q fuel (listed.setIfInBounds i true) a' w' := fun a' w' h => by
        refine ih _ a' w' (by rw [Array.size_setIfInBounds]; exact hl) hcnt h.1 fun k hk => ?_
        rcases listed_on listed i k hk with rfl | hk
        · exact h.2.1
        · by_cases hki : k = i
          · subst hki; exact h.2.1
          · exact h.2.2 k hki (hG k hk)
      unfold wpOp
      rw [ho]
      by_cases hw : Region.wanted o (yielded ops a.tmps) = true
      · rw [if_pos hw] at hst
        show if Region.wanted o (yielded ops a.tmps) = true then _ else _
        rw [if_pos hw]
        exact .inl (Oper.wp_mono (fun a' w' h => hnext a' w' h) hst)
      · rw [if_neg hw] at hst
        show if Region.wanted o (yielded ops a.tmps) = true then _ else _
        rw [if_neg hw]
        exact hnext _ _ hst
/-- A region that draws its order, by one proof for each operation. -/
theorem wp_region_inv {P : Program} {ops : Array Oper} {Q : Exit → Act → World → Prop} {id : Nat} {a : Act} {w : World} (hm : P.follows .mixedOrders = true) (S : Act → World → Prop) (G : Nat → Act → World → Prop)
    (hback : ∀ (i : Nat) (o : Oper), ops[i]? = some o → ∀ e ∈ o.after, e.on < i)
    (hstart : S a w.drew)
    (hstep : ∀ (i : Nat) (o : Oper), ops[i]? = some o → ∀ a w, S a w → (∀ e ∈ o.after, Region.binds .any e = true → G e.on a w) →
      if Region.wanted o (yielded ops a.tmps) = true then o.wp P a w (fun a' w' => S a' w' ∧ G i a' w' ∧ ∀ j, j ≠ i → G j a w → G j a' w') Q else S (a.put o.dst undef) w ∧ G i (a.put o.dst undef) w ∧ ∀ j, j ≠ i → G j a w → G j (a.put o.dst undef) w)
    (hend : ∀ a w, S a w → (∀ i, i < ops.size → G i a w) → Q .normal a w) : (Code.region id ops true).wp P Q a w := by
  refine wp_region_any hm ?_
  refine wpAny_inv S G hback hstep hend ops.size _ a _ (by simp) ?_ hstart fun i h => ?_
  · rw [List.countP_eq_length.2 (fun i hi => ?_)]
    · simp
    · have := List.mem_range.1 hi
      simp [Array.getD_eq_getD_getElem?, this]
  · exfalso
    simp only [Array.getD_eq_getD_getElem?, Array.getElem?_replicate] at h
    split at h <;> simp at h
end Go.Proofs.YtcdogkabdhbjmaaDoor
