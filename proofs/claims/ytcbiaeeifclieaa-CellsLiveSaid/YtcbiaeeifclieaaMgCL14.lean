/- Texts of one claim, one behind the other. -/
import Derived.OrdersIn
import Derived.TacticsIn
import Derived.Test.YtcbiaeeifclieaaMgCL1
/- A law for regions that draw their order, inside a fence or in a round: an invariant over what has been carried out. -/
namespace Go.Proofs.Ytcbiaeeifclieaa
open Go.RowKit

theorem cntI_drop (p : Nat → Bool) (i : Nat) (hp : p i = true) : ∀ n, (List.range n).countP p = (List.range n).countP (fun k => p k && !(k == i)) + if i < n then 1 else 0
  | 0 => by simp
  | n + 1 => by
    rw [List.range_succ, List.countP_append, List.countP_append, cntI_drop p i hp n]
    by_cases h : i = n
    · subst h
      simp [hp]
    · have e : (n == i) = false := by simp; omega
      simp only [List.countP_singleton, e, Bool.not_false, Bool.and_true]
      by_cases h2 : i < n
      · rw [if_pos h2, if_pos (show i < n + 1 by omega)]; omega
      · rw [if_neg h2, if_neg (show ¬ i < n + 1 by omega)]; omega
theorem listedI_set (listed : Array Bool) (i k : Nat) (hi : i < listed.size) : (!(listed.setIfInBounds i true).getD k true) = ((!listed.getD k true) && !(k == i)) := by
  simp only [Array.getD_eq_getD_getElem?]
  by_cases h : k = i
  · subst h
    simp [hi]
  · rw [Array.getElem?_setIfInBounds_ne (fun e => h e.symm)]
    simp [h]
theorem listedI_on (listed : Array Bool) (i k : Nat) (h : (listed.setIfInBounds i true).getD k false = true) : k = i ∨ listed.getD k false = true := by
  by_cases hk : k = i
  · exact .inl hk
  · right
    simp only [Array.getD_eq_getD_getElem?] at h ⊢
    rwa [Array.getElem?_setIfInBounds_ne (fun e => hk e.symm)] at h
/-- Whatever has been carried out, what it waits for has been too. -/
def ClosedI (ops : Array Oper) (L : Array Bool) : Prop := ∀ (i : Nat) (o : Oper), ops[i]? = some o → L.getD i false = true → ∀ e ∈ o.after, Region.binds .any e = true → L.getD e.on false = true
theorem getDI_set (L : Array Bool) (i k : Nat) (hi : i < L.size) : (L.setIfInBounds i true).getD k false = if k = i then true else L.getD k false := by
  simp only [Array.getD_eq_getD_getElem?]
  by_cases h : k = i
  · subst h; simp [hi]
  · rw [Array.getElem?_setIfInBounds_ne (fun e => h e.symm), if_neg h]
/-- What an operation that calls no function does. -/
def DoesI (P : Program) (o : Oper) (a : Act) (w : World) (v : Value) (w' : World) : Prop := (execOp a.eval o).run P w = .ok (.value v) w' ∨ ((execOp a.eval o).run P w = .ok .skip w' ∧ v = undef)
theorem wpAnyIn_inv {F : Fence} {n : Nat} {P : Program} {ops : Array Oper} {Q : Exit → Act → World → Prop} (S : Array Bool → Act → World → Prop)
    (hback : ∀ (i : Nat) (o : Oper), ops[i]? = some o → ∀ e ∈ o.after, e.on < i)
    (hplain : ∀ (i : Nat) (o : Oper), ops[i]? = some o → o.guard = none ∧ (∀ c, o.op ≠ .defer c) ∧ ∀ (ρ : Operand → Value) w, o.about P w ρ = none)
    (hstep : ∀ (i : Nat) (o : Oper), ops[i]? = some o → ∀ L a w, L.size = ops.size → ClosedI ops L → L.getD i false = false → (∀ e ∈ o.after, Region.binds .any e = true → L.getD e.on false = true) → S L a w →
      ∃ v w', DoesI P o a w v w' ∧ S (L.setIfInBounds i true) (a.put o.dst v) w')
    (hend : ∀ L a w, L.size = ops.size → (∀ i, i < ops.size → L.getD i false = true) → S L a w → Q .normal a w) :
    ∀ (fuel : Nat) (listed : Array Bool) (a : Act) (w : World), listed.size = ops.size → ((List.range ops.size).countP fun i => !listed.getD i true) = fuel → ClosedI ops listed → S listed a w → wpAnyIn F n P .any ops Q fuel listed a w := by
  have hall : ∀ (listed : Array Bool), listed.size = ops.size → (∀ i, i < ops.size → listed.getD i true = true) → ∀ i, i < ops.size → listed.getD i false = true := fun listed hl h i hi => by
    have := h i hi
    simp only [Array.getD_eq_getD_getElem?, Array.getElem?_eq_getElem (show i < listed.size by omega), Option.getD_some] at this ⊢
    exact this
  intro fuel
  induction fuel with
  | zero =>
    intro listed a w hl hc hCl hS
    rw [List.countP_eq_zero] at hc
    have hlist : ∀ i, i < ops.size → listed.getD i true = true := fun i hi => by
      have := hc i (List.mem_range.2 hi)
      simpa using this
    refine ⟨?_, hend listed a w hl (fun i hi => hall listed hl hlist i hi) hS⟩
    unfold Region.ready
    rw [List.filter_eq_nil_iff]
    intro i hi
    rw [hlist i (List.mem_range.1 hi)]
    simp
  | succ fuel ih =>
    intro listed a w hl hc hCl hS
    refine ⟨fun hr => ?_, fun i hi => ?_⟩
    · exfalso
      -- the least operation that is not listed is ready
      have hex : ∃ i, i < ops.size ∧ listed.getD i true = false := by
        refine Classical.byContradiction fun hn => ?_
        have : ((List.range ops.size).countP fun i => !listed.getD i true) = 0 := by
          rw [List.countP_eq_zero]
          intro i hi
          cases hv : listed.getD i true with
          | true => simp
          | false => exact absurd ⟨i, List.mem_range.1 hi, hv⟩ hn
        omega
      have hleast : ∀ n, ∀ i, i ≤ n → i < ops.size → listed.getD i true = false → ∃ m, m < ops.size ∧ listed.getD m true = false ∧ ∀ k, k < m → listed.getD k true = true := by
        intro n
        induction n with
        | zero =>
          intro i hi his hv
          obtain rfl : i = 0 := by omega
          exact ⟨0, his, hv, fun k hk => absurd hk (by omega)⟩
        | succ n ihn =>
          intro i hi his hv
          by_cases hq : ∃ k, k < i ∧ listed.getD k true = false
          · obtain ⟨k, hki, hkv⟩ := hq
            exact ihn k (by omega) (by omega) hkv
          · refine ⟨i, his, hv, fun k hk => ?_⟩
            cases hv2 : listed.getD k true with
            | true => rfl
            | false => exact absurd ⟨k, hk, hv2⟩ hq
      obtain ⟨i0, hi0, hv0⟩ := hex
      obtain ⟨m, hm, hmv, hmk⟩ := hleast i0 i0 (Nat.le_refl _) hi0 hv0
      have hmem : m ∈ Region.ready .any ops listed := by
        unfold Region.ready
        rw [List.mem_filter]
        refine ⟨List.mem_range.2 hm, ?_⟩
        rw [hmv, Array.getElem?_eq_getElem hm]
        simp only [Bool.not_false, Bool.true_and, Option.map_some, Option.getD_some]
        rw [Array.all_eq_true_iff_forall_mem]
        intro e he
        have hlt := hback m _ (Array.getElem?_eq_getElem hm) e he
        have h1 := hmk e.on hlt
        have h2 : listed.getD e.on false = true := by
          simp only [Array.getD_eq_getD_getElem?, Array.getElem?_eq_getElem (show e.on < listed.size by omega), Option.getD_some] at h1 ⊢
          exact h1
        rw [h2]
        simp
      rw [hr] at hmem
      cases hmem
    · unfold Region.ready at hi
      rw [List.mem_filter] at hi
      obtain ⟨hir, hi2⟩ := hi
      have his := List.mem_range.1 hir
      rw [Bool.and_eq_true] at hi2
      obtain ⟨hun, hdep⟩ := hi2
      obtain ⟨o, ho⟩ : ∃ o, ops[i]? = some o := ⟨_, Array.getElem?_eq_getElem his⟩
      rw [ho] at hdep
      simp only [Option.map_some, Option.getD_some] at hdep
      rw [Array.all_eq_true_iff_forall_mem] at hdep
      have hD : ∀ e ∈ o.after, Region.binds .any e = true → listed.getD e.on false = true := fun e he hbd => by
        have := hdep e he
        rw [hbd] at this
        simpa using this
      have hun2 : listed.getD i false = false := by
        have : listed.getD i true = false := by simpa using hun
        simp only [Array.getD_eq_getD_getElem?, Array.getElem?_eq_getElem (show i < listed.size by omega), Option.getD_some] at this ⊢
        exact this
      obtain ⟨v, w', hrun, hS2⟩ := hstep i o ho listed a w hl hCl hun2 hD hS
      obtain ⟨hgd, hdf, hab⟩ := hplain i o ho
      have hcnt : ((List.range ops.size).countP fun k => !(listed.setIfInBounds i true).getD k true) = fuel := by
        have h1 := cntI_drop (fun k => !listed.getD k true) i hun ops.size
        rw [if_pos his, hc] at h1
        have h2 : (fun k => !(listed.setIfInBounds i true).getD k true) = fun k => (!listed.getD k true) && !(k == i) := by
          funext k
          exact listedI_set listed i k (by omega)
        rw [h2]
        omega
      have hCl2 : ClosedI ops (listed.setIfInBounds i true) := fun k p hp hk e he hbd => by
        rw [getDI_set _ _ _ (by omega)] at hk ⊢
        by_cases hke : e.on = i
        · rw [if_pos hke]
        · rw [if_neg hke]
          by_cases hki : k = i
          · subst hki
            rw [ho] at hp
            cases hp
            exact hD e he hbd
          · rw [if_neg hki] at hk
            exact hCl k p hp hk e he hbd
      have hnext := ih _ _ _ (by rw [Array.size_setIfInBounds]; exact hl) hcnt hCl2 hS2
      unfold wpOpIn
      rw [ho]
      have hw : Region.wanted o (yielded ops a.tmps) = true := by simp [Region.wanted, hgd]
      show if Region.wanted o (yielded ops a.tmps) = true then _ else _
      rw [if_pos hw]
      refine ⟨fun f hf => (by rw [hab] at hf; cases hf), ?_⟩
      rw [Oper.semAt_eq _ _ _ hdf]
      rcases hrun with h | ⟨h, rfl⟩ <;> rw [h] <;> exact hnext
/-- A region that draws its order, inside a fence. -/
theorem wpIn_region_inv {F : Fence} {n : Nat} {P : Program} {ops : Array Oper} {Q : Exit → Act → World → Prop} {id : Nat} {a : Act} {w : World} (hm : P.follows .mixedOrders = true) (S : Array Bool → Act → World → Prop)
    (hback : ∀ (i : Nat) (o : Oper), ops[i]? = some o → ∀ e ∈ o.after, e.on < i)
    (hplain : ∀ (i : Nat) (o : Oper), ops[i]? = some o → o.guard = none ∧ (∀ c, o.op ≠ .defer c) ∧ ∀ (ρ : Operand → Value) w, o.about P w ρ = none)
    (hstart : S (Array.replicate ops.size false) a w.drew)
    (hstep : ∀ (i : Nat) (o : Oper), ops[i]? = some o → ∀ L a w, L.size = ops.size → ClosedI ops L → L.getD i false = false → (∀ e ∈ o.after, Region.binds .any e = true → L.getD e.on false = true) → S L a w →
      ∃ v w', DoesI P o a w v w' ∧ S (L.setIfInBounds i true) (a.put o.dst v) w')
    (hend : ∀ L a w, L.size = ops.size → (∀ i, i < ops.size → L.getD i false = true) → S L a w → Q .normal a w) : (Code.region id ops true).wpIn F n P Q a w := by
  refine wpIn_region_any hm ?_
  refine wpAnyIn_inv S hback hplain hstep hend ops.size _ a _ (by simp) ?_ (fun i o _ h => ?_) hstart
  · rw [List.countP_eq_length.2 (fun i hi => ?_)]
    · simp
    · have := List.mem_range.1 hi
      simp [Array.getD_eq_getD_getElem?, this]
  · exfalso
    simp only [Array.getD_eq_getD_getElem?, Array.getElem?_replicate] at h
    split at h <;> simp at h
end Go.Proofs.Ytcbiaeeifclieaa
