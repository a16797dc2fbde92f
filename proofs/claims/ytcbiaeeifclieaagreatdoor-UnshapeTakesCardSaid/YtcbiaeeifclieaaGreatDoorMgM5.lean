/- Texts of one claim, one behind the other. -/
import Derived.Orders
import Derived.Handy
import Derived.Laws.StructEq
import Derived.Test.YtcbiaeeifclieaaGreatDoorMgM1
import Derived.Test.YtcbiaeeifclieaaGreatDoorMgM3
import Derived.Test.YtcbiaeeifclieaaGreatDoorMgM4
/- A law for regions that draw their order: what each operation yields follows from what the operations yield that it waits for, in whatever world the region has come to by then; so one proof an operation serves every order. -/
namespace Go.Proofs.YtcbiaeeifclieaaGreatDoor
open Go.RowKit

theorem cnt_drop (p : Nat → Bool) (i : Nat) (hp : p i = true) : ∀ n, (List.range n).countP p = (List.range n).countP (fun k => p k && !(k == i)) + if i < n then 1 else 0
  | 0 => by simp
  | n + 1 => by
    rw [List.range_succ, List.countP_append, List.countP_append, cnt_drop p i hp n]
    by_cases h : i = n
    · subst h
      simp [hp]
    · have e : (n == i) = false := by simp; omega
      simp only [List.countP_singleton, e, Bool.not_false, Bool.and_true]
      by_cases h2 : i < n
      · rw [if_pos h2, if_pos (show i < n + 1 by omega)]; omega
      · rw [if_neg h2, if_neg (show ¬ i < n + 1 by omega)]; omega
theorem listed_set (listed : Array Bool) (i k : Nat) (hi : i < listed.size) : (!(listed.setIfInBounds i true).getD k true) = ((!listed.getD k true) && !(k == i)) := by
  simp only [Array.getD_eq_getD_getElem?]
  by_cases h : k = i
  · subst h
    simp [hi]
  · rw [Array.getElem?_setIfInBounds_ne (fun e => h e.symm)]
    simp [h]
theorem listed_on (listed : Array Bool) (i k : Nat) (h : (listed.setIfInBounds i true).getD k false = true) : k = i ∨ listed.getD k false = true := by
  by_cases hk : k = i
  · exact .inl hk
  · right
    simp only [Array.getD_eq_getD_getElem?] at h ⊢
    rwa [Array.getElem?_setIfInBounds_ne (fun e => hk e.symm)] at h
theorem wpAny_inv {P : Program} {ops : Array Oper} {Q : Exit → Act → World → Prop} (S : Act → World → Prop) (G : Nat → Act → World → Prop)
    (hback : ∀ (i : Nat) (o : Oper), ops[i]? = some o → ∀ e ∈ o.after, e.on < i)
    (hstep : ∀ (i : Nat) (o : Oper), ops[i]? = some o → ∀ a w, S a w → (∀ e ∈ o.after, Region.binds .any e = true → G e.on a w) →
      if Region.wanted o (yielded ops a.tmps) = true then o.wp P a w (fun a' w' => S a' w' ∧ G i a' w' ∧ ∀ j, j ≠ i → G j a w → G j a' w') Q else S (a.put o.dst undef) w ∧ G i (a.put o.dst undef) w ∧ ∀ j, j ≠ i → G j a w → G j (a.put o.dst undef) w)
    (hend : ∀ a w, S a w → (∀ i, i < ops.size → G i a w) → Q .normal a w) :
    ∀ (fuel : Nat) (listed : Array Bool) (a : Act) (w : World), listed.size = ops.size → ((List.range ops.size).countP fun i => !listed.getD i true) = fuel → S a w → (∀ i, listed.getD i false = true → G i a w) → wpAny P .any ops Q fuel listed a w := by
  have hall : ∀ (listed : Array Bool), listed.size = ops.size → (∀ i, i < ops.size → listed.getD i true = true) → ∀ i, i < ops.size → listed.getD i false = true := fun listed hl h i hi => by
    have := h i hi
    simp only [Array.getD_eq_getD_getElem?, Array.getElem?_eq_getElem (show i < listed.size by omega), Option.getD_some] at this ⊢
    exact this
  intro fuel
  induction fuel with
  | zero =>
    intro listed a w hl hc hS hG
    rw [List.countP_eq_zero] at hc
    have hlist : ∀ i, i < ops.size → listed.getD i true = true := fun i hi => by
      have := hc i (List.mem_range.2 hi)
      simpa using this
    refine ⟨?_, hend a w hS fun i hi => hG i (hall listed hl hlist i hi)⟩
    unfold Region.ready
    rw [List.filter_eq_nil_iff]
    intro i hi
    rw [hlist i (List.mem_range.1 hi)]
    simp
  | succ fuel ih =>
    intro listed a w hl hc hS hG
    refine ⟨fun hr => ?_, fun i hi => ?_⟩
    · exfalso
      -- the least operation that is not listed is ready
      have hex : ∃ i, i < ops.size ∧ listed.getD i true = false := by
        refine Classical.byContradiction fun hn => ?_
        have : ((List.range ops.size).countP fun i => !listed.getD i true) = 0 := by
          rw [List.countP_eq_zero]
          intro i hi
          cases hv : listed.getD i true with
          | true => simp
          | false => exact absurd ⟨i, List.mem_range.1 hi, hv⟩ hn
        omega
      have hleast : ∀ n, ∀ i, i ≤ n → i < ops.size → listed.getD i true = false → ∃ m, m < ops.size ∧ listed.getD m true = false ∧ ∀ k, k < m → listed.getD k true = true := by
        intro n
        induction n with
        | zero =>
          intro i hi his hv
          obtain rfl : i = 0 := by omega
          exact ⟨0, his, hv, fun k hk => absurd hk (by omega)⟩
        | succ n ihn =>
          intro i hi his hv
          by_cases hq : ∃ k, k < i ∧ listed.getD k true = false
          · obtain ⟨k, hki, hkv⟩ := hq
            exact ihn k (by omega) (by omega) hkv
          · refine ⟨i, his, hv, fun k hk => ?_⟩
            cases hv2 : listed.getD k true with
            | true => rfl
            | false => exact absurd ⟨k, hk, hv2⟩ hq
      obtain ⟨i0, hi0, hv0⟩ := hex
      obtain ⟨m, hm, hmv, hmk⟩ := hleast i0 i0 (Nat.le_refl _) hi0 hv0
      have hmem : m ∈ Region.ready .any ops listed := by
        unfold Region.ready
        rw [List.mem_filter]
        refine ⟨List.mem_range.2 hm, ?_⟩
        rw [hmv, Array.getElem?_eq_getElem hm]
        simp only [Bool.not_false, Bool.true_and, Option.map_some, Option.getD_some]
        rw [Array.all_eq_true_iff_forall_mem]
        intro e he
        have hlt := hback m _ (Array.getElem?_eq_getElem hm) e he
        have h1 := hmk e.on hlt
        have h2 : listed.getD e.on false = true := by
          simp only [Array.getD_eq_getD_getElem?, Array.getElem?_eq_getElem (show e.on < listed.size by omega), Option.getD_some] at h1 ⊢
          exact h1
        rw [h2]
        simp
      rw [hr] at hmem
      cases hmem
    · unfold Region.ready at hi
      rw [List.mem_filter] at hi
      obtain ⟨hir, hi2⟩ := hi
      have his := List.mem_range.1 hir
      rw [Bool.and_eq_true] at hi2
      obtain ⟨hun, hdep⟩ := hi2
      obtain ⟨o, ho⟩ : ∃ o, ops[i]? = some o := ⟨_, Array.getElem?_eq_getElem his⟩
      rw [ho] at hdep
      simp only [Option.map_some, Option.getD_some] at hdep
      rw [Array.all_eq_true_iff_forall_mem] at hdep
      have hG2 : ∀ e ∈ o.after, Region.binds .any e = true → G e.on a w := fun e he hbd => by
        have := hdep e he
        rw [hbd] at this
        exact hG e.on (by simpa using this)
      have hst := hstep i o ho a w hS hG2
      have hcnt : ((List.range ops.size).countP fun k => !(listed.setIfInBounds i true).getD k true) = fuel := by
        have h1 := cnt_drop (fun k => !listed.getD k true) i hun ops.size
        rw [if_pos his, hc] at h1
        have h2 : (fun k => !(listed.setIfInBounds i true).getD k true) = fun k => (!listed.getD k true) && !(k == i) := by
          funext k
          exact listed_set listed i k (by omega)
        rw [h2]
        omega
      have hnext : ∀ a' w', (S a' w' ∧ G i a' w' ∧ ∀ j, j ≠ i → G j a w → G j a' w') → wpAny P .any ops Q fuel (listed.setIfInBounds i true) a' w' := fun a' w' h => by
        refine ih _ a' w' (by rw [Array.size_setIfInBounds]; exact hl) hcnt h.1 fun k hk => ?_
        rcases listed_on listed i k hk with rfl | hk
        · exact h.2.1
        · by_cases hki : k = i
          · subst hki; exact h.2.1
          · exact h.2.2 k hki (hG k hk)
      unfold wpOp
      rw [ho]
      by_cases hw : Region.wanted o (yielded ops a.tmps) = true
      · rw [if_pos hw] at hst
        show if Region.wanted o (yielded ops a.tmps) = true then _ else _
        rw [if_pos hw]
        exact .inl (Oper.wp_mono (fun a' w' h => hnext a' w' h) hst)
      · rw [if_neg hw] at hst
        show if Region.wanted o (yielded ops a.tmps) = true then _ else _
        rw [if_neg hw]
        exact hnext _ _ hst
/-- A region that draws its order, by one proof for each operation. -/
theorem wp_region_inv {P : Program} {ops : Array Oper} {Q : Exit → Act → World → Prop} {id : Nat} {a : Act} {w : World} (hm : P.follows .mixedOrders = true) (S : Act → World → Prop) (G : Nat → Act → World → Prop)
    (hback : ∀ (i : Nat) (o : Oper), ops[i]? = some o → ∀ e ∈ o.after, e.on < i)
    (hstart : S a w.drew)
    (hstep : ∀ (i : Nat) (o : Oper), ops[i]? = some o → ∀ a w, S a w → (∀ e ∈ o.after, Region.binds .any e = true → G e.on a w) →
      if Region.wanted o (yielded ops a.tmps) = true then o.wp P a w (fun a' w' => S a' w' ∧ G i a' w' ∧ ∀ j, j ≠ i → G j a w → G j a' w') Q else S (a.put o.dst undef) w ∧ G i (a.put o.dst undef) w ∧ ∀ j, j ≠ i → G j a w → G j (a.put o.dst undef) w)
    (hend : ∀ a w, S a w → (∀ i, i < ops.size → G i a w) → Q .normal a w) : (Code.region id ops true).wp P Q a w := by
  refine wp_region_any hm ?_
  refine wpAny_inv S G hback hstep hend ops.size _ a _ (by simp) ?_ hstart fun i h => ?_
  · rw [List.countP_eq_length.2 (fun i hi => ?_)]
    · simp
    · have := List.mem_range.1 hi
      simp [Array.getD_eq_getD_getElem?, this]
  · exfalso
    simp only [Array.getD_eq_getD_getElem?, Array.getElem?_replicate] at h
    split at h <;> simp at h
end Go.Proofs.YtcbiaeeifclieaaGreatDoor
/- option.Check's region that draws its order: what each operation yields. -/
namespace Go.Proofs.YtcbiaeeifclieaaGreatDoor
open Go.RowKit

/-- What the region reads: the options' block, Tashkeel, the two tests of ahead, seven flags. -/
structure Prm where
  B : Nat
  t : Int
  lb : Bool
  tb : Bool
  b1 : Bool
  b2 : Bool
  b3 : Bool
  b4 : Bool
  b5 : Bool
  b6 : Bool
  b7 : Bool
def slotF (i : Nat) : Nat := if i = 42 then 19 else 20 + i
def gdF (p : Prm) : Nat → Bool
  | 0 => true
  | 1 => true
  | 2 => true
  | 3 => true
  | 4 => !p.b1
  | 5 => !p.b1
  | 6 => !p.b1
  | 7 => !p.b1
  | 8 => !p.b1
  | 9 => !p.b1
  | 10 => !p.b1
  | 11 => !p.b1
  | 12 => !p.b1
  | 13 => !p.b1
  | 14 => true
  | 15 => true
  | 16 => true
  | 17 => true
  | 18 => p.b2
  | 19 => p.b2
  | 20 => true
  | 21 => true
  | 22 => true
  | 23 => true
  | 24 => p.b3
  | 25 => p.b3
  | 26 => p.b3
  | 27 => p.b3
  | 28 => p.b3
  | 29 => p.b3
  | 30 => p.b3
  | 31 => p.b3
  | 32 => true
  | 33 => true
  | 34 => true
  | 35 => true
  | 36 => p.b7
  | 37 => p.b7
  | 38 => p.b7
  | 39 => true
  | 40 => true
  | 41 => true
  | 42 => true
  | _ => false
def valF (p : Prm) : Nat → Value
  | 0 => .pointer (some ⟨p.B, 5, none⟩)
  | 1 => .bool (p.b1)
  | 2 => .bool (!p.b1)
  | 3 => .bool (!p.b1)
  | 4 => .bool (p.lb)
  | 5 => .bool (p.tb)
  | 6 => .pointer (some ⟨p.B, 7, none⟩)
  | 7 => .bool (p.b3)
  | 8 => .pointer (some ⟨p.B, 8, none⟩)
  | 9 => .bool (p.b4)
  | 10 => .pointer (some ⟨p.B, 9, none⟩)
  | 11 => .bool (p.b5)
  | 13 => .bool (p.lb || (p.tb || (p.b3 || (p.b4 || p.b5))))
  | 14 => .bool (!p.b1 && (p.lb || (p.tb || (p.b3 || (p.b4 || p.b5)))))
  | 15 => .pointer (some ⟨p.B, 6, none⟩)
  | 16 => .bool (p.b2)
  | 17 => .bool (p.b2)
  | 18 => .bool (p.lb)
  | 19 => .bool (!p.lb)
  | 20 => .bool (p.b2 && !p.lb)
  | 21 => .pointer (some ⟨p.B, 7, none⟩)
  | 22 => .bool (p.b3)
  | 23 => .bool (p.b3)
  | 24 => .pointer (some ⟨p.B, 2, none⟩)
  | 25 => .int .i64 p.t
  | 26 => .bool (p.t == 3)
  | 27 => .pointer (some ⟨p.B, 2, none⟩)
  | 28 => .int .i64 p.t
  | 29 => .bool (p.t == 4)
  | 31 => .bool ((p.t == 3) || (p.t == 4))
  | 32 => .bool (p.b3 && ((p.t == 3) || (p.t == 4)))
  | 33 => .pointer (some ⟨p.B, 11, none⟩)
  | 34 => .bool (p.b7)
  | 35 => .bool (p.b7)
  | 36 => .pointer (some ⟨p.B, 10, none⟩)
  | 37 => .bool (p.b6)
  | 38 => .bool (!p.b6)
  | 39 => .bool (p.b7 && !p.b6)
  | 41 => .bool ((!p.b1 && (p.lb || (p.tb || (p.b3 || (p.b4 || p.b5))))) || ((p.b2 && !p.lb) || ((p.b3 && ((p.t == 3) || (p.t == 4))) || (p.b7 && !p.b6))))
  | 42 => .bool ((!p.b1 && (p.lb || (p.tb || (p.b3 || (p.b4 || p.b5))))) || ((p.b2 && !p.lb) || ((p.b3 && ((p.t == 3) || (p.t == 4))) || (p.b7 && !p.b6))))
  | _ => undef
def rowF (p : Prm) : Nat → Option (List Bool)
  | 12 => some [p.lb, p.tb, p.b3, p.b4, p.b5]
  | 30 => some [p.t == 3, p.t == 4]
  | 40 => some [!p.b1 && (p.lb || (p.tb || (p.b3 || (p.b4 || p.b5)))), p.b2 && !p.lb, p.b3 && ((p.t == 3) || (p.t == 4)), p.b7 && !p.b6]
  | _ => none
/-- Operation i has yielded what it yields. -/
def GoodRow (r : Option (List Bool)) (v : Value) (s : Nat) (a : Act) (w : World) : Prop := match r with
  | none => a.tmps[s]? = some v
  | some l => ∃ g, a.tmps[s]? = some (.slice (some ⟨g, 0, none⟩) l.length l.length) ∧ Rd w 1 (some ⟨g, 0, none⟩) l.length (l.map Value.bool)
def GoodAt (p : Prm) (i : Nat) (a : Act) (w : World) : Prop := gdF p i = true → GoodRow (rowF p i) (valF p i) (slotF i) a w
/-- What stands all the while. -/
structure HoldsAt (p : Prm) (w0 : World) (w : World) (a : Act) : Prop where
  defers : a.defers = []
  size : a.tmps.size = 62
  s1 : a.tmps[1]? = some (.pointer (some ⟨p.B, 0, none⟩))
  s3 : a.tmps[3]? = some (.bool p.lb)
  s4 : a.tmps[4]? = some (.bool p.tb)
  c2 : w.cell? ⟨p.B, 2, none⟩ = some (.int .i64 p.t)
  c5 : w.cell? ⟨p.B, 5, none⟩ = some (.bool p.b1)
  c6 : w.cell? ⟨p.B, 6, none⟩ = some (.bool p.b2)
  c7 : w.cell? ⟨p.B, 7, none⟩ = some (.bool p.b3)
  c8 : w.cell? ⟨p.B, 8, none⟩ = some (.bool p.b4)
  c9 : w.cell? ⟨p.B, 9, none⟩ = some (.bool p.b5)
  c10 : w.cell? ⟨p.B, 10, none⟩ = some (.bool p.b6)
  c11 : w.cell? ⟨p.B, 11, none⟩ = some (.bool p.b7)
  below : Below w0.heap.size w0 w
theorem gdF_lt {p : Prm} {i : Nat} (h : gdF p i = true) : i < 43 := by
  unfold gdF at h
  split at h <;> first | omega | cases h
theorem HoldsAt.put {p : Prm} {w0 w w' : World} {a : Act} (h : HoldsAt p w0 w a) (hb : Below w.heap.size w w') (s : Nat) (v : Value) (h1 : s ≠ 1) (h3 : s ≠ 3) (h4 : s ≠ 4) : HoldsAt p w0 w' (a.put (some s) v) where
  defers := h.defers
  size := by simpa [Act.put] using h.size
  s1 := by simp only [Act.put]; rw [Array.getElem?_setIfInBounds_ne h1]; exact h.s1
  s3 := by simp only [Act.put]; rw [Array.getElem?_setIfInBounds_ne h3]; exact h.s3
  s4 := by simp only [Act.put]; rw [Array.getElem?_setIfInBounds_ne h4]; exact h.s4
  c2 := cell_below hb h.c2
  c5 := cell_below hb h.c5
  c6 := cell_below hb h.c6
  c7 := cell_below hb h.c7
  c8 := cell_below hb h.c8
  c9 := cell_below hb h.c9
  c10 := cell_below hb h.c10
  c11 := cell_below hb h.c11
  below := below_self h.below hb
theorem slotF_inj {i j : Nat} (hi : i < 43) (hj : j < 43) (h : j ≠ i) : slotF i ≠ slotF j := by
  unfold slotF
  split <;> split <;> omega
theorem slotF_lt {i : Nat} (hi : i < 43) : slotF i < 62 ∧ slotF i ≠ 1 ∧ slotF i ≠ 3 ∧ slotF i ≠ 4 := by
  unfold slotF
  split <;> omega
theorem GoodAt.keep {p : Prm} {i j : Nat} {a : Act} {w w' : World} (hi : i < 43) (h : GoodAt p j a w) (hji : j ≠ i) (hb : Below w.heap.size w w') (v : Value) : GoodAt p j (a.put (some (slotF i)) v) w' := by
  intro hg
  have hne := slotF_inj hi (gdF_lt hg) hji
  have h2 := h hg
  have e : (a.put (some (slotF i)) v).tmps[slotF j]? = a.tmps[slotF j]? := by
    simp only [Act.put]
    exact Array.getElem?_setIfInBounds_ne hne
  cases hr : rowF p j with
  | none =>
    rw [hr] at h2
    exact e.trans h2
  | some l =>
    rw [hr] at h2
    obtain ⟨g, h3, h4⟩ := h2
    exact ⟨g, e.trans h3, h4.below hb⟩
/-- Behind an operation that yields v, and at most makes memory. -/
theorem done_at {p : Prm} {w0 w w' : World} {a : Act} {i : Nat} (hi : i < 43) (h : HoldsAt p w0 w a) (hb : Below w.heap.size w w') (v : Value) (hv : (a.put (some (slotF i)) v).tmps[slotF i]? = some v → GoodAt p i (a.put (some (slotF i)) v) w') :
    HoldsAt p w0 w' (a.put (some (slotF i)) v) ∧ GoodAt p i (a.put (some (slotF i)) v) w' ∧ ∀ j, j ≠ i → GoodAt p j a w → GoodAt p j (a.put (some (slotF i)) v) w' := by
  obtain ⟨h0, h1, h3, h4⟩ := slotF_lt hi
  exact ⟨h.put hb _ v h1 h3 h4, hv (by simp [Act.put, h.size, h0]), fun j hj hg => hg.keep hi hj hb v⟩
theorem done_pure {p : Prm} {w0 w : World} {a : Act} {i : Nat} (hi : i < 43) (h : HoldsAt p w0 w a) (v : Value) (hr : rowF p i = none) (hv : gdF p i = true → v = valF p i) :
    HoldsAt p w0 w (a.put (some (slotF i)) v) ∧ GoodAt p i (a.put (some (slotF i)) v) w ∧ ∀ j, j ≠ i → GoodAt p j a w → GoodAt p j (a.put (some (slotF i)) v) w :=
  done_at hi h (Below.refl _ _) v fun e hg => by
    rw [hr, ← hv hg]
    exact e
theorem done_off {p : Prm} {w0 w : World} {a : Act} {i : Nat} (hi : i < 43) (h : HoldsAt p w0 w a) (hg : gdF p i = false) :
    HoldsAt p w0 w (a.put (some (slotF i)) undef) ∧ GoodAt p i (a.put (some (slotF i)) undef) w ∧ ∀ j, j ≠ i → GoodAt p j a w → GoodAt p j (a.put (some (slotF i)) undef) w :=
  done_at hi h (Below.refl _ _) undef fun _ hg' => by rw [hg] at hg'; cases hg'
theorem done_row {p : Prm} {w0 w : World} {a : Act} {i : Nat} (hi : i < 43) (h : HoldsAt p w0 w a) (l : List Bool) (T : TypeId) (hr : gdF p i = true → rowF p i = some l) :
    HoldsAt p w0 (w.alloc (.cells (l.map Value.bool).toArray T)) (a.put (some (slotF i)) (.slice (some ⟨w.heap.size, 0, none⟩) l.length l.length)) ∧ GoodAt p i (a.put (some (slotF i)) (.slice (some ⟨w.heap.size, 0, none⟩) l.length l.length)) (w.alloc (.cells (l.map Value.bool).toArray T)) ∧
      ∀ j, j ≠ i → GoodAt p j a w → GoodAt p j (a.put (some (slotF i)) (.slice (some ⟨w.heap.size, 0, none⟩) l.length l.length)) (w.alloc (.cells (l.map Value.bool).toArray T)) :=
  done_at hi h (below_new _ _) _ fun e hg => by
    rw [hr hg]
    exact ⟨_, e, rdBools w l T⟩
section
variable {P : Program} {o : Oper} {a : Act} {w : World} {K : Act → World → Prop} {Q : Exit → Act → World → Prop}
theorem oper_val {v : Value} {w' : World} (h : (execOp a.eval o).run P w = .ok (.value v) w') (hk : K (a.put o.dst v) w') : o.wp P a w K Q := by
  unfold Oper.wp
  rw [h]
  exact hk
theorem wanted_none {y : Nat → Option Bool} (h : o.guard = none) : Region.wanted o y = true := by simp [Region.wanted, h]
theorem wanted_some {y : Nat → Option Bool} {j : Nat} {g : Bool} (h : o.guard = some (j, true)) (hy : y j = some g) : Region.wanted o y = g := by simp [Region.wanted, h, hy]
theorem yielded_at {ops : Array Oper} {tmps : Array Value} {j s : Nat} {g : Bool} {o' : Oper} (ho : ops[j]? = some o') (hd : o'.dst = some s) (ht : tmps[s]? = some (.bool g)) : yielded ops tmps j = some g := by
  unfold yielded
  rw [ho]
  simp [hd, ht]
end
end Go.Proofs.YtcbiaeeifclieaaGreatDoor
/- option.Check's region that draws its order: its operations, and a step for each. -/
namespace Go.Proofs.YtcbiaeeifclieaaGreatDoor
open Go.RowKit

def opF : Nat → Op
  | 0 => .fieldAddr 24 (.tmp 1) 5
  | 1 => .load 4 (.tmp 20)
  | 2 => .unOp .not 4 (.tmp 21)
  | 3 => .move (.tmp 22)
  | 4 => .move (.tmp 3)
  | 5 => .move (.tmp 4)
  | 6 => .fieldAddr 24 (.tmp 1) 7
  | 7 => .load 4 (.tmp 26)
  | 8 => .fieldAddr 24 (.tmp 1) 8
  | 9 => .load 4 (.tmp 28)
  | 10 => .fieldAddr 24 (.tmp 1) 9
  | 11 => .load 4 (.tmp 30)
  | 12 => .buildSlice 119 5 #[(0, .tmp 24), (1, .tmp 25), (2, .tmp 27), (3, .tmp 29), (4, .tmp 31)]
  | 13 => .call { callee := .value (.func 30), args := #[.tmp 32], argTypes := #[119] }
  | 14 => .pick (.tmp 23) (.tmp 33) (.const (.bool false))
  | 15 => .fieldAddr 24 (.tmp 1) 6
  | 16 => .load 4 (.tmp 35)
  | 17 => .move (.tmp 36)
  | 18 => .move (.tmp 3)
  | 19 => .unOp .not 4 (.tmp 38)
  | 20 => .pick (.tmp 37) (.tmp 39) (.const (.bool false))
  | 21 => .fieldAddr 24 (.tmp 1) 7
  | 22 => .load 4 (.tmp 41)
  | 23 => .move (.tmp 42)
  | 24 => .fieldAddr 24 (.tmp 1) 2
  | 25 => .load 3 (.tmp 44)
  | 26 => .binOp .eql 3 (.tmp 45) (.const (.int .i64 3)) 3
  | 27 => .fieldAddr 24 (.tmp 1) 2
  | 28 => .load 3 (.tmp 47)
  | 29 => .binOp .eql 3 (.tmp 48) (.const (.int .i64 4)) 3
  | 30 => .buildSlice 119 2 #[(0, .tmp 46), (1, .tmp 49)]
  | 31 => .call { callee := .value (.func 30), args := #[.tmp 50], argTypes := #[119] }
  | 32 => .pick (.tmp 43) (.tmp 51) (.const (.bool false))
  | 33 => .fieldAddr 24 (.tmp 1) 11
  | 34 => .load 4 (.tmp 53)
  | 35 => .move (.tmp 54)
  | 36 => .fieldAddr 24 (.tmp 1) 10
  | 37 => .load 4 (.tmp 56)
  | 38 => .unOp .not 4 (.tmp 57)
  | 39 => .pick (.tmp 55) (.tmp 58) (.const (.bool false))
  | 40 => .buildSlice 119 4 #[(0, .tmp 34), (1, .tmp 40), (2, .tmp 52), (3, .tmp 59)]
  | 41 => .call { callee := .value (.func 30), args := #[.tmp 60], argTypes := #[119] }
  | 42 => .assign (.tmp 61)
  | _ => .move (.tmp 0)
def guF : Nat → Option (Nat × Bool)
  | 4 => some (3, true)
  | 5 => some (3, true)
  | 6 => some (3, true)
  | 7 => some (3, true)
  | 8 => some (3, true)
  | 9 => some (3, true)
  | 10 => some (3, true)
  | 11 => some (3, true)
  | 12 => some (3, true)
  | 13 => some (3, true)
  | 18 => some (17, true)
  | 19 => some (17, true)
  | 24 => some (23, true)
  | 25 => some (23, true)
  | 26 => some (23, true)
  | 27 => some (23, true)
  | 28 => some (23, true)
  | 29 => some (23, true)
  | 30 => some (23, true)
  | 31 => some (23, true)
  | 36 => some (35, true)
  | 37 => some (35, true)
  | 38 => some (35, true)
  | _ => none
def depF : Nat → List Nat
  | 0 => []
  | 1 => [0]
  | 2 => [1]
  | 3 => [2]
  | 4 => [3]
  | 5 => [3]
  | 6 => [3]
  | 7 => [3, 6]
  | 8 => [3]
  | 9 => [3, 8]
  | 10 => [3]
  | 11 => [3, 10]
  | 12 => [3, 4, 5, 7, 9, 11]
  | 13 => [3, 12]
  | 14 => [3, 13]
  | 15 => []
  | 16 => [15]
  | 17 => [16]
  | 18 => [17]
  | 19 => [17, 18]
  | 20 => [17, 19]
  | 21 => []
  | 22 => [21]
  | 23 => [22]
  | 24 => [23]
  | 25 => [23, 24]
  | 26 => [23, 25]
  | 27 => [23]
  | 28 => [23, 27]
  | 29 => [23, 28]
  | 30 => [23, 26, 29]
  | 31 => [23, 30]
  | 32 => [23, 31]
  | 33 => []
  | 34 => [33]
  | 35 => [34]
  | 36 => [35]
  | 37 => [35, 36]
  | 38 => [35, 37]
  | 39 => [35, 38]
  | 40 => [14, 20, 32, 39]
  | 41 => [40]
  | 42 => [41]
  | _ => []
/-- The operation is the one that is meant. -/
structure IsOp (ops : Array Oper) (i : Nat) (o : Oper) : Prop where
  dst : o.dst = some (slotF i)
  op : o.op = opF i
  guard : o.guard = guF i
  deps : ∀ k ∈ depF i, ∃ e ∈ o.after, e.on = k ∧ Region.binds .any e = true
section
variable {p : Prm} {w0 w : World} {a : Act} {Q : Exit → Act → World → Prop} {o : Oper} {ops : Array Oper}
def StepOk (p : Prm) (w0 : World) (Q : Exit → Act → World → Prop) (ops : Array Oper) (i : Nat) (o : Oper) (a : Act) (w : World) : Prop :=
  if Region.wanted o (yielded ops a.tmps) = true then o.wp Tryz.prog a w (fun a' w' => HoldsAt p w0 w' a' ∧ GoodAt p i a' w' ∧ ∀ j, j ≠ i → GoodAt p j a w → GoodAt p j a' w') Q else HoldsAt p w0 w (a.put o.dst undef) ∧ GoodAt p i (a.put o.dst undef) w ∧ ∀ j, j ≠ i → GoodAt p j a w → GoodAt p j (a.put o.dst undef) w
theorem good_row {i : Nat} {l : List Bool} (h : GoodAt p i a w) (hg : gdF p i = true) (hr : rowF p i = some l) : ∃ g, a.tmps[slotF i]? = some (.slice (some ⟨g, 0, none⟩) l.length l.length) ∧ Rd w 1 (some ⟨g, 0, none⟩) l.length (l.map Value.bool) := by
  have h2 := h hg
  rw [hr] at h2
  exact h2
theorem oper_enter {f : FuncId} {args : Array Value} {K : Act → World → Prop} (h : (execOp a.eval o).run Tryz.prog w = .ok (.enter f args) w) (v : Value) (hc : Calls Tryz.prog f args w fun e w' => e = .returned v ∧ w = w') (hk : K (a.put o.dst v) w) : o.wp Tryz.prog a w K Q := by
  unfold Oper.wp
  rw [h]
  refine Calls.mono hc ?_
  rintro e w' ⟨rfl, rfl⟩
  exact hk
theorem evalT {a : Act} {k : Nat} {v : Value} (h : a.tmps[k]? = some v) : a.eval (.tmp k) = v := by
  simp only [Act.eval]
  rw [Array.getD_eq_getD_getElem?, h]
  rfl
theorem fieldP2 (B : Nat) (w : World) : (Instr.fieldAt 24 (.pointer (some ⟨B, 0, none⟩)) 2).run Tryz.prog w = .ok (.pointer (some ⟨B, 2, none⟩)) w := by
  go_simp
theorem fieldP5 (B : Nat) (w : World) : (Instr.fieldAt 24 (.pointer (some ⟨B, 0, none⟩)) 5).run Tryz.prog w = .ok (.pointer (some ⟨B, 5, none⟩)) w := by
  go_simp
theorem fieldP6 (B : Nat) (w : World) : (Instr.fieldAt 24 (.pointer (some ⟨B, 0, none⟩)) 6).run Tryz.prog w = .ok (.pointer (some ⟨B, 6, none⟩)) w := by
  go_simp
theorem fieldP7 (B : Nat) (w : World) : (Instr.fieldAt 24 (.pointer (some ⟨B, 0, none⟩)) 7).run Tryz.prog w = .ok (.pointer (some ⟨B, 7, none⟩)) w := by
  go_simp
theorem fieldP8 (B : Nat) (w : World) : (Instr.fieldAt 24 (.pointer (some ⟨B, 0, none⟩)) 8).run Tryz.prog w = .ok (.pointer (some ⟨B, 8, none⟩)) w := by
  go_simp
theorem fieldP9 (B : Nat) (w : World) : (Instr.fieldAt 24 (.pointer (some ⟨B, 0, none⟩)) 9).run Tryz.prog w = .ok (.pointer (some ⟨B, 9, none⟩)) w := by
  go_simp
theorem fieldP10 (B : Nat) (w : World) : (Instr.fieldAt 24 (.pointer (some ⟨B, 0, none⟩)) 10).run Tryz.prog w = .ok (.pointer (some ⟨B, 10, none⟩)) w := by
  go_simp
theorem fieldP11 (B : Nat) (w : World) : (Instr.fieldAt 24 (.pointer (some ⟨B, 0, none⟩)) 11).run Tryz.prog w = .ok (.pointer (some ⟨B, 11, none⟩)) w := by
  go_simp
theorem step0 (h : HoldsAt p w0 w a) (hi : IsOp ops 0 o) (hg : ∀ k ∈ depF 0, GoodAt p k a w) : StepOk p w0 Q ops 0 o a w := by
  unfold StepOk
  rw [if_pos (wanted_none hi.guard)]
  refine oper_val (v := .pointer (some ⟨p.B, 5, none⟩)) (w' := w) ?_ ?_
  · unfold execOp
    simp only [hi.op, opF, evalT h.s1, Sem.run_bind, fieldP5, Result.andThen_ok]
    rfl
  · rw [hi.dst]
    exact done_pure (by omega) h _ rfl (fun _ => rfl)
theorem step1 (h : HoldsAt p w0 w a) (hi : IsOp ops 1 o) (hg : ∀ k ∈ depF 1, GoodAt p k a w) : StepOk p w0 Q ops 1 o a w := by
  unfold StepOk
  rw [if_pos (wanted_none hi.guard)]
  have e : a.eval (.tmp 20) = .pointer (some ⟨p.B, 5, none⟩) := evalT (hg 0 (by simp [depF]) rfl)
  refine oper_val (v := .bool (p.b1)) (w' := w) ?_ ?_
  · have hc := h.c5
    unfold execOp
    simp only [hi.op, opF]
    rw [e]
    go_simp
  · rw [hi.dst]
    exact done_pure (by omega) h _ rfl (fun _ => rfl)
theorem step2 (h : HoldsAt p w0 w a) (hi : IsOp ops 2 o) (hg : ∀ k ∈ depF 2, GoodAt p k a w) : StepOk p w0 Q ops 2 o a w := by
  unfold StepOk
  rw [if_pos (wanted_none hi.guard)]
  have e : a.eval (.tmp 21) = .bool (p.b1) := evalT (hg 1 (by simp [depF]) rfl)
  refine oper_val (v := .bool (!p.b1)) (w' := w) ?_ ?_
  · unfold execOp
    simp only [hi.op, opF]
    rw [e]
    go_simp
  · rw [hi.dst]
    exact done_pure (by omega) h _ rfl (fun _ => rfl)
theorem step3 (h : HoldsAt p w0 w a) (hi : IsOp ops 3 o) (hg : ∀ k ∈ depF 3, GoodAt p k a w) : StepOk p w0 Q ops 3 o a w := by
  unfold StepOk
  rw [if_pos (wanted_none hi.guard)]
  have e : a.eval (.tmp 22) = .bool (!p.b1) := evalT (hg 2 (by simp [depF]) rfl)
  refine oper_val (v := .bool (!p.b1)) (w' := w) ?_ ?_
  · unfold execOp
    simp only [hi.op, opF]
    rw [e]
    rfl
  · rw [hi.dst]
    exact done_pure (by omega) h _ rfl (fun _ => rfl)
theorem step4 (h : HoldsAt p w0 w a) (hi : IsOp ops 4 o) (hg : ∀ k ∈ depF 4, GoodAt p k a w) (hy : yielded ops a.tmps 3 = some (!p.b1)) : StepOk p w0 Q ops 4 o a w := by
  unfold StepOk
  cases hgd : (!p.b1) with
  | false =>
    rw [if_neg (by rw [wanted_some hi.guard hy, hgd]; decide), hi.dst]
    exact done_off (by omega) h hgd
  | true =>
    rw [if_pos (by rw [wanted_some hi.guard hy, hgd])]
    have e : a.eval (.tmp 3) = .bool p.lb := evalT (h.s3)
    refine oper_val (v := .bool (p.lb)) (w' := w) ?_ ?_
    · unfold execOp
      simp only [hi.op, opF]
      rw [e]
      rfl
    · rw [hi.dst]
      exact done_pure (by omega) h _ rfl (fun _ => rfl)
theorem step5 (h : HoldsAt p w0 w a) (hi : IsOp ops 5 o) (hg : ∀ k ∈ depF 5, GoodAt p k a w) (hy : yielded ops a.tmps 3 = some (!p.b1)) : StepOk p w0 Q ops 5 o a w := by
  unfold StepOk
  cases hgd : (!p.b1) with
  | false =>
    rw [if_neg (by rw [wanted_some hi.guard hy, hgd]; decide), hi.dst]
    exact done_off (by omega) h hgd
  | true =>
    rw [if_pos (by rw [wanted_some hi.guard hy, hgd])]
    have e : a.eval (.tmp 4) = .bool p.tb := evalT (h.s4)
    refine oper_val (v := .bool (p.tb)) (w' := w) ?_ ?_
    · unfold execOp
      simp only [hi.op, opF]
      rw [e]
      rfl
    · rw [hi.dst]
      exact done_pure (by omega) h _ rfl (fun _ => rfl)
theorem step6 (h : HoldsAt p w0 w a) (hi : IsOp ops 6 o) (hg : ∀ k ∈ depF 6, GoodAt p k a w) (hy : yielded ops a.tmps 3 = some (!p.b1)) : StepOk p w0 Q ops 6 o a w := by
  unfold StepOk
  cases hgd : (!p.b1) with
  | false =>
    rw [if_neg (by rw [wanted_some hi.guard hy, hgd]; decide), hi.dst]
    exact done_off (by omega) h hgd
  | true =>
    rw [if_pos (by rw [wanted_some hi.guard hy, hgd])]
    refine oper_val (v := .pointer (some ⟨p.B, 7, none⟩)) (w' := w) ?_ ?_
    · unfold execOp
      simp only [hi.op, opF, evalT h.s1, Sem.run_bind, fieldP7, Result.andThen_ok]
      rfl
    · rw [hi.dst]
      exact done_pure (by omega) h _ rfl (fun _ => rfl)
theorem step7 (h : HoldsAt p w0 w a) (hi : IsOp ops 7 o) (hg : ∀ k ∈ depF 7, GoodAt p k a w) (hy : yielded ops a.tmps 3 = some (!p.b1)) : StepOk p w0 Q ops 7 o a w := by
  unfold StepOk
  cases hgd : (!p.b1) with
  | false =>
    rw [if_neg (by rw [wanted_some hi.guard hy, hgd]; decide), hi.dst]
    exact done_off (by omega) h hgd
  | true =>
    rw [if_pos (by rw [wanted_some hi.guard hy, hgd])]
    have e : a.eval (.tmp 26) = .pointer (some ⟨p.B, 7, none⟩) := evalT (hg 6 (by simp [depF]) hgd)
    refine oper_val (v := .bool (p.b3)) (w' := w) ?_ ?_
    · have hc := h.c7
      unfold execOp
      simp only [hi.op, opF]
      rw [e]
      go_simp
    · rw [hi.dst]
      exact done_pure (by omega) h _ rfl (fun _ => rfl)
theorem step8 (h : HoldsAt p w0 w a) (hi : IsOp ops 8 o) (hg : ∀ k ∈ depF 8, GoodAt p k a w) (hy : yielded ops a.tmps 3 = some (!p.b1)) : StepOk p w0 Q ops 8 o a w := by
  unfold StepOk
  cases hgd : (!p.b1) with
  | false =>
    rw [if_neg (by rw [wanted_some hi.guard hy, hgd]; decide), hi.dst]
    exact done_off (by omega) h hgd
  | true =>
    rw [if_pos (by rw [wanted_some hi.guard hy, hgd])]
    refine oper_val (v := .pointer (some ⟨p.B, 8, none⟩)) (w' := w) ?_ ?_
    · unfold execOp
      simp only [hi.op, opF, evalT h.s1, Sem.run_bind, fieldP8, Result.andThen_ok]
      rfl
    · rw [hi.dst]
      exact done_pure (by omega) h _ rfl (fun _ => rfl)
theorem step9 (h : HoldsAt p w0 w a) (hi : IsOp ops 9 o) (hg : ∀ k ∈ depF 9, GoodAt p k a w) (hy : yielded ops a.tmps 3 = some (!p.b1)) : StepOk p w0 Q ops 9 o a w := by
  unfold StepOk
  cases hgd : (!p.b1) with
  | false =>
    rw [if_neg (by rw [wanted_some hi.guard hy, hgd]; decide), hi.dst]
    exact done_off (by omega) h hgd
  | true =>
    rw [if_pos (by rw [wanted_some hi.guard hy, hgd])]
    have e : a.eval (.tmp 28) = .pointer (some ⟨p.B, 8, none⟩) := evalT (hg 8 (by simp [depF]) hgd)
    refine oper_val (v := .bool (p.b4)) (w' := w) ?_ ?_
    · have hc := h.c8
      unfold execOp
      simp only [hi.op, opF]
      rw [e]
      go_simp
    · rw [hi.dst]
      exact done_pure (by omega) h _ rfl (fun _ => rfl)
theorem step10 (h : HoldsAt p w0 w a) (hi : IsOp ops 10 o) (hg : ∀ k ∈ depF 10, GoodAt p k a w) (hy : yielded ops a.tmps 3 = some (!p.b1)) : StepOk p w0 Q ops 10 o a w := by
  unfold StepOk
  cases hgd : (!p.b1) with
  | false =>
    rw [if_neg (by rw [wanted_some hi.guard hy, hgd]; decide), hi.dst]
    exact done_off (by omega) h hgd
  | true =>
    rw [if_pos (by rw [wanted_some hi.guard hy, hgd])]
    refine oper_val (v := .pointer (some ⟨p.B, 9, none⟩)) (w' := w) ?_ ?_
    · unfold execOp
      simp only [hi.op, opF, evalT h.s1, Sem.run_bind, fieldP9, Result.andThen_ok]
      rfl
    · rw [hi.dst]
      exact done_pure (by omega) h _ rfl (fun _ => rfl)
theorem step11 (h : HoldsAt p w0 w a) (hi : IsOp ops 11 o) (hg : ∀ k ∈ depF 11, GoodAt p k a w) (hy : yielded ops a.tmps 3 = some (!p.b1)) : StepOk p w0 Q ops 11 o a w := by
  unfold StepOk
  cases hgd : (!p.b1) with
  | false =>
    rw [if_neg (by rw [wanted_some hi.guard hy, hgd]; decide), hi.dst]
    exact done_off (by omega) h hgd
  | true =>
    rw [if_pos (by rw [wanted_some hi.guard hy, hgd])]
    have e : a.eval (.tmp 30) = .pointer (some ⟨p.B, 9, none⟩) := evalT (hg 10 (by simp [depF]) hgd)
    refine oper_val (v := .bool (p.b5)) (w' := w) ?_ ?_
    · have hc := h.c9
      unfold execOp
      simp only [hi.op, opF]
      rw [e]
      go_simp
    · rw [hi.dst]
      exact done_pure (by omega) h _ rfl (fun _ => rfl)
theorem step12 (h : HoldsAt p w0 w a) (hi : IsOp ops 12 o) (hg : ∀ k ∈ depF 12, GoodAt p k a w) (hy : yielded ops a.tmps 3 = some (!p.b1)) : StepOk p w0 Q ops 12 o a w := by
  unfold StepOk
  cases hgd : (!p.b1) with
  | false =>
    rw [if_neg (by rw [wanted_some hi.guard hy, hgd]; decide), hi.dst]
    exact done_off (by omega) h hgd
  | true =>
    rw [if_pos (by rw [wanted_some hi.guard hy, hgd])]
    have e0 : a.tmps[24]? = some (.bool (p.lb)) := hg 4 (by simp [depF]) hgd
    have e1 : a.tmps[25]? = some (.bool (p.tb)) := hg 5 (by simp [depF]) hgd
    have e2 : a.tmps[27]? = some (.bool (p.b3)) := hg 7 (by simp [depF]) hgd
    have e3 : a.tmps[29]? = some (.bool (p.b4)) := hg 9 (by simp [depF]) hgd
    have e4 : a.tmps[31]? = some (.bool (p.b5)) := hg 11 (by simp [depF]) hgd
    refine oper_val (v := .slice (some ⟨w.heap.size, 0, none⟩) 5 5) (w' := w.alloc (.cells (([p.lb, p.tb, p.b3, p.b4, p.b5] : List Bool).map Value.bool).toArray 4)) ?_ ?_
    · unfold execOp
      simp only [hi.op, opF]
      simp [e0, e1, e2, e3, e4, go_sem]
    · rw [hi.dst]
      exact done_row (by omega) h [p.lb, p.tb, p.b3, p.b4, p.b5] 4 (fun _ => rfl)
theorem step13 (h : HoldsAt p w0 w a) (hi : IsOp ops 13 o) (hg : ∀ k ∈ depF 13, GoodAt p k a w) (hy : yielded ops a.tmps 3 = some (!p.b1)) : StepOk p w0 Q ops 13 o a w := by
  unfold StepOk
  cases hgd : (!p.b1) with
  | false =>
    rw [if_neg (by rw [wanted_some hi.guard hy, hgd]; decide), hi.dst]
    exact done_off (by omega) h hgd
  | true =>
    rw [if_pos (by rw [wanted_some hi.guard hy, hgd])]
    obtain ⟨gb, e0, hr0⟩ := good_row (hg 12 (by simp [depF])) hgd (show rowF p 12 = some [p.lb, p.tb, p.b3, p.b4, p.b5] from rfl)
    have e : a.tmps[32]? = some (Value.slice (some ⟨gb, 0, none⟩) 5 5) := e0
    have hr : Rd w 1 (some ⟨gb, 0, none⟩) 5 (([p.lb, p.tb, p.b3, p.b4, p.b5] : List Bool).map Value.bool) := hr0
    refine oper_enter (f := 30) (args := #[.slice (some ⟨gb, 0, none⟩) 5 5]) ?_ (.bool (p.lb || (p.tb || (p.b3 || (p.b4 || p.b5))))) (either_any _ 5 5 [p.lb, p.tb, p.b3, p.b4, p.b5] _ (by simp [List.any]) w hr (by omega)) ?_
    · unfold execOp
      simp only [hi.op, opF]
      simp [e, go_sem]
    · rw [hi.dst]
      exact done_pure (by omega) h _ rfl (fun _ => rfl)
theorem step14 (h : HoldsAt p w0 w a) (hi : IsOp ops 14 o) (hg : ∀ k ∈ depF 14, GoodAt p k a w) : StepOk p w0 Q ops 14 o a w := by
  unfold StepOk
  rw [if_pos (wanted_none hi.guard)]
  have e1 : a.eval (.tmp 23) = .bool (!p.b1) := evalT (hg 3 (by simp [depF]) rfl)
  cases hc : (!p.b1) with
  | false =>
    rw [hc] at e1
    refine oper_val (v := .bool false) (w' := w) ?_ ?_
    · unfold execOp
      simp only [hi.op, opF]
      rw [e1]
      first | rfl | go_simp
    · rw [hi.dst]
      exact done_pure (by omega) h _ rfl (fun _ => by unfold valF; rw [hc]; rfl)
  | true =>
    have e2 : a.eval (.tmp 33) = .bool (p.lb || (p.tb || (p.b3 || (p.b4 || p.b5)))) := evalT (hg 13 (by simp [depF]) hc)
    rw [hc] at e1
    refine oper_val (v := .bool (p.lb || (p.tb || (p.b3 || (p.b4 || p.b5))))) (w' := w) ?_ ?_
    · unfold execOp
      simp only [hi.op, opF]
      rw [e1, e2]
      first | rfl | go_simp
    · rw [hi.dst]
      exact done_pure (by omega) h _ rfl (fun _ => by unfold valF; rw [hc]; rfl)
theorem step15 (h : HoldsAt p w0 w a) (hi : IsOp ops 15 o) (hg : ∀ k ∈ depF 15, GoodAt p k a w) : StepOk p w0 Q ops 15 o a w := by
  unfold StepOk
  rw [if_pos (wanted_none hi.guard)]
  refine oper_val (v := .pointer (some ⟨p.B, 6, none⟩)) (w' := w) ?_ ?_
  · unfold execOp
    simp only [hi.op, opF, evalT h.s1, Sem.run_bind, fieldP6, Result.andThen_ok]
    rfl
  · rw [hi.dst]
    exact done_pure (by omega) h _ rfl (fun _ => rfl)
theorem step16 (h : HoldsAt p w0 w a) (hi : IsOp ops 16 o) (hg : ∀ k ∈ depF 16, GoodAt p k a w) : StepOk p w0 Q ops 16 o a w := by
  unfold StepOk
  rw [if_pos (wanted_none hi.guard)]
  have e : a.eval (.tmp 35) = .pointer (some ⟨p.B, 6, none⟩) := evalT (hg 15 (by simp [depF]) rfl)
  refine oper_val (v := .bool (p.b2)) (w' := w) ?_ ?_
  · have hc := h.c6
    unfold execOp
    simp only [hi.op, opF]
    rw [e]
    go_simp
  · rw [hi.dst]
    exact done_pure (by omega) h _ rfl (fun _ => rfl)
theorem step17 (h : HoldsAt p w0 w a) (hi : IsOp ops 17 o) (hg : ∀ k ∈ depF 17, GoodAt p k a w) : StepOk p w0 Q ops 17 o a w := by
  unfold StepOk
  rw [if_pos (wanted_none hi.guard)]
  have e : a.eval (.tmp 36) = .bool (p.b2) := evalT (hg 16 (by simp [depF]) rfl)
  refine oper_val (v := .bool (p.b2)) (w' := w) ?_ ?_
  · unfold execOp
    simp only [hi.op, opF]
    rw [e]
    rfl
  · rw [hi.dst]
    exact done_pure (by omega) h _ rfl (fun _ => rfl)
theorem step18 (h : HoldsAt p w0 w a) (hi : IsOp ops 18 o) (hg : ∀ k ∈ depF 18, GoodAt p k a w) (hy : yielded ops a.tmps 17 = some (p.b2)) : StepOk p w0 Q ops 18 o a w := by
  unfold StepOk
  cases hgd : (p.b2) with
  | false =>
    rw [if_neg (by rw [wanted_some hi.guard hy, hgd]; decide), hi.dst]
    exact done_off (by omega) h hgd
  | true =>
    rw [if_pos (by rw [wanted_some hi.guard hy, hgd])]
    have e : a.eval (.tmp 3) = .bool p.lb := evalT (h.s3)
    refine oper_val (v := .bool (p.lb)) (w' := w) ?_ ?_
    · unfold execOp
      simp only [hi.op, opF]
      rw [e]
      rfl
    · rw [hi.dst]
      exact done_pure (by omega) h _ rfl (fun _ => rfl)
theorem step19 (h : HoldsAt p w0 w a) (hi : IsOp ops 19 o) (hg : ∀ k ∈ depF 19, GoodAt p k a w) (hy : yielded ops a.tmps 17 = some (p.b2)) : StepOk p w0 Q ops 19 o a w := by
  unfold StepOk
  cases hgd : (p.b2) with
  | false =>
    rw [if_neg (by rw [wanted_some hi.guard hy, hgd]; decide), hi.dst]
    exact done_off (by omega) h hgd
  | true =>
    rw [if_pos (by rw [wanted_some hi.guard hy, hgd])]
    have e : a.eval (.tmp 38) = .bool (p.lb) := evalT (hg 18 (by simp [depF]) hgd)
    refine oper_val (v := .bool (!p.lb)) (w' := w) ?_ ?_
    · unfold execOp
      simp only [hi.op, opF]
      rw [e]
      go_simp
    · rw [hi.dst]
      exact done_pure (by omega) h _ rfl (fun _ => rfl)
theorem step20 (h : HoldsAt p w0 w a) (hi : IsOp ops 20 o) (hg : ∀ k ∈ depF 20, GoodAt p k a w) : StepOk p w0 Q ops 20 o a w := by
  unfold StepOk
  rw [if_pos (wanted_none hi.guard)]
  have e1 : a.eval (.tmp 37) = .bool (p.b2) := evalT (hg 17 (by simp [depF]) rfl)
  cases hc : (p.b2) with
  | false =>
    rw [hc] at e1
    refine oper_val (v := .bool false) (w' := w) ?_ ?_
    · unfold execOp
      simp only [hi.op, opF]
      rw [e1]
      first | rfl | go_simp
    · rw [hi.dst]
      exact done_pure (by omega) h _ rfl (fun _ => by unfold valF; rw [hc]; rfl)
  | true =>
    have e2 : a.eval (.tmp 39) = .bool (!p.lb) := evalT (hg 19 (by simp [depF]) hc)
    rw [hc] at e1
    refine oper_val (v := .bool (!p.lb)) (w' := w) ?_ ?_
    · unfold execOp
      simp only [hi.op, opF]
      rw [e1, e2]
      first | rfl | go_simp
    · rw [hi.dst]
      exact done_pure (by omega) h _ rfl (fun _ => by unfold valF; rw [hc]; rfl)
theorem step21 (h : HoldsAt p w0 w a) (hi : IsOp ops 21 o) (hg : ∀ k ∈ depF 21, GoodAt p k a w) : StepOk p w0 Q ops 21 o a w := by
  unfold StepOk
  rw [if_pos (wanted_none hi.guard)]
  refine oper_val (v := .pointer (some ⟨p.B, 7, none⟩)) (w' := w) ?_ ?_
  · unfold execOp
    simp only [hi.op, opF, evalT h.s1, Sem.run_bind, fieldP7, Result.andThen_ok]
    rfl
  · rw [hi.dst]
    exact done_pure (by omega) h _ rfl (fun _ => rfl)
theorem step22 (h : HoldsAt p w0 w a) (hi : IsOp ops 22 o) (hg : ∀ k ∈ depF 22, GoodAt p k a w) : StepOk p w0 Q ops 22 o a w := by
  unfold StepOk
  rw [if_pos (wanted_none hi.guard)]
  have e : a.eval (.tmp 41) = .pointer (some ⟨p.B, 7, none⟩) := evalT (hg 21 (by simp [depF]) rfl)
  refine oper_val (v := .bool (p.b3)) (w' := w) ?_ ?_
  · have hc := h.c7
    unfold execOp
    simp only [hi.op, opF]
    rw [e]
    go_simp
  · rw [hi.dst]
    exact done_pure (by omega) h _ rfl (fun _ => rfl)
theorem step23 (h : HoldsAt p w0 w a) (hi : IsOp ops 23 o) (hg : ∀ k ∈ depF 23, GoodAt p k a w) : StepOk p w0 Q ops 23 o a w := by
  unfold StepOk
  rw [if_pos (wanted_none hi.guard)]
  have e : a.eval (.tmp 42) = .bool (p.b3) := evalT (hg 22 (by simp [depF]) rfl)
  refine oper_val (v := .bool (p.b3)) (w' := w) ?_ ?_
  · unfold execOp
    simp only [hi.op, opF]
    rw [e]
    rfl
  · rw [hi.dst]
    exact done_pure (by omega) h _ rfl (fun _ => rfl)
theorem step24 (h : HoldsAt p w0 w a) (hi : IsOp ops 24 o) (hg : ∀ k ∈ depF 24, GoodAt p k a w) (hy : yielded ops a.tmps 23 = some (p.b3)) : StepOk p w0 Q ops 24 o a w := by
  unfold StepOk
  cases hgd : (p.b3) with
  | false =>
    rw [if_neg (by rw [wanted_some hi.guard hy, hgd]; decide), hi.dst]
    exact done_off (by omega) h hgd
  | true =>
    rw [if_pos (by rw [wanted_some hi.guard hy, hgd])]
    refine oper_val (v := .pointer (some ⟨p.B, 2, none⟩)) (w' := w) ?_ ?_
    · unfold execOp
      simp only [hi.op, opF, evalT h.s1, Sem.run_bind, fieldP2, Result.andThen_ok]
      rfl
    · rw [hi.dst]
      exact done_pure (by omega) h _ rfl (fun _ => rfl)
theorem step25 (h : HoldsAt p w0 w a) (hi : IsOp ops 25 o) (hg : ∀ k ∈ depF 25, GoodAt p k a w) (hy : yielded ops a.tmps 23 = some (p.b3)) : StepOk p w0 Q ops 25 o a w := by
  unfold StepOk
  cases hgd : (p.b3) with
  | false =>
    rw [if_neg (by rw [wanted_some hi.guard hy, hgd]; decide), hi.dst]
    exact done_off (by omega) h hgd
  | true =>
    rw [if_pos (by rw [wanted_some hi.guard hy, hgd])]
    have e : a.eval (.tmp 44) = .pointer (some ⟨p.B, 2, none⟩) := evalT (hg 24 (by simp [depF]) hgd)
    refine oper_val (v := .int .i64 p.t) (w' := w) ?_ ?_
    · have hc := h.c2
      unfold execOp
      simp only [hi.op, opF]
      rw [e]
      go_simp
    · rw [hi.dst]
      exact done_pure (by omega) h _ rfl (fun _ => rfl)
theorem step26 (h : HoldsAt p w0 w a) (hi : IsOp ops 26 o) (hg : ∀ k ∈ depF 26, GoodAt p k a w) (hy : yielded ops a.tmps 23 = some (p.b3)) : StepOk p w0 Q ops 26 o a w := by
  unfold StepOk
  cases hgd : (p.b3) with
  | false =>
    rw [if_neg (by rw [wanted_some hi.guard hy, hgd]; decide), hi.dst]
    exact done_off (by omega) h hgd
  | true =>
    rw [if_pos (by rw [wanted_some hi.guard hy, hgd])]
    have e : a.eval (.tmp 45) = .int .i64 p.t := evalT (hg 25 (by simp [depF]) hgd)
    refine oper_val (v := .bool (p.t == 3)) (w' := w) ?_ ?_
    · unfold execOp
      simp only [hi.op, opF]
      rw [e]
      go_simp
    · rw [hi.dst]
      exact done_pure (by omega) h _ rfl (fun _ => rfl)
theorem step27 (h : HoldsAt p w0 w a) (hi : IsOp ops 27 o) (hg : ∀ k ∈ depF 27, GoodAt p k a w) (hy : yielded ops a.tmps 23 = some (p.b3)) : StepOk p w0 Q ops 27 o a w := by
  unfold StepOk
  cases hgd : (p.b3) with
  | false =>
    rw [if_neg (by rw [wanted_some hi.guard hy, hgd]; decide), hi.dst]
    exact done_off (by omega) h hgd
  | true =>
    rw [if_pos (by rw [wanted_some hi.guard hy, hgd])]
    refine oper_val (v := .pointer (some ⟨p.B, 2, none⟩)) (w' := w) ?_ ?_
    · unfold execOp
      simp only [hi.op, opF, evalT h.s1, Sem.run_bind, fieldP2, Result.andThen_ok]
      rfl
    · rw [hi.dst]
      exact done_pure (by omega) h _ rfl (fun _ => rfl)
theorem step28 (h : HoldsAt p w0 w a) (hi : IsOp ops 28 o) (hg : ∀ k ∈ depF 28, GoodAt p k a w) (hy : yielded ops a.tmps 23 = some (p.b3)) : StepOk p w0 Q ops 28 o a w := by
  unfold StepOk
  cases hgd : (p.b3) with
  | false =>
    rw [if_neg (by rw [wanted_some hi.guard hy, hgd]; decide), hi.dst]
    exact done_off (by omega) h hgd
  | true =>
    rw [if_pos (by rw [wanted_some hi.guard hy, hgd])]
    have e : a.eval (.tmp 47) = .pointer (some ⟨p.B, 2, none⟩) := evalT (hg 27 (by simp [depF]) hgd)
    refine oper_val (v := .int .i64 p.t) (w' := w) ?_ ?_
    · have hc := h.c2
      unfold execOp
      simp only [hi.op, opF]
      rw [e]
      go_simp
    · rw [hi.dst]
      exact done_pure (by omega) h _ rfl (fun _ => rfl)
theorem step29 (h : HoldsAt p w0 w a) (hi : IsOp ops 29 o) (hg : ∀ k ∈ depF 29, GoodAt p k a w) (hy : yielded ops a.tmps 23 = some (p.b3)) : StepOk p w0 Q ops 29 o a w := by
  unfold StepOk
  cases hgd : (p.b3) with
  | false =>
    rw [if_neg (by rw [wanted_some hi.guard hy, hgd]; decide), hi.dst]
    exact done_off (by omega) h hgd
  | true =>
    rw [if_pos (by rw [wanted_some hi.guard hy, hgd])]
    have e : a.eval (.tmp 48) = .int .i64 p.t := evalT (hg 28 (by simp [depF]) hgd)
    refine oper_val (v := .bool (p.t == 4)) (w' := w) ?_ ?_
    · unfold execOp
      simp only [hi.op, opF]
      rw [e]
      go_simp
    · rw [hi.dst]
      exact done_pure (by omega) h _ rfl (fun _ => rfl)
theorem step30 (h : HoldsAt p w0 w a) (hi : IsOp ops 30 o) (hg : ∀ k ∈ depF 30, GoodAt p k a w) (hy : yielded ops a.tmps 23 = some (p.b3)) : StepOk p w0 Q ops 30 o a w := by
  unfold StepOk
  cases hgd : (p.b3) with
  | false =>
    rw [if_neg (by rw [wanted_some hi.guard hy, hgd]; decide), hi.dst]
    exact done_off (by omega) h hgd
  | true =>
    rw [if_pos (by rw [wanted_some hi.guard hy, hgd])]
    have e0 : a.tmps[46]? = some (.bool (p.t == 3)) := hg 26 (by simp [depF]) hgd
    have e1 : a.tmps[49]? = some (.bool (p.t == 4)) := hg 29 (by simp [depF]) hgd
    refine oper_val (v := .slice (some ⟨w.heap.size, 0, none⟩) 2 2) (w' := w.alloc (.cells (([p.t == 3, p.t == 4] : List Bool).map Value.bool).toArray 4)) ?_ ?_
    · unfold execOp
      simp only [hi.op, opF]
      simp [e0, e1, go_sem]
    · rw [hi.dst]
      exact done_row (by omega) h [p.t == 3, p.t == 4] 4 (fun _ => rfl)
theorem step31 (h : HoldsAt p w0 w a) (hi : IsOp ops 31 o) (hg : ∀ k ∈ depF 31, GoodAt p k a w) (hy : yielded ops a.tmps 23 = some (p.b3)) : StepOk p w0 Q ops 31 o a w := by
  unfold StepOk
  cases hgd : (p.b3) with
  | false =>
    rw [if_neg (by rw [wanted_some hi.guard hy, hgd]; decide), hi.dst]
    exact done_off (by omega) h hgd
  | true =>
    rw [if_pos (by rw [wanted_some hi.guard hy, hgd])]
    obtain ⟨gb, e0, hr0⟩ := good_row (hg 30 (by simp [depF])) hgd (show rowF p 30 = some [p.t == 3, p.t == 4] from rfl)
    have e : a.tmps[50]? = some (Value.slice (some ⟨gb, 0, none⟩) 2 2) := e0
    have hr : Rd w 1 (some ⟨gb, 0, none⟩) 2 (([p.t == 3, p.t == 4] : List Bool).map Value.bool) := hr0
    refine oper_enter (f := 30) (args := #[.slice (some ⟨gb, 0, none⟩) 2 2]) ?_ (.bool ((p.t == 3) || (p.t == 4))) (either_any _ 2 2 [p.t == 3, p.t == 4] _ (by simp [List.any]) w hr (by omega)) ?_
    · unfold execOp
      simp only [hi.op, opF]
      simp [e, go_sem]
    · rw [hi.dst]
      exact done_pure (by omega) h _ rfl (fun _ => rfl)
theorem step32 (h : HoldsAt p w0 w a) (hi : IsOp ops 32 o) (hg : ∀ k ∈ depF 32, GoodAt p k a w) : StepOk p w0 Q ops 32 o a w := by
  unfold StepOk
  rw [if_pos (wanted_none hi.guard)]
  have e1 : a.eval (.tmp 43) = .bool (p.b3) := evalT (hg 23 (by simp [depF]) rfl)
  cases hc : (p.b3) with
  | false =>
    rw [hc] at e1
    refine oper_val (v := .bool false) (w' := w) ?_ ?_
    · unfold execOp
      simp only [hi.op, opF]
      rw [e1]
      first | rfl | go_simp
    · rw [hi.dst]
      exact done_pure (by omega) h _ rfl (fun _ => by unfold valF; rw [hc]; rfl)
  | true =>
    have e2 : a.eval (.tmp 51) = .bool ((p.t == 3) || (p.t == 4)) := evalT (hg 31 (by simp [depF]) hc)
    rw [hc] at e1
    refine oper_val (v := .bool ((p.t == 3) || (p.t == 4))) (w' := w) ?_ ?_
    · unfold execOp
      simp only [hi.op, opF]
      rw [e1, e2]
      first | rfl | go_simp
    · rw [hi.dst]
      exact done_pure (by omega) h _ rfl (fun _ => by unfold valF; rw [hc]; rfl)
theorem step33 (h : HoldsAt p w0 w a) (hi : IsOp ops 33 o) (hg : ∀ k ∈ depF 33, GoodAt p k a w) : StepOk p w0 Q ops 33 o a w := by
  unfold StepOk
  rw [if_pos (wanted_none hi.guard)]
  refine oper_val (v := .pointer (some ⟨p.B, 11, none⟩)) (w' := w) ?_ ?_
  · unfold execOp
    simp only [hi.op, opF, evalT h.s1, Sem.run_bind, fieldP11, Result.andThen_ok]
    rfl
  · rw [hi.dst]
    exact done_pure (by omega) h _ rfl (fun _ => rfl)
theorem step34 (h : HoldsAt p w0 w a) (hi : IsOp ops 34 o) (hg : ∀ k ∈ depF 34, GoodAt p k a w) : StepOk p w0 Q ops 34 o a w := by
  unfold StepOk
  rw [if_pos (wanted_none hi.guard)]
  have e : a.eval (.tmp 53) = .pointer (some ⟨p.B, 11, none⟩) := evalT (hg 33 (by simp [depF]) rfl)
  refine oper_val (v := .bool (p.b7)) (w' := w) ?_ ?_
  · have hc := h.c11
    unfold execOp
    simp only [hi.op, opF]
    rw [e]
    go_simp
  · rw [hi.dst]
    exact done_pure (by omega) h _ rfl (fun _ => rfl)
theorem step35 (h : HoldsAt p w0 w a) (hi : IsOp ops 35 o) (hg : ∀ k ∈ depF 35, GoodAt p k a w) : StepOk p w0 Q ops 35 o a w := by
  unfold StepOk
  rw [if_pos (wanted_none hi.guard)]
  have e : a.eval (.tmp 54) = .bool (p.b7) := evalT (hg 34 (by simp [depF]) rfl)
  refine oper_val (v := .bool (p.b7)) (w' := w) ?_ ?_
  · unfold execOp
    simp only [hi.op, opF]
    rw [e]
    rfl
  · rw [hi.dst]
    exact done_pure (by omega) h _ rfl (fun _ => rfl)
theorem step36 (h : HoldsAt p w0 w a) (hi : IsOp ops 36 o) (hg : ∀ k ∈ depF 36, GoodAt p k a w) (hy : yielded ops a.tmps 35 = some (p.b7)) : StepOk p w0 Q ops 36 o a w := by
  unfold StepOk
  cases hgd : (p.b7) with
  | false =>
    rw [if_neg (by rw [wanted_some hi.guard hy, hgd]; decide), hi.dst]
    exact done_off (by omega) h hgd
  | true =>
    rw [if_pos (by rw [wanted_some hi.guard hy, hgd])]
    refine oper_val (v := .pointer (some ⟨p.B, 10, none⟩)) (w' := w) ?_ ?_
    · unfold execOp
      simp only [hi.op, opF, evalT h.s1, Sem.run_bind, fieldP10, Result.andThen_ok]
      rfl
    · rw [hi.dst]
      exact done_pure (by omega) h _ rfl (fun _ => rfl)
theorem step37 (h : HoldsAt p w0 w a) (hi : IsOp ops 37 o) (hg : ∀ k ∈ depF 37, GoodAt p k a w) (hy : yielded ops a.tmps 35 = some (p.b7)) : StepOk p w0 Q ops 37 o a w := by
  unfold StepOk
  cases hgd : (p.b7) with
  | false =>
    rw [if_neg (by rw [wanted_some hi.guard hy, hgd]; decide), hi.dst]
    exact done_off (by omega) h hgd
  | true =>
    rw [if_pos (by rw [wanted_some hi.guard hy, hgd])]
    have e : a.eval (.tmp 56) = .pointer (some ⟨p.B, 10, none⟩) := evalT (hg 36 (by simp [depF]) hgd)
    refine oper_val (v := .bool (p.b6)) (w' := w) ?_ ?_
    · have hc := h.c10
      unfold execOp
      simp only [hi.op, opF]
      rw [e]
      go_simp
    · rw [hi.dst]
      exact done_pure (by omega) h _ rfl (fun _ => rfl)
theorem step38 (h : HoldsAt p w0 w a) (hi : IsOp ops 38 o) (hg : ∀ k ∈ depF 38, GoodAt p k a w) (hy : yielded ops a.tmps 35 = some (p.b7)) : StepOk p w0 Q ops 38 o a w := by
  unfold StepOk
  cases hgd : (p.b7) with
  | false =>
    rw [if_neg (by rw [wanted_some hi.guard hy, hgd]; decide), hi.dst]
    exact done_off (by omega) h hgd
  | true =>
    rw [if_pos (by rw [wanted_some hi.guard hy, hgd])]
    have e : a.eval (.tmp 57) = .bool (p.b6) := evalT (hg 37 (by simp [depF]) hgd)
    refine oper_val (v := .bool (!p.b6)) (w' := w) ?_ ?_
    · unfold execOp
      simp only [hi.op, opF]
      rw [e]
      go_simp
    · rw [hi.dst]
      exact done_pure (by omega) h _ rfl (fun _ => rfl)
theorem step39 (h : HoldsAt p w0 w a) (hi : IsOp ops 39 o) (hg : ∀ k ∈ depF 39, GoodAt p k a w) : StepOk p w0 Q ops 39 o a w := by
  unfold StepOk
  rw [if_pos (wanted_none hi.guard)]
  have e1 : a.eval (.tmp 55) = .bool (p.b7) := evalT (hg 35 (by simp [depF]) rfl)
  cases hc : (p.b7) with
  | false =>
    rw [hc] at e1
    refine oper_val (v := .bool false) (w' := w) ?_ ?_
    · unfold execOp
      simp only [hi.op, opF]
      rw [e1]
      first | rfl | go_simp
    · rw [hi.dst]
      exact done_pure (by omega) h _ rfl (fun _ => by unfold valF; rw [hc]; rfl)
  | true =>
    have e2 : a.eval (.tmp 58) = .bool (!p.b6) := evalT (hg 38 (by simp [depF]) hc)
    rw [hc] at e1
    refine oper_val (v := .bool (!p.b6)) (w' := w) ?_ ?_
    · unfold execOp
      simp only [hi.op, opF]
      rw [e1, e2]
      first | rfl | go_simp
    · rw [hi.dst]
      exact done_pure (by omega) h _ rfl (fun _ => by unfold valF; rw [hc]; rfl)
theorem step40 (h : HoldsAt p w0 w a) (hi : IsOp ops 40 o) (hg : ∀ k ∈ depF 40, GoodAt p k a w) : StepOk p w0 Q ops 40 o a w := by
  unfold StepOk
  rw [if_pos (wanted_none hi.guard)]
  have e0 : a.tmps[34]? = some (.bool (!p.b1 && (p.lb || (p.tb || (p.b3 || (p.b4 || p.b5)))))) := hg 14 (by simp [depF]) rfl
  have e1 : a.tmps[40]? = some (.bool (p.b2 && !p.lb)) := hg 20 (by simp [depF]) rfl
  have e2 : a.tmps[52]? = some (.bool (p.b3 && ((p.t == 3) || (p.t == 4)))) := hg 32 (by simp [depF]) rfl
  have e3 : a.tmps[59]? = some (.bool (p.b7 && !p.b6)) := hg 39 (by simp [depF]) rfl
  refine oper_val (v := .slice (some ⟨w.heap.size, 0, none⟩) 4 4) (w' := w.alloc (.cells (([!p.b1 && (p.lb || (p.tb || (p.b3 || (p.b4 || p.b5)))), p.b2 && !p.lb, p.b3 && ((p.t == 3) || (p.t == 4)), p.b7 && !p.b6] : List Bool).map Value.bool).toArray 4)) ?_ ?_
  · unfold execOp
    simp only [hi.op, opF]
    simp [e0, e1, e2, e3, go_sem]
  · rw [hi.dst]
    exact done_row (by omega) h [!p.b1 && (p.lb || (p.tb || (p.b3 || (p.b4 || p.b5)))), p.b2 && !p.lb, p.b3 && ((p.t == 3) || (p.t == 4)), p.b7 && !p.b6] 4 (fun _ => rfl)
theorem step41 (h : HoldsAt p w0 w a) (hi : IsOp ops 41 o) (hg : ∀ k ∈ depF 41, GoodAt p k a w) : StepOk p w0 Q ops 41 o a w := by
  unfold StepOk
  rw [if_pos (wanted_none hi.guard)]
  obtain ⟨gb, e0, hr0⟩ := good_row (hg 40 (by simp [depF])) rfl (show rowF p 40 = some [!p.b1 && (p.lb || (p.tb || (p.b3 || (p.b4 || p.b5)))), p.b2 && !p.lb, p.b3 && ((p.t == 3) || (p.t == 4)), p.b7 && !p.b6] from rfl)
  have e : a.tmps[60]? = some (Value.slice (some ⟨gb, 0, none⟩) 4 4) := e0
  have hr : Rd w 1 (some ⟨gb, 0, none⟩) 4 (([!p.b1 && (p.lb || (p.tb || (p.b3 || (p.b4 || p.b5)))), p.b2 && !p.lb, p.b3 && ((p.t == 3) || (p.t == 4)), p.b7 && !p.b6] : List Bool).map Value.bool) := hr0
  refine oper_enter (f := 30) (args := #[.slice (some ⟨gb, 0, none⟩) 4 4]) ?_ (.bool ((!p.b1 && (p.lb || (p.tb || (p.b3 || (p.b4 || p.b5))))) || ((p.b2 && !p.lb) || ((p.b3 && ((p.t == 3) || (p.t == 4))) || (p.b7 && !p.b6))))) (either_any _ 4 4 [!p.b1 && (p.lb || (p.tb || (p.b3 || (p.b4 || p.b5)))), p.b2 && !p.lb, p.b3 && ((p.t == 3) || (p.t == 4)), p.b7 && !p.b6] _ (by simp [List.any]) w hr (by omega)) ?_
  · unfold execOp
    simp only [hi.op, opF]
    simp [e, go_sem]
  · rw [hi.dst]
    exact done_pure (by omega) h _ rfl (fun _ => rfl)
theorem step42 (h : HoldsAt p w0 w a) (hi : IsOp ops 42 o) (hg : ∀ k ∈ depF 42, GoodAt p k a w) : StepOk p w0 Q ops 42 o a w := by
  unfold StepOk
  rw [if_pos (wanted_none hi.guard)]
  have e : a.eval (.tmp 61) = .bool ((!p.b1 && (p.lb || (p.tb || (p.b3 || (p.b4 || p.b5))))) || ((p.b2 && !p.lb) || ((p.b3 && ((p.t == 3) || (p.t == 4))) || (p.b7 && !p.b6)))) := evalT (hg 41 (by simp [depF]) rfl)
  refine oper_val (v := .bool ((!p.b1 && (p.lb || (p.tb || (p.b3 || (p.b4 || p.b5))))) || ((p.b2 && !p.lb) || ((p.b3 && ((p.t == 3) || (p.t == 4))) || (p.b7 && !p.b6))))) (w' := w) ?_ ?_
  · unfold execOp
    simp only [hi.op, opF]
    rw [e]
    rfl
  · rw [hi.dst]
    exact done_pure (by omega) h _ rfl (fun _ => rfl)
end
end Go.Proofs.YtcbiaeeifclieaaGreatDoor
/- option.Check's region that draws its order, whole. -/
namespace Go.Proofs.YtcbiaeeifclieaaGreatDoor
open Go.RowKit

section
variable {p : Prm} {w0 w : World} {a : Act} {Q : Exit → Act → World → Prop} {o : Oper} {ops : Array Oper}
set_option maxRecDepth 100000 in
theorem all_steps (hsz : ops.size = 43) (hops : ∀ i o, ops[i]? = some o → IsOp ops i o) (i : Nat) (o : Oper) (ho : ops[i]? = some o) (a : Act) (w : World) (h : HoldsAt p w0 w a) (hd : ∀ e ∈ o.after, Region.binds .any e = true → GoodAt p e.on a w) : StepOk p w0 Q ops i o a w := by
  have hi := hops i o ho
  have hlt : i < 43 := by have := (Array.getElem?_eq_some_iff.1 ho).1; omega
  have hg : ∀ k ∈ depF i, GoodAt p k a w := fun k hk => by
    obtain ⟨e, he, rfl, hb⟩ := hi.deps k hk
    exact hd e he hb
  have hyl : ∀ (j : Nat) (g : Bool), j < 43 → a.tmps[slotF j]? = some (.bool g) → yielded ops a.tmps j = some g := fun j g hj ht => by
    obtain ⟨oj, hoj⟩ : ∃ oj, ops[j]? = some oj := ⟨_, Array.getElem?_eq_getElem (by omega)⟩
    exact yielded_at hoj (hops j oj hoj).dst ht
  clear hd ho hops
  have hc : i = 0 ∨ i = 1 ∨ i = 2 ∨ i = 3 ∨ i = 4 ∨ i = 5 ∨ i = 6 ∨ i = 7 ∨ i = 8 ∨ i = 9 ∨ i = 10 ∨ i = 11 ∨ i = 12 ∨ i = 13 ∨ i = 14 ∨ i = 15 ∨ i = 16 ∨ i = 17 ∨ i = 18 ∨ i = 19 ∨ i = 20 ∨ i = 21 ∨ i = 22 ∨ i = 23 ∨ i = 24 ∨ i = 25 ∨ i = 26 ∨ i = 27 ∨ i = 28 ∨ i = 29 ∨ i = 30 ∨ i = 31 ∨ i = 32 ∨ i = 33 ∨ i = 34 ∨ i = 35 ∨ i = 36 ∨ i = 37 ∨ i = 38 ∨ i = 39 ∨ i = 40 ∨ i = 41 ∨ i = 42 := by omega
  rcases hc with rfl | rfl | rfl | rfl | rfl | rfl | rfl | rfl | rfl | rfl | rfl | rfl | rfl | rfl | rfl | rfl | rfl | rfl | rfl | rfl | rfl | rfl | rfl | rfl | rfl | rfl | rfl | rfl | rfl | rfl | rfl | rfl | rfl | rfl | rfl | rfl | rfl | rfl | rfl | rfl | rfl | rfl | rfl
  · exact step0 h hi hg
  · exact step1 h hi hg
  · exact step2 h hi hg
  · exact step3 h hi hg
  · exact step4 h hi hg (hyl 3 _ (by omega) (hg 3 (by simp [depF]) rfl))
  · exact step5 h hi hg (hyl 3 _ (by omega) (hg 3 (by simp [depF]) rfl))
  · exact step6 h hi hg (hyl 3 _ (by omega) (hg 3 (by simp [depF]) rfl))
  · exact step7 h hi hg (hyl 3 _ (by omega) (hg 3 (by simp [depF]) rfl))
  · exact step8 h hi hg (hyl 3 _ (by omega) (hg 3 (by simp [depF]) rfl))
  · exact step9 h hi hg (hyl 3 _ (by omega) (hg 3 (by simp [depF]) rfl))
  · exact step10 h hi hg (hyl 3 _ (by omega) (hg 3 (by simp [depF]) rfl))
  · exact step11 h hi hg (hyl 3 _ (by omega) (hg 3 (by simp [depF]) rfl))
  · exact step12 h hi hg (hyl 3 _ (by omega) (hg 3 (by simp [depF]) rfl))
  · exact step13 h hi hg (hyl 3 _ (by omega) (hg 3 (by simp [depF]) rfl))
  · exact step14 h hi hg
  · exact step15 h hi hg
  · exact step16 h hi hg
  · exact step17 h hi hg
  · exact step18 h hi hg (hyl 17 _ (by omega) (hg 17 (by simp [depF]) rfl))
  · exact step19 h hi hg (hyl 17 _ (by omega) (hg 17 (by simp [depF]) rfl))
  · exact step20 h hi hg
  · exact step21 h hi hg
  · exact step22 h hi hg
  · exact step23 h hi hg
  · exact step24 h hi hg (hyl 23 _ (by omega) (hg 23 (by simp [depF]) rfl))
  · exact step25 h hi hg (hyl 23 _ (by omega) (hg 23 (by simp [depF]) rfl))
  · exact step26 h hi hg (hyl 23 _ (by omega) (hg 23 (by simp [depF]) rfl))
  · exact step27 h hi hg (hyl 23 _ (by omega) (hg 23 (by simp [depF]) rfl))
  · exact step28 h hi hg (hyl 23 _ (by omega) (hg 23 (by simp [depF]) rfl))
  · exact step29 h hi hg (hyl 23 _ (by omega) (hg 23 (by simp [depF]) rfl))
  · exact step30 h hi hg (hyl 23 _ (by omega) (hg 23 (by simp [depF]) rfl))
  · exact step31 h hi hg (hyl 23 _ (by omega) (hg 23 (by simp [depF]) rfl))
  · exact step32 h hi hg
  · exact step33 h hi hg
  · exact step34 h hi hg
  · exact step35 h hi hg
  · exact step36 h hi hg (hyl 35 _ (by omega) (hg 35 (by simp [depF]) rfl))
  · exact step37 h hi hg (hyl 35 _ (by omega) (hg 35 (by simp [depF]) rfl))
  · exact step38 h hi hg (hyl 35 _ (by omega) (hg 35 (by simp [depF]) rfl))
  · exact step39 h hi hg
  · exact step40 h hi hg
  · exact step41 h hi hg
  · exact step42 h hi hg
def backB (ops : Array Oper) : Bool := (List.range ops.size).all fun i => ((ops[i]?).map fun o => o.after.all fun e => decide (e.on < i)).getD true
theorem back_of (h : backB ops = true) : ∀ (i : Nat) (o : Oper), ops[i]? = some o → ∀ e ∈ o.after, e.on < i := fun i o ho e he => by
  have hi := (Array.getElem?_eq_some_iff.1 ho).1
  have := List.all_eq_true.1 h i (List.mem_range.2 hi)
  rw [ho] at this
  simp only [Option.map_some, Option.getD_some] at this
  rw [Array.all_eq_true_iff_forall_mem] at this
  simpa using this e he
def depB (ops : Array Oper) : Bool := (List.range 43).all fun i => (depF i).all fun k => ((ops[i]?).map fun o => o.after.any fun e => e.on == k && Region.binds .any e).getD false
theorem isOp_of (h1 : ops.toList.map (fun o => (o.dst, o.op, o.guard)) = (List.range 43).map fun i => (some (slotF i), opF i, guF i)) (h2 : depB ops = true) : ops.size = 43 ∧ ∀ i o, ops[i]? = some o → IsOp ops i o := by
  have hsz : ops.size = 43 := by
    have := congrArg List.length h1
    simpa using this
  refine ⟨hsz, fun i o ho => ?_⟩
  have hi : i < 43 := by have := (Array.getElem?_eq_some_iff.1 ho).1; omega
  have e := congrArg (fun l => l[i]?) h1
  simp only [List.getElem?_map, Array.getElem?_toList, ho, Option.map_some, List.getElem?_range hi] at e
  injection e with e
  injection e with e1 e
  injection e with e2 e3
  refine ⟨e1, e2, e3, fun k hk => ?_⟩
  have := List.all_eq_true.1 (List.all_eq_true.1 h2 i (List.mem_range.2 hi)) k hk
  rw [ho] at this
  simp only [Option.map_some, Option.getD_some] at this
  rw [← Array.any_toList, List.any_eq_true] at this
  obtain ⟨x, hx, hv⟩ := this
  rw [Bool.and_eq_true] at hv
  exact ⟨x, Array.mem_toList_iff.1 hx, by simpa using hv.1, hv.2⟩
/-- Whether the options do not go together, as the region reckons it. -/
def oddP (p : Prm) : Bool := (!p.b1 && (p.lb || (p.tb || (p.b3 || (p.b4 || p.b5))))) || ((p.b2 && !p.lb) || ((p.b3 && ((p.t == 3) || (p.t == 4))) || (p.b7 && !p.b6)))
theorem check_region {id : Nat} (hm : Tryz.prog.follows .mixedOrders = true) (h1 : ops.toList.map (fun o => (o.dst, o.op, o.guard)) = (List.range 43).map fun i => (some (slotF i), opF i, guF i)) (h2 : depB ops = true) (h3 : backB ops = true) (h : HoldsAt p w0 w.drew a)
    (hend : ∀ a' w', HoldsAt p w0 w' a' → a'.tmps[19]? = some (.bool (oddP p)) → Q .normal a' w') : (Code.region id ops true).wp Tryz.prog Q a w := by
  obtain ⟨hsz, hops⟩ := isOp_of h1 h2
  exact wp_region_inv hm (fun a w => HoldsAt p w0 w a) (GoodAt p) (back_of h3) h (fun i o ho a w hS hd => all_steps hsz hops i o ho a w hS hd) (fun a' w' hS hG => hend a' w' hS (hG 42 (by omega) rfl))
end
set_option maxRecDepth 100000 in
theorem arr62 (t : Array Value) (h : t.size = 62) : ∃ u0 u1 u2 u3 u4 u5 u6 u7 u8 u9 u10 u11 u12 u13 u14 u15 u16 u17 u18 u19 u20 u21 u22 u23 u24 u25 u26 u27 u28 u29 u30 u31 u32 u33 u34 u35 u36 u37 u38 u39 u40 u41 u42 u43 u44 u45 u46 u47 u48 u49 u50 u51 u52 u53 u54 u55 u56 u57 u58 u59 u60 u61, t = #[u0, u1, u2, u3, u4, u5, u6, u7, u8, u9, u10, u11, u12, u13, u14, u15, u16, u17, u18, u19, u20, u21, u22, u23, u24, u25, u26, u27, u28, u29, u30, u31, u32, u33, u34, u35, u36, u37, u38, u39, u40, u41, u42, u43, u44, u45, u46, u47, u48, u49, u50, u51, u52, u53, u54, u55, u56, u57, u58, u59, u60, u61] := by
  obtain ⟨l⟩ := t
  simp only [List.size_toArray] at h
  rcases l with _ | ⟨u0, l⟩
  · simp at h
  rcases l with _ | ⟨u1, l⟩
  · simp at h
  rcases l with _ | ⟨u2, l⟩
  · simp at h
  rcases l with _ | ⟨u3, l⟩
  · simp at h
  rcases l with _ | ⟨u4, l⟩
  · simp at h
  rcases l with _ | ⟨u5, l⟩
  · simp at h
  rcases l with _ | ⟨u6, l⟩
  · simp at h
  rcases l with _ | ⟨u7, l⟩
  · simp at h
  rcases l with _ | ⟨u8, l⟩
  · simp at h
  rcases l with _ | ⟨u9, l⟩
  · simp at h
  rcases l with _ | ⟨u10, l⟩
  · simp at h
  rcases l with _ | ⟨u11, l⟩
  · simp at h
  rcases l with _ | ⟨u12, l⟩
  · simp at h
  rcases l with _ | ⟨u13, l⟩
  · simp at h
  rcases l with _ | ⟨u14, l⟩
  · simp at h
  rcases l with _ | ⟨u15, l⟩
  · simp at h
  rcases l with _ | ⟨u16, l⟩
  · simp at h
  rcases l with _ | ⟨u17, l⟩
  · simp at h
  rcases l with _ | ⟨u18, l⟩
  · simp at h
  rcases l with _ | ⟨u19, l⟩
  · simp at h
  rcases l with _ | ⟨u20, l⟩
  · simp at h
  rcases l with _ | ⟨u21, l⟩
  · simp at h
  rcases l with _ | ⟨u22, l⟩
  · simp at h
  rcases l with _ | ⟨u23, l⟩
  · simp at h
  rcases l with _ | ⟨u24, l⟩
  · simp at h
  rcases l with _ | ⟨u25, l⟩
  · simp at h
  rcases l with _ | ⟨u26, l⟩
  · simp at h
  rcases l with _ | ⟨u27, l⟩
  · simp at h
  rcases l with _ | ⟨u28, l⟩
  · simp at h
  rcases l with _ | ⟨u29, l⟩
  · simp at h
  rcases l with _ | ⟨u30, l⟩
  · simp at h
  rcases l with _ | ⟨u31, l⟩
  · simp at h
  rcases l with _ | ⟨u32, l⟩
  · simp at h
  rcases l with _ | ⟨u33, l⟩
  · simp at h
  rcases l with _ | ⟨u34, l⟩
  · simp at h
  rcases l with _ | ⟨u35, l⟩
  · simp at h
  rcases l with _ | ⟨u36, l⟩
  · simp at h
  rcases l with _ | ⟨u37, l⟩
  · simp at h
  rcases l with _ | ⟨u38, l⟩
  · simp at h
  rcases l with _ | ⟨u39, l⟩
  · simp at h
  rcases l with _ | ⟨u40, l⟩
  · simp at h
  rcases l with _ | ⟨u41, l⟩
  · simp at h
  rcases l with _ | ⟨u42, l⟩
  · simp at h
  rcases l with _ | ⟨u43, l⟩
  · simp at h
  rcases l with _ | ⟨u44, l⟩
  · simp at h
  rcases l with _ | ⟨u45, l⟩
  · simp at h
  rcases l with _ | ⟨u46, l⟩
  · simp at h
  rcases l with _ | ⟨u47, l⟩
  · simp at h
  rcases l with _ | ⟨u48, l⟩
  · simp at h
  rcases l with _ | ⟨u49, l⟩
  · simp at h
  rcases l with _ | ⟨u50, l⟩
  · simp at h
  rcases l with _ | ⟨u51, l⟩
  · simp at h
  rcases l with _ | ⟨u52, l⟩
  · simp at h
  rcases l with _ | ⟨u53, l⟩
  · simp at h
  rcases l with _ | ⟨u54, l⟩
  · simp at h
  rcases l with _ | ⟨u55, l⟩
  · simp at h
  rcases l with _ | ⟨u56, l⟩
  · simp at h
  rcases l with _ | ⟨u57, l⟩
  · simp at h
  rcases l with _ | ⟨u58, l⟩
  · simp at h
  rcases l with _ | ⟨u59, l⟩
  · simp at h
  rcases l with _ | ⟨u60, l⟩
  · simp at h
  rcases l with _ | ⟨u61, l⟩
  · simp at h
  rcases l with _ | ⟨x, l⟩
  · exact ⟨u0, u1, u2, u3, u4, u5, u6, u7, u8, u9, u10, u11, u12, u13, u14, u15, u16, u17, u18, u19, u20, u21, u22, u23, u24, u25, u26, u27, u28, u29, u30, u31, u32, u33, u34, u35, u36, u37, u38, u39, u40, u41, u42, u43, u44, u45, u46, u47, u48, u49, u50, u51, u52, u53, u54, u55, u56, u57, u58, u59, u60, u61, rfl⟩
  · simp at h
end Go.Proofs.YtcbiaeeifclieaaGreatDoor
/- slices.Equal at []int: whether the two slices read alike; the world is as it was, but for draws. -/
namespace Go.Proofs.YtcbiaeeifclieaaGreatDoor
open Go.RowKit

theorem take_eq_succ {xs ys : List Int} {k : Nat} (h : xs.take k = ys.take k) {x : Int} (h1 : xs[k]? = some x) (h2 : ys[k]? = some x) : xs.take (k + 1) = ys.take (k + 1) := by
  rw [List.take_add_one, List.take_add_one, h, h1, h2]

set_option maxRecDepth 100000 in
set_option maxHeartbeats 1000000 in
theorem equalInt_same (n : Nat) (A B : Option Addr) (c d : Nat) (xs ys : List Int) (w : World) (hxn : xs.length = n) (hyn : ys.length = n)
    (hx : Rd w 1 A n (xs.map (Value.int .i64))) (hy : Rd w 1 B n (ys.map (Value.int .i64))) (hn : n ≤ maxLen) :
    Calls Tryz.prog 10 #[.slice A n c, .slice B n d] w fun e w' => e = .returned (.bool (decide (xs = ys))) ∧ ∃ q, w' = w.drewN q := by
  unfold maxLen at hn
  have HX := Lib.hid hxn
  have HY := Lib.hid hyn
  clear hxn hyn
  go_enter Tryz.func10, Tryz.ntmps10
  go_wp2
  go_loopw [13] (fun i wr => ∃ k q : Nat, k ≤ n ∧ i = .int .i64 k ∧ wr = w.drewN q ∧ xs.take k = ys.take k) (fun i _ => n - (intOf i).toNat)
  case atStart => exact ⟨0, 0, Nat.zero_le _, rfl, rfl, rfl⟩
  case round =>
    obtain ⟨k, q, hk, rfl, rfl, ht⟩ := hrel
    have HT := Lib.hid ht
    clear ht
    by_cases hlt : k < n
    · obtain ⟨x, hxk⟩ : ∃ x, xs[k]? = some x := ⟨_, List.getElem?_eq_getElem (by rw [HX.out]; exact hlt)⟩
      obtain ⟨y, hyk⟩ : ∃ y, ys[k]? = some y := ⟨_, List.getElem?_eq_getElem (by rw [HY.out]; exact hlt)⟩
      obtain ⟨a, rfl, _, ha⟩ := hx.at_ hlt
      obtain ⟨b, rfl, _, hb⟩ := hy.at_ hlt
      have ca : w.cell? (a.add k) = some (.int .i64 x) := ha _ (by rw [List.getElem?_map, hxk]; rfl)
      have cb : w.cell? (b.add k) = some (.int .i64 y) := hb _ (by rw [List.getElem?_map, hyk]; rfl)
      have HXK := Lib.hid hxk
      have HYK := Lib.hid hyk
      clear hxk hyk ha hb
      by_cases he : x = y
      · subst he
        go_wp2
        go_quiet (fail)
        go_wp2
        go_roundw
        case rel => exact ⟨k + 1, _, by omega, by go_num, rfl, take_eq_succ HT.out HXK.out HYK.out⟩
        case measure => simp [intOf]; omega
      · have hne : (x == y) = false := by simpa using he
        have hne' : (x != y) = true := by simpa using he
        have hf : decide (xs = ys) = false := decide_eq_false (fun e => he (by have h1 := HXK.out; rw [e, HYK.out] at h1; injection h1 with h1; exact h1.symm))
        clear he
        go_wp2
        go_quiet (fail)
        go_wp2
        go_ret
        exact ⟨retB (by simp [hf]), _, World.drewN_drewN _ _ _⟩
    · have hkn : k = n := by omega
      have htr : decide (xs = ys) = true := decide_eq_true (by
        have h := HT.out
        rwa [List.take_of_length_le (by rw [HX.out]; omega), List.take_of_length_le (by rw [HY.out]; omega)] at h)
      clear hkn
      go_wp2
      go_ret
      exact ⟨retB (by simp [htr]), _, rfl⟩

theorem equalInt_any (A B : Option Addr) (n m c d : Nat) (xs ys : List Int) (w : World) (hx : Rd w 1 A n (xs.map (Value.int .i64))) (hy : Rd w 1 B m (ys.map (Value.int .i64))) (hn : n ≤ maxLen) (hm : m ≤ maxLen) :
    Calls Tryz.prog 10 #[.slice A n c, .slice B m d] w fun e w' => e = .returned (.bool (decide (xs = ys))) ∧ ∃ q, w' = w.drewN q := by
  have hxl : xs.length = n := by simpa using hx.len1
  have hyl : ys.length = m := by simpa using hy.len1
  by_cases h : n = m
  · subst h
    exact equalInt_same n A B c d xs ys w hxl hyl hx hy hn
  · have hne : decide (xs = ys) = false := decide_eq_false (fun e => h (by rw [← hxl, ← hyl, e]))
    have h1 : ((n : Int) == m) = false := by simp; omega
    have h2 : ((n : Int) != m) = true := by simp; omega
    clear hxl hyl
    go_enter Tryz.func10, Tryz.ntmps10
    go_wp2
    go_ret
    exact ⟨retB (by simp [hne]), 0, rfl⟩
theorem equalInt_b (A B : Option Addr) (n m c d : Nat) (xs ys : List Int) (w : World) (hx : Rd w 1 A n (xs.map (Value.int .i64))) (hy : Rd w 1 B m (ys.map (Value.int .i64))) (hn : n ≤ maxLen) (hm : m ≤ maxLen) :
    Calls Tryz.prog 10 #[.slice A n c, .slice B m d] w fun e w' => e = .returned (.bool (decide (xs = ys))) ∧ Below w.heap.size w w' :=
  (equalInt_any A B n m c d xs ys w hx hy hn hm).mono fun _ _ ⟨he, q, hq⟩ => ⟨he, hq ▸ drewBelow q⟩
end Go.Proofs.YtcbiaeeifclieaaGreatDoor
/- Fourteen cells, on a later world. -/
namespace Go.Proofs.YtcbiaeeifclieaaGreatDoor
open Go.RowKit
theorem s14_on {w0 X Y : World} {b : Nat} {d l t g : Int} {b0 b1 b2 b3 b4 b5 b6 b7 b8 b9 : Bool} (h : X.cell? ⟨b, 0, none⟩ = some (.int .i64 d) ∧ X.cell? ⟨b, 1, none⟩ = some (.int .i64 l) ∧ X.cell? ⟨b, 2, none⟩ = some (.int .i64 t) ∧ X.cell? ⟨b, 3, none⟩ = some (.int .i64 g) ∧ X.cell? ⟨b, 4, none⟩ = some (.bool b0) ∧ X.cell? ⟨b, 5, none⟩ = some (.bool b1) ∧ X.cell? ⟨b, 6, none⟩ = some (.bool b2) ∧ X.cell? ⟨b, 7, none⟩ = some (.bool b3) ∧ X.cell? ⟨b, 8, none⟩ = some (.bool b4) ∧ X.cell? ⟨b, 9, none⟩ = some (.bool b5) ∧ X.cell? ⟨b, 10, none⟩ = some (.bool b6) ∧ X.cell? ⟨b, 11, none⟩ = some (.bool b7) ∧ X.cell? ⟨b, 12, none⟩ = some (.bool b8) ∧ X.cell? ⟨b, 13, none⟩ = some (.bool b9) ∧ Below w0.heap.size w0 X) (hb : Below X.heap.size X Y) : Y.cell? ⟨b, 0, none⟩ = some (.int .i64 d) ∧ Y.cell? ⟨b, 1, none⟩ = some (.int .i64 l) ∧ Y.cell? ⟨b, 2, none⟩ = some (.int .i64 t) ∧ Y.cell? ⟨b, 3, none⟩ = some (.int .i64 g) ∧ Y.cell? ⟨b, 4, none⟩ = some (.bool b0) ∧ Y.cell? ⟨b, 5, none⟩ = some (.bool b1) ∧ Y.cell? ⟨b, 6, none⟩ = some (.bool b2) ∧ Y.cell? ⟨b, 7, none⟩ = some (.bool b3) ∧ Y.cell? ⟨b, 8, none⟩ = some (.bool b4) ∧ Y.cell? ⟨b, 9, none⟩ = some (.bool b5) ∧ Y.cell? ⟨b, 10, none⟩ = some (.bool b6) ∧ Y.cell? ⟨b, 11, none⟩ = some (.bool b7) ∧ Y.cell? ⟨b, 12, none⟩ = some (.bool b8) ∧ Y.cell? ⟨b, 13, none⟩ = some (.bool b9) ∧ Below w0.heap.size w0 Y :=
  ⟨cell_below hb h.1, cell_below hb h.2.1, cell_below hb h.2.2.1, cell_below hb h.2.2.2.1, cell_below hb h.2.2.2.2.1, cell_below hb h.2.2.2.2.2.1, cell_below hb h.2.2.2.2.2.2.1, cell_below hb h.2.2.2.2.2.2.2.1, cell_below hb h.2.2.2.2.2.2.2.2.1, cell_below hb h.2.2.2.2.2.2.2.2.2.1, cell_below hb h.2.2.2.2.2.2.2.2.2.2.1, cell_below hb h.2.2.2.2.2.2.2.2.2.2.2.1, cell_below hb h.2.2.2.2.2.2.2.2.2.2.2.2.1, cell_below hb h.2.2.2.2.2.2.2.2.2.2.2.2.2.1, below_self h.2.2.2.2.2.2.2.2.2.2.2.2.2.2 hb⟩
end Go.Proofs.YtcbiaeeifclieaaGreatDoor
/- slices.Equal at []api.Cluster: whether the two slices read alike. -/
namespace Go.Proofs.YtcbiaeeifclieaaGreatDoor
open Go.RowKit

theorem eqSpanAt (d : Nat) (a b : Sp) (w : World) : (Op.equalIn (d + 2) 39 (.agg #[.int .i64 a.1, .int .i64 a.2]) (.agg #[.int .i64 b.1, .int .i64 b.2])).run Tryz.prog w = .ok (decide (a = b)) w := by
  have u3 := Tryz.underlying3
  have a3 := Tryz.isAgg3
  have z3 := Tryz.sizeOf3
  have hS : Tryz.prog.underlying 39 = some (.struct (Tryz.prog.fieldsOf 39)) := by kernel_rfl
  have hp : Tryz.prog.stoodInHeld 39 = false := by kernel_rfl
  rw [show d + 2 = (d + 1) + 1 from rfl, run_equalIn_agg w (d + 1) 39 _ _ hS hp]
  simp only [Program.fieldsOf, Tryz.underlying39]
  go_simp
  obtain ⟨a1, a2⟩ := a
  obtain ⟨b1, b2⟩ := b
  by_cases h1 : a1 = b1 <;> by_cases h2 : a2 = b2 <;> simp [h1, h2]
theorem eqClusAt (d : Nat) (a b : Cl) (w : World) : (Op.equalIn (d + 3) 41 (.agg #[.int .i64 a.1.1, .int .i64 a.1.2, .int .i64 a.2.1, .int .i64 a.2.2]) (.agg #[.int .i64 b.1.1, .int .i64 b.1.2, .int .i64 b.2.1, .int .i64 b.2.2])).run Tryz.prog w = .ok (decide (a = b)) w := by
  have hS : Tryz.prog.underlying 41 = some (.struct (Tryz.prog.fieldsOf 41)) := by kernel_rfl
  have hp : Tryz.prog.stoodInHeld 41 = false := by kernel_rfl
  have ag2 := Tryz.isAgg39
  have z2 := Tryz.sizeOf39
  have h1 := eqSpanAt d a.1 b.1 w
  have h2 := eqSpanAt d a.2 b.2 w
  rw [show d + 3 = (d + 2) + 1 from rfl, run_equalIn_agg w (d + 2) 41 _ _ hS hp]
  simp only [Program.fieldsOf, Tryz.underlying41]
  obtain ⟨⟨a1, a2⟩, a3, a4⟩ := a
  obtain ⟨⟨b1, b2⟩, b3, b4⟩ := b
  simp only at h1 h2
  go_simp
  by_cases e1 : a1 = b1 <;> by_cases e2 : a2 = b2 <;> by_cases e3 : a3 = b3 <;> by_cases e4 : a4 = b4 <;> simp [e1, e2, e3, e4]
theorem neqC (a b : Cl) (w : World) : (binOp .neq 41 (.agg #[.int .i64 a.1.1, .int .i64 a.1.2, .int .i64 a.2.1, .int .i64 a.2.2]) (.agg #[.int .i64 b.1.1, .int .i64 b.1.2, .int .i64 b.2.1, .int .i64 b.2.2])).run Tryz.prog w = .ok (.bool (!(decide (a = b)))) w := by
  rw [run_neq_struct, show (10000 : Nat) = 9997 + 3 from rfl, eqClusAt 9997 a b w]
  rfl
theorem guardC : Tryz.prog.eqGuardType Tryz.prog.depth 41 = false := by kernel_rfl

theorem take_eq_succC {xs ys : List Cl} {k : Nat} (h : xs.take k = ys.take k) {x : Cl} (h1 : xs[k]? = some x) (h2 : ys[k]? = some x) : xs.take (k + 1) = ys.take (k + 1) := by
  rw [List.take_add_one, List.take_add_one, h, h1, h2]

set_option maxRecDepth 100000 in
set_option maxHeartbeats 1000000 in
theorem equalC_same (n : Nat) (A B : Option Addr) (c d : Nat) (xs ys : List Cl) (w : World) (hxn : xs.length = n) (hyn : ys.length = n)
    (hx : Rd w 4 A n (cellsC xs)) (hy : Rd w 4 B n (cellsC ys)) (hn : n ≤ maxLen) :
    Calls Tryz.prog 11 #[.slice A n c, .slice B n d] w fun e w' => e = .returned (.bool (decide (xs = ys))) ∧ ∃ q, w' = w.drewN q := by
  unfold maxLen at hn
  have HX := Lib.hid hxn
  have HY := Lib.hid hyn
  clear hxn hyn
  have hg := guardC
  go_enter Tryz.func11, Tryz.ntmps11
  go_wp2
  go_loopw [13] (fun i wr => ∃ k q : Nat, k ≤ n ∧ i = .int .i64 k ∧ wr = w.drewN q ∧ xs.take k = ys.take k) (fun i _ => n - (intOf i).toNat)
  case atStart => exact ⟨0, 0, Nat.zero_le _, rfl, rfl, rfl⟩
  case round =>
    obtain ⟨k, q, hk, rfl, rfl, ht⟩ := hrel
    have HT := Lib.hid ht
    clear ht
    by_cases hlt : k < n
    · obtain ⟨x, hxk⟩ : ∃ x, xs[k]? = some x := ⟨_, List.getElem?_eq_getElem (by rw [HX.out]; exact hlt)⟩
      obtain ⟨y, hyk⟩ : ∃ y, ys[k]? = some y := ⟨_, List.getElem?_eq_getElem (by rw [HY.out]; exact hlt)⟩
      obtain ⟨a, rfl, _, a1, a2, a3, a4⟩ := hx.clus hxk
      obtain ⟨b, rfl, _, b1, b2, b3, b4⟩ := hy.clus hyk
      have hq := neqC x y
      have HXK := Lib.hid hxk
      have HYK := Lib.hid hyk
      clear hxk hyk
      by_cases he : x = y
      · subst he
        simp only [decide_true, Bool.not_true] at hq
        obtain ⟨⟨x1, x2⟩, x3, x4⟩ := x
        simp only at a1 a2 a3 a4 b1 b2 b3 b4 hq
        go_wp2
        go_quiet (fail)
        go_wp2
        go_roundw
        case rel => exact ⟨k + 1, _, by omega, by go_num, rfl, take_eq_succC HT.out HXK.out HYK.out⟩
        case measure => simp [intOf]; omega
      · have hf : decide (xs = ys) = false := decide_eq_false (fun e => he (by have h1 := HXK.out; rw [e, HYK.out] at h1; injection h1 with h1; exact h1.symm))
        rw [decide_eq_false he] at hq
        simp only [Bool.not_false] at hq
        clear he
        obtain ⟨⟨x1, x2⟩, x3, x4⟩ := x
        obtain ⟨⟨y1, y2⟩, y3, y4⟩ := y
        simp only at a1 a2 a3 a4 b1 b2 b3 b4 hq
        go_wp2
        go_quiet (fail)
        go_wp2
        go_ret
        exact ⟨retB (by simp [hf]), _, World.drewN_drewN _ _ _⟩
    · have htr : decide (xs = ys) = true := decide_eq_true (by
        have h := HT.out
        rwa [List.take_of_length_le (by rw [HX.out]; omega), List.take_of_length_le (by rw [HY.out]; omega)] at h)
      go_wp2
      go_ret
      exact ⟨retB (by simp [htr]), _, rfl⟩

theorem equalC_b (A B : Option Addr) (n m c d : Nat) (xs ys : List Cl) (w : World) (hx : Rd w 4 A n (cellsC xs)) (hy : Rd w 4 B m (cellsC ys)) (hn : n ≤ maxLen) (hm : m ≤ maxLen) :
    Calls Tryz.prog 11 #[.slice A n c, .slice B m d] w fun e w' => e = .returned (.bool (decide (xs = ys))) ∧ Below w.heap.size w w' := by
  have hxl : xs.length = n := by have := hx.1; rw [cellsC_len] at this; omega
  have hyl : ys.length = m := by have := hy.1; rw [cellsC_len] at this; omega
  by_cases h : n = m
  · subst h
    exact (equalC_same n A B c d xs ys w hxl hyl hx hy hn).mono fun _ _ ⟨he, q, hq⟩ => ⟨he, hq ▸ drewBelow q⟩
  · have hne : decide (xs = ys) = false := decide_eq_false (fun e => h (by rw [← hxl, ← hyl, e]))
    have h1 : ((n : Int) == m) = false := by simp; omega
    have h2 : ((n : Int) != m) = true := by simp; omega
    clear hxl hyl
    go_enter Tryz.func11, Tryz.ntmps11
    go_wp2
    go_ret
    exact ⟨retB (by simp [hne]), Below.refl _ _⟩
end Go.Proofs.YtcbiaeeifclieaaGreatDoor
