/- Texts of one claim, one behind the other. -/
import Derived.Shelf.SlSortCmp.NoneTotal
import Derived.Shelf.Abstract
import Derived.Test.YtdgomaoikeffhaaGreatMgAp1
import Derived.Test.YtdgomaoikeffhaaGreatMgAp4
import Derived.Test.YtdgomaoikeffhaaGreatMgAp16
import Derived.Test.YtdgomaoikeffhaaGreatMgAp17
/- A row of the call's own, handed to the sort's contracts and taken back: no function of the program. -/
namespace Go.Proofs.YtdgomaoikeffhaaGreat
open Go.RowKit Go.Shelf

section
variable {α : Type} [Inhabited α] {enc : α → List Value} {k : Nat}
theorem flatK_get (hk : ∀ x, (enc x).length = k) (d : Array α) {j : Nat} {u : Value} (h : (d.toList.flatMap enc)[j]? = some u) : (Sort.flatK enc k d)[j]! = u := by
  obtain ⟨i, c, s, rfl, hc, hi, hu⟩ := flatMap_at enc k hk h
  have hil : i < d.size := by simpa using (List.getElem?_eq_some_iff.1 hi).1
  have hlt : i * k + c < d.size * k := by
    have := Nat.mul_le_mul_right k (show i + 1 ≤ d.size from hil)
    rw [Nat.add_mul, Nat.one_mul] at this
    omega
  have k0 : 0 < k := by omega
  have e1 : (i * k + c) / k = i := by
    rw [Nat.mul_comm, Nat.mul_add_div k0, Nat.div_eq_of_lt hc, Nat.add_zero]
  have e2 : (i * k + c) % k = c := by
    rw [Nat.mul_comm, Nat.mul_add_mod, Nat.mod_eq_of_lt hc]
  rw [Sort.get_flatK _ _ _ _ hlt, e1, e2]
  have hs : d[i]! = s := by
    rw [getElem!_pos d i hil]
    have := (List.getElem?_eq_some_iff.1 hi).2
    simpa using this
  rw [hs]
  have hcl : c < (enc s).length := by rw [hk]; exact hc
  rw [getElem!_pos _ c hcl]
  exact (List.getElem?_eq_some_iff.1 hu).2
theorem flatK_list (hk : ∀ x, (enc x).length = k) (d : Array α) : (Sort.flatK enc k d).toList = d.toList.flatMap enc := by
  apply List.ext_getElem?
  intro j
  by_cases h : j < d.size * k
  · have hl : j < (d.toList.flatMap enc).length := by rw [flatMap_len enc k hk]; simpa using h
    have := flatK_get hk d (List.getElem?_eq_getElem hl)
    rw [List.getElem?_eq_getElem hl, ← this, getElem!_pos _ j (by simpa using h)]
    rw [List.getElem?_eq_getElem (by simpa using h)]
    simp
  · rw [List.getElem?_eq_none (by simpa using h), List.getElem?_eq_none (by rw [flatMap_len enc k hk]; simpa using h)]
theorem holds_of_own (hk : ∀ x, (enc x).length = k) {w : World} {base : Nat} {e : TypeId} {g n cap : Nat} (d : Array α) (hd : d.size = n) (h : w.ownsRow base e k (.slice (some ⟨g, 0, none⟩) n cap) n (d.toList.flatMap enc)) : Sort.HoldsK enc k w g 0 d := by
  intro j hj
  rw [Sort.size_flatK, hd] at hj
  have hl : j < (d.toList.flatMap enc).length := by rw [flatMap_len enc k hk]; simpa [hd] using hj
  have hc := h.cellAt j hj
  rw [List.getElem?_eq_getElem hl] at hc
  refine ⟨?_, by rw [Nat.zero_add]; exact h.frozenAt j⟩
  rw [Nat.zero_add, hc, flatK_get hk d (List.getElem?_eq_getElem hl)]
  rfl
theorem grow_grown (w : World) (os : Array Obj) (row : Option Nat) : w.grownBy (Sort.grow w os) row :=
  ⟨rfl, rfl, rfl, by simp, fun i hi _ => by show (w.heap ++ os)[i]? = _; rw [Array.getElem?_append_left hi]⟩
theorem mapBlock_grown (w : World) (g : Nat) (f : Array Value → Array Value) : w.grownBy (Sort.mapBlock w g f) (some g) :=
  ⟨rfl, rfl, rfl, by simp [Sort.mapBlock], fun i _ hne => by
    show (w.heap.modify g _)[i]? = _
    rw [Array.getElem?_modify, if_neg (fun e => hne (by rw [e]))]⟩
theorem grown_trans {a b c : World} {row : Option Nat} (h : a.grownBy b row) (h' : b.grownBy c row) : a.grownBy c row :=
  ⟨h'.os.trans h.os, h'.tape.trans h.tape, h'.output.trans h.output, Nat.le_trans h.size h'.size, fun i hi hne => (h'.block i (Nat.lt_of_lt_of_le hi h.size) hne).trans (h.block i hi hne)⟩
/-- The row behind the sort: the call's own still, with the new elements. -/
theorem own_of_sorted (hk : ∀ x, (enc x).length = k) {w : World} {base : Nat} {e : TypeId} {g n cap : Nat} {xs : List Value} (h : w.ownsRow base e k (.slice (some ⟨g, 0, none⟩) n cap) n xs) (m : Nat) (dk : Array α) (os : Array Obj) (hd : dk.size = n) :
    (sortWorldK enc k w g 0 m dk os).ownsRow base e k (.slice (some ⟨g, 0, none⟩) n cap) n (dk.toList.flatMap enc) ∧ w.grownBy (sortWorldK enc k w g 0 m dk os) (some g) := by
  have hg1 : w.grownBy (Sort.ahead w m) (some g) := ⟨rfl, rfl, rfl, Nat.le_refl _, fun _ _ _ => rfl⟩
  have hg2 := grown_trans hg1 (mapBlock_grown (Sort.ahead w m) g (Sort.putCells id 0 (Sort.flatK enc k dk)))
  have hg3 := grown_trans hg2 (grow_grown (Sort.putRowK enc k (Sort.ahead w m) g 0 dk) os (some g))
  refine ⟨?_, hg3⟩
  rcases h.2 with ⟨h', _⟩ | ⟨g', cap', cur, h', hb, hg, hnc, hcm, hcs, htake⟩
  · simp at h'
  · simp only [Value.slice.injEq, Option.some.injEq, Addr.mk.injEq, and_true, true_and] at h'
    obtain ⟨rfl, rfl⟩ := h'
    have hlt := (Array.getElem?_eq_some_iff.1 hg).1
    refine ⟨by rw [flatMap_len enc k hk]; simp [hd], .inr ⟨g, cap, Sort.putCells id 0 (Sort.flatK enc k dk) cur, rfl, hb, ?_, hnc, hcm, by simp [Sort.putCells, hcs], ?_⟩⟩
    · show ((Sort.putRowK enc k (Sort.ahead w m) g 0 dk).heap ++ os)[g]? = _
      rw [Array.getElem?_append_left (by show g < (w.heap.modify g _).size; simpa using hlt)]
      show (w.heap.modify g _)[g]? = _
      rw [Array.getElem?_modify, if_pos rfl, hg]
      first | done | rfl
    · apply List.ext_getElem?
      intro j
      have hle : n * k ≤ cur.size := by rw [hcs]; exact Nat.mul_le_mul_right k hnc
      by_cases hj : j < n * k
      · have hl : j < (dk.toList.flatMap enc).length := by rw [flatMap_len enc k hk]; simpa [hd] using hj
        rw [List.getElem?_take, if_pos hj, Array.getElem?_toList]
        rw [List.getElem?_eq_getElem hl]
        unfold Sort.putCells
        rw [Array.getElem?_mapIdx, Array.getElem?_eq_getElem (by omega), Option.map_some, if_pos ⟨Nat.zero_le _, by rw [Sort.size_flatK, hd]; omega⟩, Nat.sub_zero, flatK_get hk dk (List.getElem?_eq_getElem hl)]
        rfl
      · rw [List.getElem?_eq_none (by simp; omega), List.getElem?_eq_none (by rw [flatMap_len enc k hk]; simp [hd]; omega)]
end
end Go.Proofs.YtdgomaoikeffhaaGreat
/- slices.SortFunc at pairs, by where they open: the row of the call's own holds a permutation, sorted. -/
namespace Go.Proofs.YtdgomaoikeffhaaGreat
open Go.RowKit Go.Shelf

def cmpLoQ (a b : Sp) : Int := cmpI a.1 b.1
theorem cmpI_ltQ (x y : Int) : decide (cmpI x y < 0) = decide (x < y) := by
  unfold cmpI
  split
  · rename_i h; simp [h]
  · rename_i h
    split <;> simp [h]
theorem ltLoQ (a b : Sp) : ltOf cmpLoQ a b = decide (a.1 < b.1) := cmpI_ltQ _ _
theorem swoLoQ : Sort.SWO (ltOf cmpLoQ) where
  irrefl x := by simp [ltLoQ]
  trans x y z h1 h2 := by simp [ltLoQ] at *; omega
  ntrans x y z h1 h2 := by simp [ltLoQ] at *; omega
theorem perm_of_inQ {d d' : Array Sp} (h : Sort.PermIn 0 d.size d d') : d'.toList.Perm d.toList ∧ d'.size = d.size := by
  obtain ⟨h1, _, h3⟩ := h
  have e1 : d'.extract 0 d.size = d' := by rw [← h1, Array.extract_size]
  have e2 : d.extract 0 d.size = d := Array.extract_size
  rw [e1, e2] at h3
  exact ⟨h3, h1⟩
theorem sorted_of_inQ {d : Array Sp} {n : Nat} (hn : d.size = n) (h : Sort.SortedIn (ltOf cmpLoQ) 0 n d) : LoSorted d.toList := by
  subst hn
  unfold LoSorted
  rw [List.pairwise_iff_getElem]
  intro i j hi hj hij
  have := h i j (Nat.zero_le _) hij (by simpa using hj)
  rw [ltLoQ, getElem!_pos d i (by simpa using hi), getElem!_pos d j (by simpa using hj)] at this
  have := of_decide_eq_false this
  simp only [Array.getElem_toList]
  omega
/-- What a comparison handed to the sort owes: of any two spans it tells how their Lo stand, in any world; it may lay blocks. -/
def CmpLoAtQ (g : FuncId) : Prop := ∀ (x y : Sp) (w : World), Calls Tryz.prog g #[.agg #[.int .i64 x.1, .int .i64 x.2], .agg #[.int .i64 y.1, .int .i64 y.2]] w fun e w' => e = .returned (.int .i64 (cmpLoQ x y)) ∧ ∃ os, w' = Sort.grow w os

theorem sortQ_any (f : FuncId) (eg : ∀ args w, (callFunc f args).run Tryz.prog w = .ok (.enter f args) w) (hf : CmpLoAtQ f) {base g n cap : Nat} {l : List Sp} {w : World} (hown : w.ownsRow base 128 2 (.slice (some ⟨g, 0, none⟩) n cap) n (cellsS l)) (hn : n < 4611686018427387904) :
    Calls Tryz.prog 95 #[.slice (some ⟨g, 0, none⟩) n cap, .func (.func f) #[] #[]] w fun e w' => e = .returned (.tuple #[]) ∧ ∃ l', List.Perm l' l ∧ LoSorted l' ∧ w'.ownsRow base 128 2 (.slice (some ⟨g, 0, none⟩) n cap) n (cellsS l') ∧ w.grownBy w' (some g) := by
  have hl : l.length = n := by have := hown.1; rw [cellsS_len] at this; omega
  have hd : l.toArray.size = n := by simpa using hl
  have hH := holds_of_own (enc := encS) (k := 2) (fun _ => rfl) l.toArray hd hown
  have hlt := (hown.lt g rfl).2
  have hsize : (l.toArray : Array Sp).size < 4611686018427387904 := by omega
  have hcmp : CmpLays Tryz.prog f #[] encS 2 cmpLoQ g 0 l.toArray.size w := by
    intro m os dk _ x y
    refine (hf x y _).mono fun e w' ⟨he, os', hw⟩ => ⟨he, 0, os', hw⟩
  have h := AnyQ.slices_SortFunc sortQ_lays 2 Tryz.isAgg128 Tryz.sizeOf128 encS (fun _ => rfl) (fun x v hv => by
    simp [encS] at hv
    rcases hv with rfl | rfl <;> rfl) cmpLoQ swoLoQ f #[] g 0 cap l.toArray w eg hcmp hH hlt hsize
  rw [hd] at h
  refine Calls.mono h ?_
  rintro e w' ⟨he, d', m, os, hp, hs, rfl⟩
  have hp' := perm_of_inQ (d := l.toArray) (d' := d') (by rw [hd]; exact hp)
  have hd' : d'.size = n := by omega
  obtain ⟨ho, hgr⟩ := own_of_sorted (enc := encS) (k := 2) (fun _ => rfl) hown m d' os hd'
  exact ⟨he, d'.toList, by simpa using hp'.1, sorted_of_inQ hd' hs, ho, hgr⟩
end Go.Proofs.YtdgomaoikeffhaaGreat
/- brack's order of pairs: slices.SortFunc at what was found. -/
namespace Go.Proofs.YtdgomaoikeffhaaGreat
open Go.RowKit Go.Shelf

set_option maxRecDepth 100000 in
theorem bkCmp_any : CmpLoAtQ 96 := by
  intro x y w
  obtain ⟨a, b⟩ := x
  obtain ⟨c, d⟩ := y
  go_enter Tryz.func96, Tryz.ntmps96
  go_wp2_with (go_at_call 97; refine (cmpI_any _ _ _).mono ?_; rintro e w' ⟨rfl, rfl⟩)
  go_ret
  exact ⟨rfl, _, by rw [Sort.alloc_eq_grow, Sort.alloc_eq_grow, Sort.grow_grow]⟩
theorem egBkCmp : ∀ args w, (callFunc 96 args).run Tryz.prog w = .ok (.enter 96 args) w := enters_of Tryz.func96 (by kernel_rfl) rfl
theorem bkSort_any (o : Value) (n base : Nat) (ou : List Sp) (w : World) (h : w.ownsRow base 128 2 o n (cellsS ou)) (hn : n ≤ 1000000) :
    Calls Tryz.prog 95 #[o, .func (.func 96) #[] #[]] w fun e w' => e = .returned (.tuple #[]) ∧ ∃ l', List.Perm l' ou ∧ LoSorted l' ∧ w'.ownsRow base 128 2 o n (cellsS l') ∧ w.grownBy w' o.ownBlock := by
  rcases h.2 with ⟨rfl, hx⟩ | ⟨g, cap, cur, rfl, _⟩
  · have h1 := h.1
    rw [cellsS_len] at h1
    have hl : ou = [] := List.eq_nil_of_length_eq_zero (by omega)
    have hn0 : n = 0 := hx
    subst hl hn0
    refine (AnyF.slices_SortFunc_none sortQ_lays none 0 _ w).mono ?_
    rintro e w' ⟨he, rfl⟩
    exact ⟨he, [], List.Perm.refl _, by simp [LoSorted], h, World.grownBy.refl _ _⟩
  · refine (sortQ_any 96 egBkCmp bkCmp_any h (by omega)).mono ?_
    rintro e w' ⟨he, l', hp, hs, ho, hg⟩
    exact ⟨he, l', hp, hs, ho, hg⟩
end Go.Proofs.YtdgomaoikeffhaaGreat
