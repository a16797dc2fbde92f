/- Texts of one claim, one behind the other. -/
import Derived.Test.YtbnjflkafdkcpaaMgAo1
/- The program's way through bases with marks: what lies behind a base's marks; a group that falls is turned round. No function of the program. -/
namespace Go.Proofs.Ytbnjflkafdkcpaa
open Go.RowKit

theorem hi_spec {ls : List Int} {ms : List Bool} {i : Nat} (hi : i < ls.length) : i + 1 ≤ hiA ls ms i ∧ hiA ls ms i ≤ ls.length ∧ ∀ k, i + 1 ≤ k → k < hiA ls ms i → ms.getD k false = true := by
  obtain ⟨a, b, c, _⟩ := ext_spec (ls := ls) (ms := ms) (x := ls.getD i 0) ls.length (i + 1) (by omega) hi
  exact ⟨a, b, fun k h1 h2 => (c k h1 h2).1⟩
/-- Marks begin no group. -/
theorem grpA_marks {ls : List Int} {ms : List Bool} {i : Nat} : ∀ {j : Nat}, i ≤ j → (∀ k, i ≤ k → k < j → ms.getD k false = true) → grpA ls ms j = grpA ls ms i
  | 0, h, _ => by rw [show i = 0 by omega]
  | j + 1, h, hm => by
    by_cases e : i = j + 1
    · rw [e]
    · rw [grpA, if_neg (by unfold isG; rw [hm j (by omega) (by omega)]; simp), grpA_marks (j := j) (by omega) (fun k h1 h2 => hm k h1 (by omega))]
theorem grpA_to {ls : List Int} {ms : List Bool} {i : Nat} (hi : i < ls.length) : grpA ls ms (hiA ls ms i) = grpA ls ms (i + 1) := by
  obtain ⟨a, _, c⟩ := hi_spec (ms := ms) hi
  exact grpA_marks a c
/-- A part of a row, turned round. -/
def revM (out : List Int) (p L : Nat) : List Int := out.take p ++ (((out.drop p).take L).reverse ++ out.drop (p + L))
theorem revM_at {out : List Int} {p L j : Nat} (h : p + L ≤ out.length) : (revM out p L)[j]? = if p ≤ j ∧ j < p + L then out[p + (L - 1 - (j - p))]? else out[j]? := by
  unfold revM
  have ht : (out.take p).length = p := by rw [List.length_take]; omega
  have hr : (((out.drop p).take L).reverse).length = L := by simp; omega
  by_cases h1 : j < p
  · rw [if_neg (by omega), List.getElem?_append_left (by omega), List.getElem?_take, if_pos h1]
  · rw [List.getElem?_append_right (by omega), ht]
    by_cases h2 : j < p + L
    · rw [if_pos ⟨by omega, h2⟩, List.getElem?_append_left (by omega), List.getElem?_reverse (by simp; omega), List.getElem?_take, List.getElem?_drop]
      have hl : ((out.drop p).take L).length = L := by simp; omega
      rw [hl, if_pos (by omega)]
    · rw [if_neg (by omega), List.getElem?_append_right (by omega), hr, List.getElem?_drop]
      congr 1
      omega
/-- Whether a row falls by one each time. -/
def fallW (l : List Int) : Bool := decide (∀ k, k < l.length → l.getD k 0 = l.getD 0 0 - (k : Int))
def accU0 (o : List Int) (G : List Sp) : List Int := G.foldl (fun out s => accS o s o.length out) o
section
variable {ls : List Int} {ms : List Bool} {o : List Int} {lo : Nat}
/-- Where places stand, by the inverse. -/
def invI (o : List Int) : List Int := (invF (natL o)).map fun i => ((i : Nat) : Int)
theorem invI_len (o : List Int) : (invI o).length = o.length := by unfold invI; rw [List.length_map, invF_len, natL_len]
theorem invI_at {k x : Nat} (h : permB o = true) (hx : o[k]? = some (x : Int)) : (invI o)[x]? = some (k : Int) := by
  unfold invI
  obtain ⟨y, e, _, hy⟩ := natL_at h hx
  have hxy : x = y := by omega
  subst hxy
  rw [List.getElem?_map, inv_at (natL_perm h) hy]
  rfl
theorem at_invI {k x : Nat} (h : permB o = true) (hx : (invI o)[x]? = some (k : Int)) : o[k]? = some (x : Int) := by
  unfold invI at hx
  rw [List.getElem?_map] at hx
  cases e : (invF (natL o))[x]? with
  | none => rw [e] at hx; cases hx
  | some y =>
    rw [e, Option.map_some] at hx
    have hy : y = k := by have := Option.some.inj hx; omega
    subst hy
    have h1 := at_inv (natL_perm h) e
    unfold natL at h1
    rw [List.getElem?_map] at h1
    cases e2 : o[y]? with
    | none => rw [e2] at h1; cases h1
    | some z =>
      rw [e2, Option.map_some] at h1
      obtain ⟨z', e3, _, _⟩ := natL_at h e2
      have := Option.some.inj h1
      subst e3
      rw [show z' = x by omega]
theorem invI_in {x : Nat} (h : permB o = true) (hx : x < o.length) : ∃ k : Nat, (invI o)[x]? = some (k : Int) ∧ k < o.length := by
  have hl : x < (invI o).length := by rw [invI_len]; exact hx
  obtain ⟨k, hk⟩ : ∃ k : Nat, (invI o)[x]? = some (k : Int) := by
    unfold invI
    have hl2 : x < (invF (natL o)).length := by rw [invF_len, natL_len]; exact hx
    exact ⟨(invF (natL o))[x], by rw [List.getElem?_map, List.getElem?_eq_getElem hl2]; rfl⟩
  exact ⟨k, hk, (List.getElem?_eq_some_iff.1 (at_invI h hk)).1⟩
/-- The group's places as they stand fall: then the group falls, from where its last place stands. -/
theorem fall_here {a b : Nat} (h : permB o = true) (hab : a < b) (hb : b ≤ o.length) (hf : fallW (((invI o).drop a).take (b - a)) = true) :
    ∃ p : Nat, (invI o)[b - 1]? = some (p : Int) ∧ (invI o)[a]? = some ((p + (b - a) - 1 : Nat) : Int) ∧ p + (b - a) ≤ o.length ∧ fallB o p ((a : Int), (b : Int)) = true := by
  have hl : (((invI o).drop a).take (b - a)).length = b - a := by simp [invI_len]; omega
  have hf2 := of_decide_eq_true hf
  rw [hl] at hf2
  have hat : ∀ k, k < b - a → (((invI o).drop a).take (b - a)).getD k 0 = (invI o).getD (a + k) 0 := fun k hk => by
    rw [List.getD_eq_getElem?_getD, List.getElem?_take, if_pos hk, List.getElem?_drop, ← List.getD_eq_getElem?_getD]
  obtain ⟨q, hq, hql⟩ := invI_in h (show a < o.length by omega)
  obtain ⟨p, hp, hpl⟩ := invI_in h (show b - 1 < o.length by omega)
  have hgd : ∀ {x k : Nat}, (invI o)[x]? = some (k : Int) → (invI o).getD x 0 = (k : Int) := fun hx => by rw [List.getD_eq_getElem?_getD, hx]; rfl
  have e1 := hf2 (b - a - 1) (by omega)
  rw [hat _ (by omega), hat 0 (by omega), Nat.add_zero, show a + (b - a - 1) = b - 1 by omega, hgd hp, hgd hq] at e1
  have hqp : q = p + (b - a) - 1 := by omega
  refine ⟨p, hp, by rw [hq, hqp], by omega, decide_eq_true ⟨?_, ?_⟩⟩
  · unfold lenG; simp only; omega
  · intro k hk
    have hk2 : k < b - a := by unfold lenG at hk; simp only at hk; omega
    have e2 := hf2 (b - a - 1 - k) (by omega)
    rw [hat _ (by omega), hat 0 (by omega), Nat.add_zero, hgd hq] at e2
    obtain ⟨r, hr, hrl⟩ := invI_in h (show a + (b - a - 1 - k) < o.length by omega)
    rw [hgd hr] at e2
    have hrk : r = p + k := by omega
    have := at_invI h hr
    rw [hrk] at this
    rw [List.getD_eq_getElem?_getD, this]
    simp only [Option.getD_some]
    omega
theorem fall_no {a b : Nat} (h : permB o = true) (hab : a < b) (hb : b ≤ o.length) (hf : fallW (((invI o).drop a).take (b - a)) = false) : ∀ i, fallB o i ((a : Int), (b : Int)) = false := by
  intro i
  cases hc : fallB o i ((a : Int), (b : Int)) with
  | false => rfl
  | true =>
    exfalso
    have hl : (((invI o).drop a).take (b - a)).length = b - a := by simp [invI_len]; omega
    have hlg : lenG ((a : Int), (b : Int)) = b - a := by unfold lenG; simp only; omega
    have hin : ∀ k, k < b - a → (invI o)[a + k]? = some ((i + (b - a - 1 - k) : Nat) : Int) := fun k hk => by
      have h1 := fall_at (k := b - a - 1 - k) hc (by rw [hlg]; omega)
      simp only at h1
      rw [show (b : Int) - 1 - ((b - a - 1 - k : Nat) : Int) = ((a + k : Nat) : Int) by omega] at h1
      exact invI_at h h1
    have : fallW (((invI o).drop a).take (b - a)) = true := by
      refine decide_eq_true fun k hk => ?_
      rw [hl] at hk
      have hat : ∀ k, k < b - a → (((invI o).drop a).take (b - a)).getD k 0 = ((i + (b - a - 1 - k) : Nat) : Int) := fun k hk => by
        rw [List.getD_eq_getElem?_getD, List.getElem?_take, if_pos hk, List.getElem?_drop, hin k hk]
        rfl
      rw [hat k hk, hat 0 (by omega)]
      omega
    rw [hf] at this
    cases this
theorem accU0_len (o : List Int) (G : List Sp) : (accU0 o G).length = o.length := acc_len o G o rfl
theorem accS_no {s : Sp} {out : List Int} (hno : ∀ i, fallB o i s = false) : ∀ m, accS o s m out = out
  | 0 => rfl
  | m + 1 => by rw [accS, if_neg (by rw [hno m]; decide), accS_no hno m]
/-- A group that falls from p on is turned round there; groups ahead of it have left its places alone. -/
theorem accS_rev (h : permB o = true) {a b p : Nat} (hg : GrpOk ls ms a b) (hl : ls.length = o.length) (hlo : a ≤ ls.length) (hf : fallB o p ((a : Int), (b : Int)) = true) :
    accS o ((a : Int), (b : Int)) o.length (accU0 o (grpA ls ms a)) = revM (accU0 o (grpA ls ms a)) p (b - a) := by
  have hnd : o.Nodup := (of_decide_eq_true h).2
  have hlg : lenG ((a : Int), (b : Int)) = b - a := by unfold lenG; simp only; omega
  have hpl := (of_decide_eq_true hf).1
  rw [hlg] at hpl
  have hab := hg.lt
  have hbl := hg.le
  have hul := accU0_len o (grpA ls ms a)
  have hin : ∀ j, p ≤ j → j < p + (b - a) → o[j]? = some ((b : Int) - 1 - ((j - p : Nat) : Int)) := fun j h1 h2 => by
    have := fall_at (k := j - p) hf (by rw [hlg]; omega)
    rwa [show p + (j - p) = j by omega] at this
  have hunt : ∀ j, p ≤ j → j < p + (b - a) → (accU0 o (grpA ls ms a))[j]? = some ((b : Int) - 1 - ((j - p : Nat) : Int)) := fun j h1 h2 => by
    show (accF o (grpA ls ms a))[j]? = _
    rw [acc_map hnd, List.getElem?_map, hin j h1 h2, Option.map_some]
    congr 1
    refine tur_none _ _ fun t ht => ?_
    obtain ⟨c, hc, rfl, hgc⟩ := grpA_mem hlo ht
    unfold hitA
    rw [Bool.and_eq_false_iff]
    refine .inl (decide_eq_false ?_)
    simp only
    rintro ⟨h3, h4⟩
    have hok := isG_ok (show c < ls.length by omega) hgc
    have := grp_one (k := b - 1 - (j - p)) hg hok (by omega) (by omega)
    omega
  apply List.ext_getElem?
  intro j
  rw [revM_at (by rw [hul]; exact hpl)]
  by_cases hj : j < o.length
  · have hv : o[j]? = some o[j] := List.getElem?_eq_getElem hj
    rw [accS_hit hnd hul hv]
    by_cases hjp : p ≤ j ∧ j < p + (b - a)
    · have hvj := hin j hjp.1 hjp.2
      rw [hv] at hvj
      have hvj := Option.some.inj hvj
      rw [if_pos hjp, hunt (p + (b - a - 1 - (j - p))) (by omega) (by omega), if_pos]
      · show some ((a : Int) + (b : Int) - 1 - o[j]) = _
        rw [hvj]
        refine congrArg some ?_
        omega
      · unfold hitA
        rw [Bool.and_eq_true, decide_eq_true_eq, List.any_eq_true]
        exact ⟨by simp only; omega, p, by rw [List.mem_range]; omega, hf⟩
    · rw [if_neg hjp, if_neg]
      intro hh
      unfold hitA at hh
      rw [Bool.and_eq_true, decide_eq_true_eq] at hh
      have h1 := hh.1
      simp only at h1
      have h2 := fall_at (k := (b - 1 - o[j].toNat : Nat)) hf (by rw [hlg]; omega)
      simp only at h2
      rw [show (b : Int) - 1 - ((b - 1 - o[j].toNat : Nat) : Int) = o[j] by omega] at h2
      have := nodup_at hnd hv h2
      omega
  · rw [List.getElem?_eq_none (by rw [accS_len, hul]; omega), if_neg (by omega), List.getElem?_eq_none (by rw [hul]; omega)]
theorem accU0_snoc (o : List Int) (G : List Sp) (s : Sp) : accU0 o (G ++ [s]) = accS o s o.length (accU0 o G) := by unfold accU0; rw [List.foldl_append]; rfl
end
end Go.Proofs.Ytbnjflkafdkcpaa
/- The last bit of an integer. -/
namespace Go.Proofs.Ytbnjflkafdkcpaa
open Go.RowKit

theorem and1_i64 (M : Int) : bits .and .i64 M 1 = M % 2 := by
  show IntKind.i64.wrap ((BitVec.ofInt 64 M &&& BitVec.ofInt 64 1).toNat : Int) = _
  rw [BitVec.toNat_and, show (BitVec.ofInt 64 1).toNat = 1 from rfl, Nat.and_one_is_mod, BitVec.toNat_ofInt, IntKind.wrap_i64]
  omega
end Go.Proofs.Ytbnjflkafdkcpaa
/- Blocks of memory by their cells: what lies in one, what a store leaves of others. -/
namespace Go.Proofs.Ytbnjflkafdkcpaa
open Go.RowKit

def intsZ (l : List Int) : List Value := l.map (Value.int .i64)
theorem intsZ_set (l : List Int) (i : Nat) (x : Int) : intsZ (l.set i x) = (intsZ l).set i (.int .i64 x) := by simp [intsZ, List.map_set]
theorem hp_lt {w : World} {g : Nat} {o : Obj} (h : w.heap[g]? = some o) : g < w.heap.size := by
  by_cases c : g < w.heap.size
  · exact c
  · rw [Array.getElem?_eq_none (by omega)] at h; exact absurd h (by simp)
theorem hp_cell {w : World} {g : Nat} {cs : Array Value} {t : TypeId} (h : w.heap[g]? = some (.cells cs t (0, 0))) {j : Nat} {v : Value} (hj : cs[j]? = some v) : w.cell? ⟨g, j, none⟩ = some v := by
  unfold World.cell?
  rw [show w.heap[(⟨g, j, none⟩ : Addr).block]? = _ from h]
  simpa using hj
theorem hp_froz {w : World} {g : Nat} {cs : Array Value} {t : TypeId} (h : w.heap[g]? = some (.cells cs t (0, 0))) (j : Nat) : w.frozen? ⟨g, j, none⟩ = false := by
  unfold World.frozen?
  rw [show w.heap[(⟨g, j, none⟩ : Addr).block]? = _ from h]
  rfl
theorem hp_far {w : World} {g k : Nat} (h : k ≠ g) (j : Nat) (u : Value) : (w.setCell ⟨g, j, none⟩ u).heap[k]? = w.heap[k]? := Below.heap_setCell w ⟨g, j, none⟩ u k h
theorem hp_row {w : World} {g : Nat} {l : List Int} {t : TypeId} (h : w.heap[g]? = some (.cells (intsZ l).toArray t (0, 0))) (i : Nat) (x : Int) : (w.setCell ⟨g, i, none⟩ (.int .i64 x)).heap[g]? = some (.cells (intsZ (l.set i x)).toArray t (0, 0)) := by
  rw [heap_setCell_same w g i _ t _ h]
  congr 2
  rw [intsZ_set, List.setIfInBounds_toArray]
theorem Rd.belowS {w w' : World} {size n s : Nat} {A : Option Addr} {xs : List Value} (h : Rd w size A n xs) (hA : 0 < n → ∀ ad, A = some ad → ad.block < s) (hb : Below s w w') : Rd w' size A n xs :=
  ⟨h.1, fun hn => by
    obtain ⟨ad, e, hlt, hc⟩ := h.2 hn
    exact ⟨ad, e, Nat.lt_of_lt_of_le hlt hb.size, fun j u hu => (hb.cell (by rw [blockAdd]; exact hA hn ad e)).trans (hc j u hu)⟩⟩
end Go.Proofs.Ytbnjflkafdkcpaa
/- The block of a row has its elements' type. No function of the program. -/
namespace Go.Proofs.Ytbnjflkafdkcpaa
open Go.RowKit

section
variable {w : World}
theorem own_typ {e : TypeId} {base size n c g : Nat} {xs : List Value} (h : w.ownsRow base e size (.slice (some ⟨g, 0, none⟩) n c) n xs) : ∃ cs, w.heap[g]? = some (.cells cs e (0, 0)) := by
  rcases h.2 with ⟨h', _⟩ | ⟨g', cap', cur, h', _, hg, _⟩
  · simp at h'
  · simp only [Value.slice.injEq, Option.some.injEq, Addr.mk.injEq, and_true] at h'
    obtain ⟨rfl, _⟩ := h'
    exact ⟨cur, hg⟩
/-- The block of a row has its elements' type. -/
theorem own_row {e : TypeId} {base size n : Nat} {v : Value} {xs : List Value} (h : w.ownsRow base e size v n xs) : ∀ x, v.ownBlock = some x → ∃ cs, w.heap[x]? = some (.cells cs e (0, 0)) := by
  intro x hx
  rcases h.2 with ⟨rfl, _⟩ | ⟨g', cap', cur, rfl, _, hg, _⟩
  · cases hx
  · have : g' = x := by simpa [Value.ownBlock] using hx
    subst this
    exact ⟨cur, hg⟩
end
end Go.Proofs.Ytbnjflkafdkcpaa
/- Which blocks a call may write. -/
namespace Go.Proofs.Ytbnjflkafdkcpaa
open Go.RowKit

/-- w' is w with new blocks, and with writes to the blocks of S alone. -/
structure Kept (w w' : World) (S : List Nat) : Prop where
  os : w'.os = w.os
  tape : w'.tape = w.tape
  output : w'.output = w.output
  size : w.heap.size ≤ w'.heap.size
  block : ∀ i, i < w.heap.size → i ∉ S → w'.heap[i]? = w.heap[i]?
theorem Kept.refl (w : World) (S : List Nat) : Kept w w S := ⟨rfl, rfl, rfl, Nat.le_refl _, fun _ _ _ => rfl⟩
theorem Kept.trans {a b c : World} {S : List Nat} (h : Kept a b S) (k : Kept b c S) : Kept a c S :=
  ⟨k.os.trans h.os, k.tape.trans h.tape, k.output.trans h.output, Nat.le_trans h.size k.size, fun i hi hs => (k.block i (Nat.lt_of_lt_of_le hi h.size) hs).trans (h.block i hi hs)⟩
theorem Kept.of_grown {a b : World} {g : Nat} {S : List Nat} (h : a.grownBy b (some g)) (hg : g ∈ S) : Kept a b S :=
  ⟨h.os, h.tape, h.output, h.size, fun i hi hs => h.block i hi (fun e => hs (by obtain rfl := Option.some.inj e; exact hg))⟩
theorem Kept.of_below {a b : World} (h : Below a.heap.size a b) (S : List Nat) : Kept a b S := ⟨h.os, h.tape, h.output, h.size, fun i hi _ => h.block i hi⟩
theorem Kept.drew {a b : World} {S : List Nat} (h : Kept a b S) : Kept a b.drew S := ⟨h.os, h.tape, h.output, h.size, h.block⟩
theorem Kept.set {a b : World} {S : List Nat} (h : Kept a b S) {g : Nat} (hg : g ∈ S ∨ a.heap.size ≤ g) (j : Nat) (u : Value) : Kept a (b.setCell ⟨g, j, none⟩ u) S :=
  ⟨h.os, h.tape, h.output, by simpa [World.setCell] using h.size, fun i hi hs => (Below.heap_setCell b ⟨g, j, none⟩ u i (by
    show i ≠ g
    rintro rfl
    rcases hg with hg | hg
    · exact hs hg
    · omega)).trans (h.block i hi hs)⟩
theorem Kept.heap {w w' : World} {S : List Nat} (h : Kept w w' S) {g : Nat} {o : Obj} (hg : w.heap[g]? = some o) (hs : g ∉ S) : w'.heap[g]? = some o := by
  have hlt : g < w.heap.size := by
    rcases Nat.lt_or_ge g w.heap.size with h' | h'
    · exact h'
    · rw [Array.getElem?_eq_none h'] at hg
      cases hg
  exact (h.block g hlt hs).trans hg
theorem Kept.cell {w w' : World} {S : List Nat} (h : Kept w w' S) {g j : Nat} {v : Value} (hc : w.cell? ⟨g, j, none⟩ = some v) (hs : g ∉ S) : w'.cell? ⟨g, j, none⟩ = some v := by
  have hlt : g < w.heap.size := cell_lt hc
  unfold World.cell? at hc ⊢
  rw [show w'.heap[(⟨g, j, none⟩ : Addr).block]? = w.heap[(⟨g, j, none⟩ : Addr).block]? from h.block g hlt hs]
  exact hc
theorem heap_lt {w : World} {g : Nat} {o : Obj} (h : w.heap[g]? = some o) : g < w.heap.size := by
  rcases Nat.lt_or_ge g w.heap.size with h' | h'
  · exact h'
  · rw [Array.getElem?_eq_none h'] at h
    cases h
theorem frozen_of_heap {w : World} {g : Nat} {cs : Array Value} {t : TypeId} (h : w.heap[g]? = some (.cells cs t (0, 0))) (j : Nat) : w.frozen? ⟨g, j, none⟩ = false := by
  unfold World.frozen?
  rw [show w.heap[(⟨g, j, none⟩ : Addr).block]? = _ from h]
  rfl
theorem heap_setCell_far {w : World} {g k : Nat} (h : k ≠ g) (j : Nat) (u : Value) : (w.setCell ⟨g, j, none⟩ u).heap[k]? = w.heap[k]? := Below.heap_setCell w ⟨g, j, none⟩ u k h
end Go.Proofs.Ytbnjflkafdkcpaa
/- A row of the call's own behind a box that a closure writes. -/
namespace Go.Proofs.Ytbnjflkafdkcpaa
open Go.RowKit

/-- It is no cells (a map). -/
def NotC (o : Obj) : Prop := ∀ cs t z, o ≠ .cells cs t z
/-- Blocks that are no cells are as they were. -/
def NoC (w w' : World) : Prop := ∀ (i : Nat) (o : Obj), w.heap[i]? = some o → NotC o → w'.heap[i]? = some o
theorem NoC.refl (w : World) : NoC w w := fun _ _ h _ => h
theorem NoC.trans {a b c : World} (h : NoC a b) (k : NoC b c) : NoC a c := fun i o h1 h2 => k i o (h i o h1 h2) h2
theorem NoC.low {w w' : World} (h : Below w.heap.size w w') : NoC w w' := fun i _ h1 _ => (h.block i (hp_lt h1)).trans h1
theorem NoC.own {w w' : World} {base : Nat} {e : TypeId} {size n : Nat} {v : Value} {xs : List Value} (h : w.ownsRow base e size v n xs) (hg : w.grownBy w' v.ownBlock) : NoC w w' := fun i o h1 h2 => by
  refine (hg.block i (hp_lt h1) fun e9 => ?_).trans h1
  obtain ⟨cs, hcs⟩ := own_row h i e9.symm
  rw [h1] at hcs
  exact h2 _ _ _ (Option.some.inj hcs)
theorem NoC.set {w : World} {b : Nat} {cs : Array Value} {t : TypeId} (h : w.heap[b]? = some (.cells cs t (0, 0))) (j : Nat) (u : Value) : NoC w (w.setCell ⟨b, j, none⟩ u) := fun i o h1 h2 => by
  refine (hp_far (fun e => ?_) j u).trans h1
  subst e
  rw [h] at h1
  exact h2 _ _ _ (Option.some.inj h1).symm
/-- Writes to blocks that are no cells leave cells alone. -/
theorem kept_cells {w w' : World} {S : List Nat} (hk : Kept w w' S) (hs : ∀ i ∈ S, ∃ o : Obj, w.heap[i]? = some o ∧ NotC o) {b : Nat} {cs : Array Value} {t : TypeId} (h : w.heap[b]? = some (.cells cs t (0, 0))) : w'.heap[b]? = some (.cells cs t (0, 0)) := by
  refine (hk.block b (hp_lt h) fun hb => ?_).trans h
  obtain ⟨o, h1, h2⟩ := hs b hb
  rw [h] at h1
  exact h2 _ _ _ (Option.some.inj h1).symm
theorem kept_rd {w w' : World} {S : List Nat} (hk : Kept w w' S) (hs : ∀ i ∈ S, ∃ o : Obj, w.heap[i]? = some o ∧ NotC o) {size n : Nat} {A : Option Addr} {xs : List Value} (h : Rd w size A n xs) (h0 : 0 < size) : Rd w' size A n xs :=
  ⟨h.1, fun hn => by
    obtain ⟨ad, e, hlt, hc⟩ := h.2 hn
    have hne : ad.block ∉ S := fun hm => by
      obtain ⟨u, hu⟩ : ∃ u, xs[0]? = some u := ⟨_, List.getElem?_eq_getElem (by rw [h.1]; exact Nat.mul_pos hn h0)⟩
      have hcu := hc 0 u hu
      obtain ⟨o, h1, h2⟩ := hs _ hm
      unfold World.cell? at hcu
      rw [show (ad.add 0).block = ad.block from by rw [blockAdd], h1] at hcu
      cases o with
      | cells cs t z => exact h2 _ _ _ rfl
      | _ => cases hcu
    refine ⟨ad, e, Nat.lt_of_lt_of_le hlt hk.size, fun j u hu => ?_⟩
    have hb := hk.block _ hlt hne
    have := hc j u hu
    unfold World.cell? at this ⊢
    rwa [show (ad.add j).block = ad.block from by rw [blockAdd], hb, show ad.block = (ad.add j).block from by rw [blockAdd]]⟩
theorem kept_below {w0 w w' : World} {base : Nat} {S : List Nat} (hk : Kept w w' S) (hs : ∀ i ∈ S, base ≤ i) (h : Below base w0 w) (hb : base ≤ w.heap.size) : Below base w0 w' :=
  h.trans ⟨hk.os, hk.tape, hk.output, hk.size, fun i hi => hk.block i (Nat.lt_of_lt_of_le hi hb) fun hm => by have := hs i hm; omega⟩
theorem kept_own {w w' : World} {S : List Nat} (hk : Kept w w' S) (hs : ∀ i ∈ S, ∃ o : Obj, w.heap[i]? = some o ∧ NotC o) {base : Nat} {e : TypeId} {size n : Nat} {v : Value} {xs : List Value} (h : w.ownsRow base e size v n xs) : w'.ownsRow base e size v n xs := by
  refine ⟨h.1, ?_⟩
  rcases h.2 with h' | ⟨g, cap, cur, rfl, hb, hg, r⟩
  · exact .inl h'
  · exact .inr ⟨g, cap, cur, rfl, hb, kept_cells hk hs hg, r⟩
/-- Box b holds a row of the call's own. -/
structure BxR (w0 : World) (base b : Nat) (T e : TypeId) (size : Nat) (v : Value) (n : Nat) (xs : List Value) (w : World) : Prop where
  box : w.heap[b]? = some (.cells #[v] T (0, 0))
  row : w.ownsRow base e size v n xs
  bel : Below base w0 w
  lo : base ≤ b
section
variable {w0 w w1 : World} {base b : Nat} {T e : TypeId} {size n n1 : Nat} {v v1 : Value} {xs xs1 : List Value}
theorem BxR.base_le (h : BxR w0 base b T e size v n xs w) : base ≤ w.heap.size := Nat.le_trans h.lo (Nat.le_of_lt (hp_lt h.box))
theorem BxR.kept {S : List Nat} (h : BxR w0 base b T e size v n xs w) (hk : Kept w w1 S) (hs : ∀ i ∈ S, ∃ o : Obj, w.heap[i]? = some o ∧ NotC o) (hl : ∀ i ∈ S, base ≤ i) : BxR w0 base b T e size v n xs w1 :=
  ⟨kept_cells hk hs h.box, kept_own hk hs h.row, kept_below hk hl h.bel h.base_le, h.lo⟩
theorem BxR.low (h : BxR w0 base b T e size v n xs w) (hb : Below w.heap.size w w1) : BxR w0 base b T e size v n xs w1 :=
  h.kept (Kept.of_below hb []) (by simp) (by simp)
theorem BxR.start (h : w.ownsRow base e size v n xs) (hB : Below base w0 w) (hb : base ≤ w.heap.size) (T : TypeId) : BxR w0 base w.heap.size T e size v n xs (w.alloc (.cells #[v] T)) :=
  ⟨heap_alloc_new _ _, h.alloc _, hB.alloc hb _, hb⟩
theorem BxR.ne (h : BxR w0 base b T e size v n xs w) (hT : T ≠ e) : v.ownBlock ≠ some b := fun e9 => by
  obtain ⟨cs, hcs⟩ := own_row h.row b e9
  rw [h.box] at hcs
  exact hT (Obj.cells.inj (Option.some.inj hcs)).2.1
/-- The row grows: the box is there still. -/
theorem BxR.grow (h : BxR w0 base b T e size v n xs w) (hT : T ≠ e) (hg : w.grownBy w1 v.ownBlock) : w1.heap[b]? = some (.cells #[v] T (0, 0)) :=
  (hg.block b (hp_lt h.box) (fun e9 => h.ne hT e9.symm)).trans h.box
/-- .. and the grown row is put into the box. -/
theorem BxR.put (h : BxR w0 base b T e size v n xs w) (hT : T ≠ e) (hg : w.grownBy w1 v.ownBlock) (h1 : w1.ownsRow base e size v1 n1 xs1) : BxR w0 base b T e size v1 n1 xs1 (w1.setCell ⟨b, 0, none⟩ v1) := by
  have hbox := h.grow hT hg
  refine ⟨heap_setCell_same w1 b 0 _ _ _ hbox, own_set_far h1 fun e9 => ?_, (below_app h.bel hg h.row h.base_le).setCell (p := ⟨b, 0, none⟩) h.lo _, h.lo⟩
  obtain ⟨cs, hcs⟩ := own_row h1 b e9
  rw [hbox] at hcs
  exact hT (Obj.cells.inj (Option.some.inj hcs)).2.1
theorem BxR.noc (h : BxR w0 base b T e size v n xs w) (hT : T ≠ e) (hg : w.grownBy w1 v.ownBlock) : NoC w (w1.setCell ⟨b, 0, none⟩ v1) :=
  (NoC.own h.row hg).trans (NoC.set (h.grow hT hg) 0 v1)
end
end Go.Proofs.Ytbnjflkafdkcpaa
/- The slice type of spans. -/
namespace Go.Proofs.Ytbnjflkafdkcpaa
open Go.RowKit
theorem spanSlice : SliceOf Try.prog 29 31 2 16 := .mk_ (z := .agg #[.int .i64 0, .int .i64 0]) Try.underlying29 (by kernel_rfl) rfl
end Go.Proofs.Ytbnjflkafdkcpaa
/- Whether spans are parts, as plain mathematics. -/
namespace Go.Proofs.Ytbnjflkafdkcpaa
open Go.RowKit
/-- Whether spans are parts from 'end_' on to n. -/
def partsFrom : Int → List Sp → Int → Bool
  | e, [], n => e == n
  | e, s :: l, n => rightB s && (s.1 == e) && partsFrom s.2 l n
def partsS (l : List Sp) (n : Int) : Bool := partsFrom 0 l n
theorem partsFrom_no {e n : Int} {l : List Sp} {s : Sp} (h : rightB s = false ∨ (s.1 == e) = false) : partsFrom e (s :: l) n = false := by
  unfold partsFrom
  rcases h with h | h <;> simp [h]
theorem partsFrom_yes {e n : Int} {l : List Sp} {s : Sp} (h : rightB s = true) (h' : (s.1 == e) = true) : partsFrom e (s :: l) n = partsFrom s.2 l n := by
  show (rightB s && (s.1 == e) && partsFrom s.2 l n) = _
  rw [h, h']; rfl
theorem dropCons {α : Type} {l : List α} {k : Nat} {x : α} (h : l[k]? = some x) : l.drop k = x :: l.drop (k + 1) := by
  obtain ⟨hk, rfl⟩ := List.getElem?_eq_some_iff.1 h
  exact List.drop_eq_getElem_cons hk
end Go.Proofs.Ytbnjflkafdkcpaa
/- Ranges of codes as data: the cells of a slice of ranges; which may be; the value of a code. -/
namespace Go.Proofs.Ytbnjflkafdkcpaa
open Go.RowKit

/-- A range: Lo, Hi, Value. -/
abbrev Rg := Int × Int × Int
def encG (r : Rg) : List Value := [.int .i64 r.1, .int .i64 r.2.1, .int .i64 r.2.2]
def cellsG (l : List Rg) : List Value := l.flatMap encG
theorem cellsG_snoc (l : List Rg) (r : Rg) : cellsG (l ++ [r]) = cellsG l ++ [.int .i64 r.1, .int .i64 r.2.1, .int .i64 r.2.2] := by simp [cellsG, encG]
theorem cellsG_len (l : List Rg) : (cellsG l).length = l.length * 3 := by
  induction l with
  | nil => rfl
  | cons s l ih =>
    show (encG s ++ cellsG l).length = _
    rw [List.length_append, ih, List.length_cons]
    simp only [encG, List.length_cons, List.length_nil]
    omega
theorem cellsG_at {l : List Rg} {k : Nat} {s : Rg} (h : l[k]? = some s) : (cellsG l)[k * 3]? = some (.int .i64 s.1) ∧ (cellsG l)[k * 3 + 1]? = some (.int .i64 s.2.1) ∧ (cellsG l)[k * 3 + 2]? = some (.int .i64 s.2.2) := by
  induction l generalizing k with
  | nil => simp at h
  | cons t l ih =>
    have hc : cellsG (t :: l) = .int .i64 t.1 :: .int .i64 t.2.1 :: .int .i64 t.2.2 :: cellsG l := rfl
    cases k with
    | zero =>
      simp at h
      subst h
      exact ⟨rfl, rfl, rfl⟩
    | succ k =>
      have := ih (k := k) (by simpa using h)
      rw [hc]
      have e0 : (k + 1) * 3 = k * 3 + 1 + 1 + 1 := by omega
      have e1 : (k + 1) * 3 + 1 = (k * 3 + 1) + 1 + 1 + 1 := by omega
      have e2 : (k + 1) * 3 + 2 = (k * 3 + 2) + 1 + 1 + 1 := by omega
      rw [e2, e1, e0]
      simpa using this
/-- The three cells of a range in a slice, as the walk spells them. -/
theorem Rd.rg {w : World} {A : Option Addr} {n k : Nat} {l : List Rg} {s : Rg} (hr : Rd w 3 A n (cellsG l)) (h : l[k]? = some s) : ∃ ad, A = some ad ∧ ad.block < w.heap.size ∧ w.cell? (ad.add (k * 3)) = some (.int .i64 s.1) ∧
    w.cell? ⟨(ad.add (k * 3)).block, (ad.add (k * 3)).off + 1, none⟩ = some (.int .i64 s.2.1) ∧ w.cell? ⟨(ad.add (k * 3)).block, (ad.add (k * 3)).off + 2, none⟩ = some (.int .i64 s.2.2) := by
  have hlen : l.length * 3 = n * 3 := by rw [← cellsG_len]; exact hr.1
  have hk := (List.getElem?_eq_some_iff.1 h).1
  obtain ⟨ad, rfl, hb, hc⟩ := hr.2 (by omega)
  obtain ⟨e0, e1, e2⟩ := cellsG_at h
  have h1 := hc _ _ e1
  have h2 := hc _ _ e2
  rw [addNext ad (k * 3) 0] at h1
  rw [addNext ad (k * 3) 1] at h2
  exact ⟨ad, rfl, hb, hc _ _ e0, h1, h2⟩
theorem Rd.lenG {w : World} {A : Option Addr} {n : Nat} {l : List Rg} (hr : Rd w 3 A n (cellsG l)) : l.length = n := by
  have := hr.1
  rw [cellsG_len] at this
  omega

/-- Whether ranges rise behind 'last'. -/
def riseB (last : Int) : List Rg → Bool
  | [] => true
  | r :: l => if r.1 ≤ last ∨ r.2.1 < r.1 ∨ 1114111 < r.2.1 then false else riseB r.2.1 l
theorem riseB_no {last : Int} {l : List Rg} {r : Rg} (h : r.1 ≤ last ∨ r.2.1 < r.1 ∨ 1114111 < r.2.1) : riseB last (r :: l) = false := if_pos h
theorem riseB_yes {last : Int} {l : List Rg} {r : Rg} (h : ¬ (r.1 ≤ last ∨ r.2.1 < r.1 ∨ 1114111 < r.2.1)) : riseB last (r :: l) = riseB r.2.1 l := if_neg h
/-- The value of a code: the first range's that has it. -/
def getG (l : List Rg) (none_ c : Int) : Int :=
  match l with
  | [] => none_
  | r :: l => if r.1 ≤ c ∧ c ≤ r.2.1 then r.2.2 else getG l none_ c
/-- What Build tells of ranges. -/
def errG (l : List Rg) : Int := if 4096 < l.length then 6 else if riseB (-1) l = true then 0 else 10
end Go.Proofs.Ytbnjflkafdkcpaa
/- The given ranges of classes and of joining, as lists. -/
namespace Go.Proofs.Ytbnjflkafdkcpaa

def bidiL : List Rg := [(0, 8, 9), (9, 9, 11), (10, 10, 10), (11, 11, 11), (12, 12, 12), (13, 13, 10), (14, 27, 9), (28, 30, 10), (31, 31, 11), (32, 32, 12), (33, 34, 13), (35, 37, 5), (38, 42, 13), (43, 43, 4), (44, 44, 7), (45, 45, 4), (46, 47, 7), (48, 57, 3), (58, 58, 7), (59, 64, 13), (91, 96, 13), (123, 126, 13), (127, 132, 9), (133, 133, 10), (134, 159, 9), (160, 160, 7), (161, 161, 13), (162, 165, 5), (166, 169, 13), (171, 172, 13), (173, 173, 9), (174, 175, 13), (176, 177, 5), (178, 179, 3), (180, 180, 13), (182, 184, 13), (185, 185, 3), (187, 191, 13), (215, 215, 13), (247, 247, 13), (697, 698, 13), (706, 719, 13), (722, 735, 13), (768, 879, 8), (1424, 1424, 1), (1425, 1469, 8), (1470, 1470, 1), (1471, 1471, 8), (1472, 1472, 1), (1473, 1474, 8), (1475, 1475, 1), (1476, 1477, 8), (1478, 1478, 1), (1479, 1479, 8), (1480, 1535, 1), (1536, 1541, 6), (1542, 1543, 13), (1544, 1544, 2), (1545, 1546, 5), (1547, 1547, 2), (1548, 1548, 7), (1549, 1549, 2), (1550, 1551, 13), (1552, 1562, 8), (1563, 1610, 2), (1611, 1631, 8), (1632, 1641, 6), (1642, 1642, 5), (1643, 1644, 6), (1645, 1647, 2), (1648, 1648, 8), (1649, 1749, 2), (1750, 1756, 8), (1757, 1757, 6), (1758, 1758, 13), (1759, 1764, 8), (1765, 1766, 2), (1767, 1768, 8), (1769, 1769, 13), (1770, 1773, 8), (1774, 1775, 2), (1776, 1785, 3), (1786, 1808, 2), (1809, 1809, 8), (1810, 1839, 2), (1840, 1866, 8), (1867, 1957, 2), (1958, 1968, 8), (1969, 1983, 2), (1984, 2026, 1), (2027, 2035, 8), (2036, 2037, 1), (2038, 2041, 13), (2042, 2044, 1), (2045, 2045, 8), (2046, 2069, 1), (2070, 2073, 8), (2074, 2074, 1), (2075, 2083, 8), (2084, 2084, 1), (2085, 2087, 8), (2088, 2088, 1), (2089, 2093, 8), (2094, 2136, 1), (2137, 2139, 8), (2140, 2143, 1), (2144, 2191, 2), (2192, 2193, 6), (2194, 2199, 2), (2200, 2207, 8), (2208, 2249, 2), (2250, 2273, 8), (2274, 2274, 6), (2275, 2306, 8), (8192, 8202, 12), (8203, 8205, 9), (8207, 8207, 1), (8208, 8231, 13), (8232, 8232, 12), (8233, 8233, 10), (8234, 8234, 14), (8235, 8235, 16), (8236, 8236, 18), (8237, 8237, 15), (8238, 8238, 17), (8239, 8239, 7), (8240, 8244, 5), (8245, 8259, 13), (8260, 8260, 7), (8261, 8286, 13), (8287, 8287, 12), (8288, 8293, 9), (8294, 8294, 19), (8295, 8295, 20), (8296, 8296, 21), (8297, 8297, 22), (8298, 8303, 9), (8304, 8304, 3), (8308, 8313, 3), (8314, 8315, 4), (8316, 8318, 13), (8320, 8329, 3), (8330, 8331, 4), (8332, 8334, 13), (8352, 8399, 5), (8400, 8432, 8), (8592, 8721, 13), (8722, 8722, 4), (8723, 8723, 5), (8724, 9013, 13), (9083, 9108, 13), (9110, 9254, 13), (9280, 9290, 13), (9312, 9351, 13), (9352, 9371, 3), (9450, 9899, 13), (9901, 10239, 13), (10496, 11123, 13), (11776, 11869, 13), (12288, 12288, 12), (12289, 12292, 13), (12296, 12320, 13), (12330, 12333, 8), (12336, 12336, 13), (64285, 64285, 1), (64286, 64286, 8), (64287, 64296, 1), (64297, 64297, 4), (64298, 64335, 1), (64336, 64829, 2), (64830, 64847, 13), (64848, 64974, 2), (64975, 64975, 13), (64976, 65007, 9), (65008, 65020, 2), (65021, 65023, 13), (65024, 65039, 8), (65040, 65049, 13), (65056, 65071, 8), (65072, 65103, 13), (65104, 65104, 7), (65105, 65105, 13), (65106, 65106, 7), (65108, 65108, 13), (65109, 65109, 7), (65110, 65118, 13), (65119, 65119, 5), (65120, 65121, 13), (65122, 65123, 4), (65124, 65126, 13), (65128, 65128, 13), (65129, 65130, 5), (65131, 65131, 13), (65136, 65278, 2), (65279, 65279, 9), (65281, 65282, 13), (65283, 65285, 5), (65286, 65290, 13), (65291, 65291, 4), (65292, 65292, 7), (65293, 65293, 4), (65294, 65295, 7), (65296, 65305, 3), (65306, 65306, 7), (65307, 65312, 13), (65339, 65344, 13), (65371, 65381, 13), (65504, 65505, 5), (65506, 65508, 13), (65509, 65510, 5), (65520, 65528, 9), (65529, 65533, 13), (65534, 65535, 9), (67584, 68863, 1), (68864, 68927, 2), (68928, 69631, 1), (120782, 120831, 3), (124928, 126063, 1), (126064, 126143, 2), (126144, 126207, 1), (126208, 126287, 2), (126288, 126463, 1), (126464, 126719, 2), (126720, 126975, 1), (126976, 127231, 13), (127232, 127242, 3), (127744, 128727, 13), (917504, 917759, 9), (917760, 917999, 8), (918000, 921599, 9)]
def joinL : List Rg := [(768, 879, 1), (1155, 1161, 1), (1425, 1469, 1), (1471, 1471, 1), (1473, 1474, 1), (1476, 1477, 1), (1479, 1479, 1), (1552, 1562, 1), (1564, 1564, 1), (1568, 1568, 3), (1570, 1573, 2), (1574, 1574, 3), (1575, 1575, 2), (1576, 1576, 3), (1577, 1577, 2), (1578, 1582, 3), (1583, 1586, 2), (1587, 1599, 3), (1600, 1600, 5), (1601, 1607, 3), (1608, 1608, 2), (1609, 1610, 3), (1611, 1631, 1), (1646, 1647, 3), (1648, 1648, 1), (1649, 1651, 2), (1653, 1655, 2), (1656, 1671, 3), (1672, 1689, 2), (1690, 1727, 3), (1728, 1728, 2), (1729, 1730, 3), (1731, 1739, 2), (1740, 1740, 3), (1741, 1741, 2), (1742, 1742, 3), (1743, 1743, 2), (1744, 1745, 3), (1746, 1747, 2), (1749, 1749, 2), (1750, 1756, 1), (1759, 1764, 1), (1767, 1768, 1), (1770, 1773, 1), (1774, 1775, 2), (1786, 1788, 3), (1791, 1791, 3), (1840, 1866, 1), (1958, 1968, 1), (1994, 2026, 3), (2027, 2035, 1), (2042, 2042, 5), (2200, 2207, 1), (2250, 2273, 1), (2275, 2306, 1), (8203, 8203, 1), (8205, 8205, 5), (8206, 8207, 1), (8234, 8238, 1), (8288, 8292, 1), (8298, 8303, 1), (8400, 8432, 1), (43072, 43121, 3), (43122, 43122, 4), (65024, 65039, 1), (65056, 65071, 1), (65279, 65279, 1), (917760, 917999, 1)]
end Go.Proofs.Ytbnjflkafdkcpaa
/- What codes are, as functions of the given ranges. -/
namespace Go.Proofs.Ytbnjflkafdkcpaa
open Go.RowKit
def classF (c : Int) : Int := if 0 ≤ c ∧ c ≤ 1114111 then getG bidiL 0 c else 13
def joinF (c : Int) : Int := getG joinL 0 c
end Go.Proofs.Ytbnjflkafdkcpaa
/- Paragraphs as plain mathematics: where they end, which places go together, the first strong class, the level. No function of the program. -/
namespace Go.Proofs.Ytbnjflkafdkcpaa
open Go.RowKit

/-- Whether a paragraph ends behind place k. -/
def endB (xs : List Int) (k : Nat) : Bool := decide (xs[k]?.map classF = some 10) && !(decide (xs[k]? = some 13) && decide (xs[k + 1]? = some 10))
/-- The paragraphs up to place k, and where the next one begins. -/
def parA (xs : List Int) : Nat → List Sp × Int
  | 0 => ([], 0)
  | k + 1 => if k + 1 = xs.length ∨ endB xs k = true then ((parA xs k).1 ++ [((parA xs k).2, (k : Int) + 1)], (k : Int) + 1) else parA xs k
def parL (xs : List Int) : List Sp := (parA xs xs.length).1
theorem parA_len (xs : List Int) (k : Nat) : (parA xs k).1.length ≤ k ∧ 0 ≤ (parA xs k).2 ∧ (parA xs k).2 ≤ k := by
  induction k with
  | zero => simp [parA]
  | succ k ih =>
    rw [parA]
    split
    · simp; omega
    · omega
theorem partsFrom_snoc (l : List Sp) (e : Int) (s : Sp) (n m : Int) (h : partsFrom e l m = true) (hs : s.1 = m) (hn : s.2 = n) (hr : rightB s = true) : partsFrom e (l ++ [s]) n = true := by
  induction l generalizing e with
  | nil =>
    simp only [partsFrom, beq_iff_eq] at h
    subst h
    simp [partsFrom, hr, hs, hn]
  | cons t l ih =>
    simp only [partsFrom, Bool.and_eq_true, List.cons_append] at h ⊢
    exact ⟨h.1, ih _ h.2⟩
theorem parA_parts (xs : List Int) (k : Nat) : partsFrom 0 (parA xs k).1 (parA xs k).2 = true := by
  induction k with
  | zero => rfl
  | succ k ih =>
    have h9 := parA_len xs k
    rw [parA]
    split
    · exact partsFrom_snoc _ _ _ _ _ ih rfl rfl (by simp [rightB]; omega)
    · exact ih
theorem parL_parts (xs : List Int) : partsS (parL xs) xs.length = true := by
  have h := parA_parts xs xs.length
  unfold partsS parL
  have he : (parA xs xs.length).2 = xs.length := by
    rcases hn : xs.length with _ | n
    · rfl
    · rw [parA, if_pos (.inl hn.symm)]
      simp
  rwa [he] at h

/-- Whether a class begins what stands apart. -/
def opB (c : Int) : Bool := decide (19 ≤ c) && decide (c ≤ 21)
theorem opB_iff (c : Int) : opB c = true ↔ c = 19 ∨ c = 20 ∨ c = 21 := by simp [opB]; omega
/-- How far behind the place is that ends what stands apart, from so deep on. -/
def clo : List Int → Nat → Option Nat
  | [], _ => none
  | c :: l, d => if opB c = true then (clo l (d + 1)).map (· + 1) else if c = 22 then (if d = 0 then some 0 else (clo l (d - 1)).map (· + 1)) else (clo l d).map (· + 1)
/-- The place that ends it, read on from place k; or how many places there are. -/
def ansF (xs : List Int) (k d : Nat) : Nat := match clo (xs.drop k) d with | some j => k + j | none => xs.length
theorem clo_lt {l : List Int} {d j : Nat} (h : clo l d = some j) : j < l.length := by
  induction l generalizing d j with
  | nil => simp [clo] at h
  | cons c l ih =>
    rw [clo] at h
    split at h
    · simp only [Option.map_eq_some_iff] at h
      obtain ⟨a, ha, rfl⟩ := h
      have := ih ha
      simp; omega
    · split at h
      · split at h
        · simp at h; subst h; simp
        · simp only [Option.map_eq_some_iff] at h
          obtain ⟨a, ha, rfl⟩ := h
          have := ih ha
          simp; omega
      · simp only [Option.map_eq_some_iff] at h
        obtain ⟨a, ha, rfl⟩ := h
        have := ih ha
        simp; omega
theorem clo_pdi {l : List Int} {d j : Nat} (h : clo l d = some j) : l[j]? = some 22 := by
  induction l generalizing d j with
  | nil => simp [clo] at h
  | cons c l ih =>
    rw [clo] at h
    split at h
    · simp only [Option.map_eq_some_iff] at h
      obtain ⟨a, ha, rfl⟩ := h
      simpa using ih ha
    · split at h
      · rename_i hc
        split at h
        · simp at h; subst h; simp [hc]
        · simp only [Option.map_eq_some_iff] at h
          obtain ⟨a, ha, rfl⟩ := h
          simpa using ih ha
      · simp only [Option.map_eq_some_iff] at h
        obtain ⟨a, ha, rfl⟩ := h
        simpa using ih ha
theorem ansF_le (xs : List Int) (k d : Nat) : ansF xs k d ≤ xs.length := by
  unfold ansF
  split
  · rename_i j h
    have := clo_lt h
    simp at this
    omega
  · exact Nat.le_refl _
theorem ansF_ge (xs : List Int) (k d : Nat) (hk : k ≤ xs.length) : k ≤ ansF xs k d := by
  unfold ansF
  split
  · omega
  · exact hk
theorem ansF_end (xs : List Int) (d : Nat) : ansF xs xs.length d = xs.length := by
  unfold ansF
  simp [clo]
theorem ansF_pdi (xs : List Int) (k d : Nat) (h : ansF xs k d < xs.length) : xs[ansF xs k d]? = some 22 := by
  unfold ansF at h ⊢
  split
  · rename_i j hj
    have := clo_pdi hj
    rwa [List.getElem?_drop] at this
  · rename_i hj
    rw [hj] at h
    simp at h
theorem ansF_map {xs : List Int} {k d e : Nat} {c : Int} (_hd : xs.drop k = c :: xs.drop (k + 1)) (h : clo (xs.drop k) d = (clo (xs.drop (k + 1)) e).map (· + 1)) : ansF xs k d = ansF xs (k + 1) e := by
  unfold ansF
  rw [h]
  cases clo (xs.drop (k + 1)) e with
  | none => rfl
  | some j => simp; omega
theorem ansF_open {xs : List Int} {k : Nat} {c : Int} (d : Nat) (h : xs[k]? = some c) (ho : opB c = true) : ansF xs k d = ansF xs (k + 1) (d + 1) :=
  ansF_map (dropCons h) (by rw [dropCons h, clo, if_pos ho])
theorem ansF_shut {xs : List Int} {k : Nat} (d : Nat) (h : xs[k]? = some 22) : ansF xs k (d + 1) = ansF xs (k + 1) d :=
  ansF_map (dropCons h) (by rw [dropCons h, clo, if_neg (by decide), if_pos rfl, if_neg (by omega)]; rfl)
theorem ansF_here {xs : List Int} {k : Nat} (h : xs[k]? = some 22) : ansF xs k 0 = k := by
  unfold ansF
  rw [dropCons h, clo, if_neg (by decide), if_pos rfl, if_pos rfl]
  rfl
theorem ansF_pass {xs : List Int} {k : Nat} {c : Int} (d : Nat) (h : xs[k]? = some c) (ho : opB c = false) (h2 : c ≠ 22) : ansF xs k d = ansF xs (k + 1) d :=
  ansF_map (dropCons h) (by rw [dropCons h, clo, if_neg (by rw [ho]; decide), if_neg h2])

/-- The program's steps: what goes together so far, and the places that are open, the last one first. -/
def pmS (xs : List Int) : Nat → List Int × List Nat
  | 0 => (List.replicate xs.length 0, [])
  | k + 1 =>
    let s := pmS xs k
    let m := s.1.set k (-1)
    match xs[k]? with
    | none => s
    | some c => if opB c = true then (m.set k xs.length, k :: s.2) else if c = 22 then (match s.2 with | [] => (m, []) | t :: r => ((m.set k t).set t k, r)) else (m, s.2)
/-- The reference's steps. -/
def rmS (xs : List Int) : Nat → List Int
  | 0 => List.replicate xs.length (-1)
  | k + 1 => if xs[k]?.map opB = some true then (let m := (rmS xs k).set k (ansF xs (k + 1) 0); if ansF xs (k + 1) 0 < xs.length then m.set (ansF xs (k + 1) 0) k else m) else rmS xs k
def matF (xs : List Int) : List Int := (pmS xs xs.length).1
def OpAt (xs : List Int) (i : Nat) : Prop := xs[i]?.map opB = some true
/-- What the whole answer is. -/
structure Good (xs m : List Int) : Prop where
  len : m.length = xs.length
  op : ∀ i, OpAt xs i → m[i]? = some ((ansF xs (i + 1) 0 : Nat) : Int)
  shut : ∀ i, OpAt xs i → ansF xs (i + 1) 0 < xs.length → m[ansF xs (i + 1) 0]? = some (i : Int)
  else_ : ∀ j < xs.length, ¬ OpAt xs j → m[j]? = some (-1) ∨ ∃ i, OpAt xs i ∧ ansF xs (i + 1) 0 = j
theorem Good.same {xs m m' : List Int} (h : Good xs m) (h' : Good xs m') : m = m' := by
  apply List.ext_getElem?
  intro j
  rcases Nat.lt_or_ge j xs.length with hj | hj
  · by_cases ho : OpAt xs j
    · rw [h.op j ho, h'.op j ho]
    · rcases h.else_ j hj ho with e | ⟨i, hi, e⟩
      · rcases h'.else_ j hj ho with e' | ⟨i, hi, e'⟩
        · rw [e, e']
        · subst e'
          rw [h.shut i hi hj, h'.shut i hi hj]
      · subst e
        rw [h.shut i hi hj, h'.shut i hi hj]
  · rw [List.getElem?_eq_none (by rw [h.len]; exact hj), List.getElem?_eq_none (by rw [h'.len]; exact hj)]
/-- What holds at each turn of the program. -/
structure PmI (xs : List Int) (k : Nat) (m : List Int) (S : List Nat) : Prop where
  len : m.length = xs.length
  st : ∀ t i, S[t]? = some i → i < k ∧ OpAt xs i ∧ ansF xs (i + 1) 0 = ansF xs k t ∧ m[i]? = some (xs.length : Int)
  op : ∀ i < k, OpAt xs i → i ∈ S ∨ (ansF xs (i + 1) 0 < k ∧ m[i]? = some ((ansF xs (i + 1) 0 : Nat) : Int) ∧ m[ansF xs (i + 1) 0]? = some (i : Int))
  else_ : ∀ j < k, ¬ OpAt xs j → m[j]? = some (-1) ∨ ∃ i, OpAt xs i ∧ ansF xs (i + 1) 0 = j
theorem set_ne {l : List Int} {i j : Nat} {x : Int} (h : i ≠ j) : (l.set i x)[j]? = l[j]? := List.getElem?_set_ne h
theorem set_eq {l : List Int} {i : Nat} {x : Int} (h : i < l.length) : (l.set i x)[i]? = some x := List.getElem?_set_self h
theorem opAt_of {xs : List Int} {k : Nat} {c : Int} (h : xs[k]? = some c) : OpAt xs k ↔ opB c = true := by
  unfold OpAt
  rw [h]
  simp
theorem pmI_all (xs : List Int) (k : Nat) (hk : k ≤ xs.length) : PmI xs k (pmS xs k).1 (pmS xs k).2 := by
  induction k with
  | zero => exact ⟨by simp [pmS], by simp [pmS], fun i h => absurd h (by omega), fun i h => absurd h (by omega)⟩
  | succ k ih =>
    have ih := ih (by omega)
    obtain ⟨c, hc⟩ : ∃ c, xs[k]? = some c := ⟨_, List.getElem?_eq_getElem (by omega)⟩
    obtain ⟨m, S, hmS⟩ : ∃ m S, pmS xs k = (m, S) := ⟨_, _, rfl⟩
    rw [hmS] at ih
    simp only at ih
    have hle : ∀ i, i ∈ S → i < k := fun i hi => by
      obtain ⟨t, ht⟩ := List.getElem?_of_mem hi
      exact (ih.st t i ht).1
    rw [pmS]
    simp only [hmS, hc]
    by_cases ho : opB c = true
    · rw [if_pos ho]
      have hoA := (opAt_of hc).2 ho
      refine ⟨by simp [ih.len], fun t i ht => ?_, fun i hi hoi => ?_, fun j hj hoj => ?_⟩
      · cases t with
        | zero =>
          simp at ht
          subst ht
          exact ⟨by omega, hoA, rfl, set_eq (by simp [ih.len]; omega)⟩
        | succ t =>
          simp at ht
          obtain ⟨h1, h2, h3, h4⟩ := ih.st t i ht
          exact ⟨by omega, h2, h3.trans (ansF_open t hc ho), by rw [set_ne (by omega), set_ne (by omega)]; exact h4⟩
      · by_cases hik : i = k
        · subst hik; exact .inl (List.mem_cons_self ..)
        · rcases ih.op i (by omega) hoi with h | ⟨h1, h2, h3⟩
          · exact .inl (List.mem_cons_of_mem _ h)
          · exact .inr ⟨by omega, by rw [set_ne (by omega), set_ne (by omega)]; exact h2, by rw [set_ne (by omega), set_ne (by omega)]; exact h3⟩
      · by_cases hjk : j = k
        · subst hjk; exact absurd hoA hoj
        · rcases ih.else_ j (by omega) hoj with h | h
          · exact .inl (by rw [set_ne (by omega), set_ne (by omega)]; exact h)
          · exact .inr h
    · rw [if_neg ho]
      have hnA : ¬ OpAt xs k := fun h => ho ((opAt_of hc).1 h)
      by_cases h22 : c = 22
      · subst h22
        rw [if_pos rfl]
        cases S with
        | nil =>
          refine ⟨by simp [ih.len], by simp, fun i hi hoi => ?_, fun j hj hoj => ?_⟩
          · have hik : i ≠ k := by rintro rfl; exact hnA hoi
            rcases ih.op i (by omega) hoi with h | ⟨h1, h2, h3⟩
            · simp at h
            · exact .inr ⟨by omega, by rw [set_ne (by omega)]; exact h2, by rw [set_ne (by omega)]; exact h3⟩
          · by_cases hjk : j = k
            · subst hjk; exact .inl (set_eq (by rw [ih.len]; omega))
            · rcases ih.else_ j (by omega) hoj with h | h
              · exact .inl (by rw [set_ne (by omega)]; exact h)
              · exact .inr h
        | cons t r =>
          obtain ⟨g1, g2, g3, g4⟩ := ih.st 0 t rfl
          have hclo : ansF xs (t + 1) 0 = k := by rw [g3]; exact ansF_here hc
          have hnd : ∀ u i, r[u]? = some i → i ≠ t := fun u i hu e => by
            subst e
            have h5 := (ih.st (u + 1) i (by simpa using hu)).2.2.1
            have h6 : ansF xs k (u + 1) = ansF xs (k + 1) u := ansF_shut u hc
            have h7 := ansF_ge xs (k + 1) u (by omega)
            omega
          refine ⟨by simp [ih.len], fun u i hu => ?_, fun i hi hoi => ?_, fun j hj hoj => ?_⟩
          · obtain ⟨h1, h2, h3, h4⟩ := ih.st (u + 1) i (by simpa using hu)
            have := hnd u i hu
            exact ⟨by omega, h2, h3.trans (ansF_shut u hc), by rw [set_ne (by omega), set_ne (by omega), set_ne (by omega)]; exact h4⟩
          · have hik : i ≠ k := by rintro rfl; exact hnA hoi
            by_cases hit : i = t
            · subst hit
              exact .inr ⟨by omega, by rw [hclo]; exact set_eq (by simp [ih.len]; omega), by rw [hclo, set_ne (by omega)]; exact set_eq (by simp [ih.len]; omega)⟩
            · rcases ih.op i (by omega) hoi with h | ⟨h1, h2, h3⟩
              · simp [hit] at h
                exact .inl h
              · have hct : ansF xs (i + 1) 0 ≠ t := fun e => by
                  rw [e, g4] at h3
                  simp at h3
                  omega
                exact .inr ⟨by omega, by rw [set_ne (by omega), set_ne (by omega), set_ne (by omega)]; exact h2, by rw [set_ne (by omega), set_ne (by omega), set_ne (by omega)]; exact h3⟩
          · by_cases hjk : j = k
            · subst hjk; exact .inr ⟨t, g2, hclo⟩
            · have hjt : j ≠ t := by rintro rfl; exact hoj g2
              rcases ih.else_ j (by omega) hoj with h | h
              · exact .inl (by rw [set_ne (by omega), set_ne (by omega), set_ne (by omega)]; exact h)
              · exact .inr h
      · rw [if_neg h22]
        have ho' : opB c = false := by simpa using ho
        refine ⟨by simp [ih.len], fun u i hu => ?_, fun i hi hoi => ?_, fun j hj hoj => ?_⟩
        · obtain ⟨h1, h2, h3, h4⟩ := ih.st u i hu
          exact ⟨by omega, h2, h3.trans (ansF_pass u hc ho' h22), by rw [set_ne (by omega)]; exact h4⟩
        · have hik : i ≠ k := by rintro rfl; exact hnA hoi
          rcases ih.op i (by omega) hoi with h | ⟨h1, h2, h3⟩
          · exact .inl h
          · exact .inr ⟨by omega, by rw [set_ne (by omega)]; exact h2, by rw [set_ne (by omega)]; exact h3⟩
        · by_cases hjk : j = k
          · subst hjk; exact .inl (set_eq (by rw [ih.len]; omega))
          · rcases ih.else_ j (by omega) hoj with h | h
            · exact .inl (by rw [set_ne (by omega)]; exact h)
            · exact .inr h
theorem opAt_lt {xs : List Int} {i : Nat} (h : OpAt xs i) : i < xs.length := by
  unfold OpAt at h
  rcases Nat.lt_or_ge i xs.length with hi | hi
  · exact hi
  · rw [List.getElem?_eq_none hi] at h; simp at h
theorem matF_good (xs : List Int) : Good xs (matF xs) := by
  have h := pmI_all xs xs.length (Nat.le_refl _)
  unfold matF
  refine ⟨h.len, fun i hi => ?_, fun i hi hlt => ?_, h.else_⟩
  · rcases h.op i (opAt_lt hi) hi with g | ⟨_, g, _⟩
    · obtain ⟨t, ht⟩ := List.getElem?_of_mem g
      obtain ⟨_, _, g3, g4⟩ := h.st t i ht
      rw [ansF_end] at g3
      rw [g3, g4]
    · exact g
  · rcases h.op i (opAt_lt hi) hi with g | ⟨_, _, g⟩
    · obtain ⟨t, ht⟩ := List.getElem?_of_mem g
      obtain ⟨_, _, g3, g4⟩ := h.st t i ht
      rw [ansF_end] at g3
      omega
    · exact g
/-- What goes together goes together once. -/
theorem ansF_inj {xs : List Int} {i j : Nat} (hi : OpAt xs i) (hj : OpAt xs j) (h : ansF xs (i + 1) 0 = ansF xs (j + 1) 0) (hl : ansF xs (i + 1) 0 < xs.length) : i = j := by
  have h1 := (matF_good xs).shut i hi hl
  have h2 := (matF_good xs).shut j hj (by omega)
  rw [← h, h1] at h2
  simp at h2
  omega
theorem pdi_not {xs : List Int} {i : Nat} (hl : ansF xs (i + 1) 0 < xs.length) : ¬ OpAt xs (ansF xs (i + 1) 0) := fun h => by
  have h1 := ansF_pdi xs (i + 1) 0 hl
  rw [opAt_of h1] at h
  cases h
structure RmI (xs : List Int) (k : Nat) (m : List Int) : Prop where
  len : m.length = xs.length
  op : ∀ i < k, OpAt xs i → m[i]? = some ((ansF xs (i + 1) 0 : Nat) : Int) ∧ (ansF xs (i + 1) 0 < xs.length → m[ansF xs (i + 1) 0]? = some (i : Int))
  else_ : ∀ j < xs.length, ¬ OpAt xs j → m[j]? = some (-1) ∨ ∃ i, OpAt xs i ∧ ansF xs (i + 1) 0 = j
theorem rmI_all (xs : List Int) (k : Nat) (hk : k ≤ xs.length) : RmI xs k (rmS xs k) := by
  induction k with
  | zero => exact ⟨by simp [rmS], fun i h => absurd h (by omega), fun j hj _ => .inl (by rw [rmS, List.getElem?_replicate, if_pos hj])⟩
  | succ k ih =>
    have ih := ih (by omega)
    rw [rmS]
    by_cases ho : xs[k]?.map opB = some true
    · rw [if_pos ho]
      have hoA : OpAt xs k := ho
      by_cases hl : ansF xs (k + 1) 0 < xs.length
      · simp only [hl, if_true]
        have hn := pdi_not hl
        have hge := ansF_ge xs (k + 1) 0 (by omega)
        refine ⟨by simp [ih.len], fun i hi hoi => ?_, fun j hj hoj => ?_⟩
        · have h1 : ansF xs (k + 1) 0 ≠ i := by rintro rfl; exact hn hoi
          by_cases hik : i = k
          · subst hik
            exact ⟨by rw [set_ne h1, set_eq (by rw [ih.len]; omega)], fun _ => set_eq (by simp [ih.len]; omega)⟩
          · obtain ⟨g1, g2⟩ := ih.op i (by omega) hoi
            refine ⟨by rw [set_ne h1, set_ne (by omega)]; exact g1, fun hli => ?_⟩
            have h2 : ansF xs (k + 1) 0 ≠ ansF xs (i + 1) 0 := fun e => hik (ansF_inj hoi hoA e.symm hli)
            have h3 : k ≠ ansF xs (i + 1) 0 := by intro e; exact pdi_not hli (by rw [← e]; exact hoA)
            rw [set_ne h2, set_ne h3]
            exact g2 hli
        · by_cases hja : ansF xs (k + 1) 0 = j
          · exact .inr ⟨k, hoA, hja⟩
          · have hjk : k ≠ j := by rintro rfl; exact hoj hoA
            rcases ih.else_ j hj hoj with h | h
            · exact .inl (by rw [set_ne hja, set_ne hjk]; exact h)
            · exact .inr h
      · simp only [hl, if_false]
        refine ⟨by simp [ih.len], fun i hi hoi => ?_, fun j hj hoj => ?_⟩
        · by_cases hik : i = k
          · subst hik
            exact ⟨set_eq (by rw [ih.len]; omega), fun h => absurd h hl⟩
          · obtain ⟨g1, g2⟩ := ih.op i (by omega) hoi
            refine ⟨by rw [set_ne (by omega)]; exact g1, fun hli => ?_⟩
            have h3 : k ≠ ansF xs (i + 1) 0 := by intro e; exact pdi_not hli (by rw [← e]; exact hoA)
            rw [set_ne h3]
            exact g2 hli
        · have hjk : k ≠ j := by rintro rfl; exact hoj hoA
          rcases ih.else_ j hj hoj with h | h
          · exact .inl (by rw [set_ne hjk]; exact h)
          · exact .inr h
    · rw [if_neg ho]
      refine ⟨ih.len, fun i hi hoi => ?_, ih.else_⟩
      have hik : i ≠ k := by rintro rfl; exact ho hoi
      exact ih.op i (by omega) hoi
/-- Both come to the same. -/
theorem rm_pm (xs : List Int) : rmS xs xs.length = matF xs := by
  have h := rmI_all xs xs.length (Nat.le_refl _)
  have g : Good xs (rmS xs xs.length) := ⟨h.len, fun i hi => (h.op i (opAt_lt hi) hi).1, fun i hi hl => (h.op i (opAt_lt hi) hi).2 hl, h.else_⟩
  exact g.same (matF_good xs)
/-- What goes together goes both ways. -/
theorem mat_back {xs : List Int} {i k : Nat} (h : (matF xs)[i]? = some (k : Int)) (hk : k < xs.length) : (matF xs)[k]? = some (i : Int) := by
  have g := matF_good xs
  have hi : i < xs.length := by
    have := (List.getElem?_eq_some_iff.1 h).1
    rwa [g.len] at this
  by_cases ho : OpAt xs i
  · rw [g.op i ho] at h
    have e : ansF xs (i + 1) 0 = k := by simp at h; omega
    subst e
    exact g.shut i ho hk
  · rcases g.else_ i hi ho with e | ⟨j, hj, e⟩
    · rw [e] at h
      simp at h
    · subst e
      rw [g.shut j hj hi] at h
      have e : j = k := by simp at h; omega
      subst e
      exact g.op j hj
theorem pmS_len (xs : List Int) (k : Nat) : (pmS xs k).1.length = xs.length := by
  induction k with
  | zero => simp [pmS]
  | succ k ih =>
    rw [pmS]
    split
    · exact ih
    · repeat' split
      all_goals simp [ih]
theorem pmS_stack (xs : List Int) (k : Nat) : (pmS xs k).2.length ≤ k := by
  induction k with
  | zero => simp [pmS]
  | succ k ih =>
    rw [pmS]
    split
    · omega
    · repeat' split
      all_goals (rename_i hs; simp_all; try omega)

/-- The first strong class, from so deep on. -/
def fstF : List Int → Nat → Int
  | [], _ => -1
  | c :: l, d => if opB c = true then fstF l (d + 1) else if c = 22 then fstF l (d - 1) else if d = 0 then (if c = 0 then 0 else if c = 1 ∨ c = 2 then 1 else fstF l 0) else fstF l d
/-- What stands apart may be passed over at once. -/
theorem fst_clo (l : List Int) (d : Nat) : fstF l (d + 1) = match clo l d with | some j => fstF (l.drop (j + 1)) 0 | none => -1 := by
  induction l generalizing d with
  | nil => rfl
  | cons c l ih =>
    rw [fstF, clo]
    split
    · rw [ih (d + 1)]
      cases clo l (d + 1) <;> rfl
    · by_cases h22 : c = 22
      · rw [if_pos h22, if_pos h22]
        by_cases hd : d = 0
        · subst hd; rfl
        · rw [if_neg hd, show d + 1 - 1 = (d - 1) + 1 by omega, ih (d - 1)]
          cases clo l (d - 1) <;> rfl
      · rw [if_neg h22, if_neg h22, if_neg (by omega), ih d]
        cases clo l d <;> rfl
def spanOf (xs : List Int) (s : Sp) : List Int := if max s.1 0 < min (max s.2 0) xs.length then (xs.drop (max s.1 0).toNat).take ((min (max s.2 0) xs.length).toNat - (max s.1 0).toNat) else []
def firstF (xs : List Int) (s : Sp) : Int := fstF (spanOf xs s) 0
def levelF (xs : List Int) (d : Int) : Int :=
  if d = 1 then 1 else if d = 2 then (if fstF xs 0 = -1 then 0 else fstF xs 0) else if d = 3 then (if fstF xs 0 = -1 then 1 else fstF xs 0) else 0
theorem fst_val (l : List Int) (d : Nat) : fstF l d = -1 ∨ fstF l d = 0 ∨ fstF l d = 1 := by
  induction l generalizing d with
  | nil => exact .inl rfl
  | cons c l ih =>
    rw [fstF]
    split
    · exact ih _
    · split
      · exact ih _
      · split
        · split
          · exact .inr (.inl rfl)
          · split
            · exact .inr (.inr rfl)
            · exact ih 0
        · exact ih _
theorem spanOf_all (xs : List Int) : spanOf xs (0, xs.length) = xs := by
  unfold spanOf
  rcases Nat.eq_zero_or_pos xs.length with h | h
  · rw [if_neg (by simp [h])]
    exact (List.eq_nil_of_length_eq_zero h).symm
  · rw [if_pos (by simp; omega)]
    rw [show (max (0 : Int) 0).toNat = 0 from rfl, show (min (max (xs.length : Int) 0) xs.length).toNat = xs.length by omega]
    simp
/-- Codes ahead that are no strong ones and begin nothing change nothing. -/
def calm (c : Int) : Bool := !(decide (c = 0) || decide (c = 1) || decide (c = 2)) && !opB c
theorem fst_calm (l r : List Int) (h : ∀ c ∈ l, calm c = true) : fstF (l ++ r) 0 = fstF r 0 := by
  induction l with
  | nil => rfl
  | cons c l ih =>
    have hc := h c (List.mem_cons_self ..)
    simp only [calm, Bool.and_eq_true, Bool.not_eq_true', Bool.or_eq_false_iff, decide_eq_false_iff_not] at hc
    rw [List.cons_append, fstF, if_neg (by rw [hc.2]; decide)]
    split
    · exact ih (fun c hc => h c (List.mem_cons_of_mem _ hc))
    · rw [if_pos rfl, if_neg hc.1.1.1, if_neg (by omega)]
      exact ih (fun c hc => h c (List.mem_cons_of_mem _ hc))
theorem fst_lead (l r : List Int) (c : Int) (h : ∀ c ∈ l, calm c = true) (hc : c = 0 ∨ c = 1) : fstF (l ++ c :: r) 0 = c := by
  rw [fst_calm l _ h]
  rcases hc with rfl | rfl <;> rfl
end Go.Proofs.Ytbnjflkafdkcpaa
/- What lies within a span; paragraphs lie within the text. -/
namespace Go.Proofs.Ytbnjflkafdkcpaa
open Go.RowKit

/-- What lies within a span. -/
def subL (xs : List Int) (s : Sp) : List Int := (xs.take s.2.toNat).drop s.1.toNat
theorem parts_in : ∀ {l : List Sp} {e n : Int}, partsFrom e l n = true → 0 ≤ e → ∀ s ∈ l, e ≤ s.1 ∧ s.1 < s.2 ∧ s.2 ≤ n
  | [], _, _, _, _, s, hs => by cases hs
  | t :: l, e, n, h, he, s, hs => by
    simp only [partsFrom, Bool.and_eq_true, beq_iff_eq] at h
    obtain ⟨⟨h1, h2⟩, h3⟩ := h
    have hr := of_decide_eq_true h1
    rcases List.mem_cons.1 hs with rfl | hs
    · refine ⟨by omega, hr.2, ?_⟩
      have : ∀ {l : List Sp} {e n : Int}, partsFrom e l n = true → 0 ≤ e → e ≤ n := by
        intro l
        induction l with
        | nil => intro e n h _; simp only [partsFrom, beq_iff_eq] at h; omega
        | cons t l ih =>
          intro e n h he
          simp only [partsFrom, Bool.and_eq_true, beq_iff_eq] at h
          have hr := of_decide_eq_true h.1.1
          have := ih h.2 (by omega)
          omega
      exact this h3 (by omega)
    · have := parts_in h3 (by omega) s hs
      omega
theorem parL_in (xs : List Int) : ∀ s ∈ parL xs, 0 ≤ s.1 ∧ s.1 < s.2 ∧ s.2 ≤ xs.length := by
  intro s hs
  exact parts_in (parL_parts xs) (by omega) s hs
theorem sub_len {xs : List Int} {s : Sp} (h : 0 ≤ s.1 ∧ s.1 < s.2 ∧ s.2 ≤ xs.length) : ((subL xs s).length : Int) = s.2 - s.1 := by
  unfold subL
  rw [List.length_drop, List.length_take]
  omega
end Go.Proofs.Ytbnjflkafdkcpaa
/- Lines as mathematics: paragraphs cut at breaks are parts; what the end of a line makes of levels. No function of the program. -/
namespace Go.Proofs.Ytbnjflkafdkcpaa
open Go.RowKit

/-- A paragraph, cut at breaks. -/
def lnCut (hi : Int) : Int → List Int → List Sp
  | lo, [] => [(lo, hi)]
  | lo, b :: bs => if lo < b ∧ b < hi then (lo, b) :: lnCut hi b bs else lnCut hi lo bs
def linesF (l : List Sp) (bs : List Int) : List Sp := l.flatMap fun s => lnCut s.2 s.1 bs
theorem lnCut_parts (hi n : Int) (rest : List Sp) : ∀ (bs : List Int) (lo : Int), 0 ≤ lo → lo < hi → partsFrom lo (lnCut hi lo bs ++ rest) n = partsFrom hi rest n
  | [], lo, h0, h1 => by
    have hr : rightB (lo, hi) = true := by simp [rightB]; omega
    simp [lnCut, partsFrom, hr]
  | b :: bs, lo, h0, h1 => by
    rw [lnCut]
    split
    · rename_i hb
      have hr : rightB (lo, b) = true := by simp [rightB]; omega
      have := lnCut_parts hi n rest bs b (by omega) hb.2
      simp [partsFrom, hr, this]
    · exact lnCut_parts hi n rest bs lo h0 h1
/-- Lines of parts are parts. -/
theorem lines_from (bs : List Int) (n : Int) : ∀ (l : List Sp) (e : Int), partsFrom e l n = true → partsFrom e (linesF l bs) n = true
  | [], e, h => h
  | s :: l, e, h => by
    simp only [partsFrom, Bool.and_eq_true, beq_iff_eq] at h
    have hs : linesF (s :: l) bs = lnCut s.2 s.1 bs ++ linesF l bs := by simp [linesF]
    obtain ⟨⟨hr, he⟩, hl⟩ := h
    have hr' : 0 ≤ s.1 ∧ s.1 < s.2 := by simpa [rightB] using hr
    rw [hs, ← he, lnCut_parts s.2 n _ bs s.1 hr'.1 hr'.2]
    exact lines_from bs n l s.2 hl
/-- What goes with the end of a line. -/
def blkB (c : Int) : Bool := decide (c = 12) || (decide (19 ≤ c) && decide (c ≤ 22)) || ((decide (14 ≤ c) && decide (c ≤ 18)) || decide (c = 9))
def endsF : List Int → Bool
  | [] => true
  | c :: l => if c = 11 ∨ c = 10 then true else if blkB c = true then endsF l else false
/-- The levels of a line: classes and levels of its places. -/
def lineF (base : Int) : List Int → List Int → List Int
  | c :: cs, n :: ns => (if endsF (c :: cs) = true then base else n) :: lineF base cs ns
  | _, _ => []
theorem lineF_len (base : Int) : ∀ (cs ns : List Int), cs.length = ns.length → (lineF base cs ns).length = ns.length
  | [], [], _ => rfl
  | _ :: cs, _ :: ns, h => by simp [lineF, lineF_len base cs ns (by simpa using h)]
  | [], _ :: _, h => by simp at h
  | _ :: _, [], h => by simp at h
theorem lineF_get (base : Int) {c n : Int} : ∀ {cs ns : List Int} {i : Nat}, cs[i]? = some c → ns[i]? = some n → (lineF base cs ns)[i]? = some (if endsF (cs.drop i) = true then base else n)
  | [], _, _, h, _ => by simp at h
  | _ :: _, [], _, _, h => by simp at h
  | x :: cs, y :: ns, 0, hc, hn => by
    obtain rfl := Option.some.inj hn
    rfl
  | x :: cs, y :: ns, i + 1, hc, hn => by
    rw [lineF, List.getElem?_cons_succ, List.drop_succ_cons]
    exact lineF_get base (by simpa using hc) (by simpa using hn)
/-- A strong place, and a digit's, stays. -/
theorem ends_strong {c : Int} (hc : c = 0 ∨ c = 1 ∨ c = 2 ∨ c = 3 ∨ c = 6) (l : List Int) : endsF (c :: l) = false := by
  rcases hc with rfl | rfl | rfl | rfl | rfl <;> rfl
end Go.Proofs.Ytbnjflkafdkcpaa
/- The places from one up to another. -/
namespace Go.Proofs.Ytbnjflkafdkcpaa
open Go.RowKit

/-- The places from one up to another. -/
def partF (l : List Int) (lo hi : Nat) : List Int := (l.drop lo).take (hi - lo)
theorem partF_cons {l : List Int} {lo hi : Nat} {x : Int} (h : l[lo]? = some x) (hl : lo < hi) : partF l lo hi = x :: partF l (lo + 1) hi := by
  have hlt := (List.getElem?_eq_some_iff.1 h).1
  unfold partF
  rw [List.drop_eq_getElem_cons hlt, show hi - lo = (hi - (lo + 1)) + 1 by omega, List.take_succ_cons]
  rw [(List.getElem?_eq_some_iff.1 h).2]
theorem partF_nil {l : List Int} {lo hi : Nat} (h : hi ≤ lo) : partF l lo hi = [] := by unfold partF; rw [show hi - lo = 0 by omega, List.take_zero]
theorem partF_len (l : List Int) (lo hi : Nat) (h : hi ≤ l.length) : (partF l lo hi).length = hi - lo := by simp [partF]; omega
end Go.Proofs.Ytbnjflkafdkcpaa
/- What lies within a span, read. No function of the program. -/
namespace Go.Proofs.Ytbnjflkafdkcpaa
open Go.RowKit

theorem subL_partF (xs : List Int) {lo hi : Nat} : subL xs ((lo : Int), (hi : Int)) = partF xs lo hi := by
  unfold subL partF
  simp only [Int.toNat_natCast]
  rw [List.drop_take]
theorem rd_sub {w : World} {ad : Addr} {n lo hi : Nat} {xs : List Int} (h : Rd w 1 (some ad) n (xs.map (Value.int .i64))) (hlh : lo < hi) (hhn : hi ≤ n) : Rd w 1 (some (ad.add lo)) (hi - lo) ((partF xs lo hi).map (Value.int .i64)) := by
  have hl : xs.length = n := by simpa using h.len1
  refine ⟨by rw [List.length_map, partF_len _ _ _ (by omega)]; omega, fun _ => ?_⟩
  obtain ⟨ad', e, hb, hc⟩ := h.2 (by omega)
  obtain rfl := Option.some.inj e
  refine ⟨_, rfl, by rw [blockAdd]; exact hb, fun j u hu => ?_⟩
  unfold partF at hu
  rw [List.getElem?_map, List.getElem?_take] at hu
  split at hu
  · rw [List.getElem?_drop] at hu
    have := hc (lo + j) u (by rw [List.getElem?_map]; exact hu)
    rwa [addAdd]
  · simp at hu
end Go.Proofs.Ytbnjflkafdkcpaa
/- order's Permutes, Inverse, Apply, walked. -/
namespace Go.Proofs.Ytbnjflkafdkcpaa
open Go.RowKit
/-- Numbers as they are told: so many of a list, then noughts. -/
def apV (s : List Int) (k n : Nat) : List Value := (s.take k).map (Value.int .i64) ++ List.replicate (n - k) (.int .i64 0)
theorem apV_zero (s : List Int) (n : Nat) : apV s 0 n = List.replicate n (.int .i64 0) := by simp [apV]
theorem apV_all {s : List Int} {n : Nat} (h : s.length = n) : apV s n n = s.map (Value.int .i64) := by simp [apV, ← h]
theorem apV_set {s : List Int} {k n : Nat} {a : Int} (h : s[k]? = some a) (hk : k < n) : (apV s k n).set k (.int .i64 a) = apV s (k + 1) n := by
  have hl := (List.getElem?_eq_some_iff.1 h).1
  unfold apV
  rw [List.set_append_right _ _ (by rw [List.length_map, List.length_take]; omega), List.length_map, List.length_take, Nat.min_eq_left (by omega), Nat.sub_self]
  obtain ⟨d, hd⟩ : ∃ d, n - k = d + 1 := ⟨n - k - 1, by omega⟩
  rw [hd, show n - (k + 1) = d by omega, List.replicate_succ, List.set_cons_zero, List.take_add_one, h]
  simp
set_option maxRecDepth 100000 in
set_option maxHeartbeats 2000000 in
theorem orPermutes_any (A : Option Addr) (n c : Nat) (o : List Int) (w : World) (hr : Rd w 1 A n (o.map (Value.int .i64))) (hn : n ≤ 100000) :
    Calls Try.prog 16 #[.slice A n c] w fun e w' => e = .returned (.bool (permB o)) ∧ Below w.heap.size w w' := by
  have hl : o.length = n := by simpa using hr.len1
  have HL := Lib.hid hl
  have HR := Lib.hid hr
  clear hl hr
  go_enter Try.func16, Try.ntmps16
  go_wp2_with (first
    | (refine wpList_mkFull rfl _ _ _ rfl (base := w.heap.size) (e := 4) (bytes := 1) (z := .bool false) Try.underlying23 (by kernel_rfl) rfl (n : Int) (n : Int) n rfl rfl rfl rfl (by omega) (by unfold maxLen; omega) (Nat.le_refl _) ?_; intro w1 hown1 hg1)
    | fail)
  have hgn : w.heap.size < w1.heap.size := (hown1.lt w.heap.size rfl).2
  obtain ⟨g, hg⟩ : ∃ g, w.heap.size = g := ⟨_, rfl⟩
  have HM0 : Hid (w1.ownsRow w.heap.size 4 1 (.slice (some ⟨g, 0, none⟩) n n) n (seenL n (o.take 0))) := Lib.hid (by rw [List.take_zero, ← seen_nil, ← hg]; exact hown1)
  have HB0 := Lib.hid (below_make hg1)
  rw [hg]
  clear hown1 hg1
  go_wp2_with fail
  go_loopw [11] (fun i wr => ∃ k : Nat, k ≤ n ∧ i = .int .i64 (k : Int) ∧ okTo o k ∧ wr.ownsRow w.heap.size 4 1 (.slice (some ⟨g, 0, none⟩) n n) n (seenL n (o.take k)) ∧ Below w.heap.size w wr) (fun i _ => n - (intOf i).toNat)
  case atStart => exact ⟨0, Nat.zero_le _, rfl, ⟨by simp, by simp⟩, HM0.out, HB0.out⟩
  case round =>
    obtain ⟨k, hk, rfl, hok, hO, hb⟩ := hrel
    have HOK := Lib.hid hok
    have HO := Lib.hid hO
    have HB := Lib.hid hb
    clear hok hO hb
    by_cases hlt : k < n
    · obtain ⟨x, hx⟩ : ∃ x, o[k]? = some x := ⟨_, List.getElem?_eq_getElem (by rw [HL.out]; exact hlt)⟩
      obtain ⟨ad, rfl, hab, hcell⟩ := (HR.out.below HB.out).at_ hlt
      have cx : wr.cell? (ad.add k) = some (.int .i64 x) := hcell _ (by rw [List.getElem?_map, hx]; rfl)
      have HX := Lib.hid hx
      have hkn : (k : Int) < (n : Int) := by omega
      have hk0 : (0 : Int) ≤ (k : Int) := by omega
      have hk5 : (k : Int) ≤ 100000 := by omega
      clear hx hcell
      by_cases h0 : x < 0
      · have d1 : decide (x < 0) = true := decide_eq_true h0
        have HN := Lib.hid (permB_no HX.out (.inl h0))
        clear h0
        go_wp2
        go_ret
        exact ⟨by rw [HN.out]; rfl, HB.out⟩
      · have d1 : decide (x < 0) = false := decide_eq_false h0
        by_cases h1 : (n : Int) ≤ x
        · have d2 : decide ((n : Int) ≤ x) = true := decide_eq_true h1
          have HN := Lib.hid (permB_no HX.out (.inr (.inl (by rw [HL.out]; exact h1))))
          clear h0
          go_wp2
          go_ret
          exact ⟨by rw [HN.out]; rfl, HB.out⟩
        · have d2 : decide ((n : Int) ≤ x) = false := decide_eq_false h1
          obtain ⟨y, rfl⟩ : ∃ y : Nat, x = (y : Int) := ⟨x.toNat, by omega⟩
          have hyn : y < n := by omega
          have hyn2 : (y : Int) < (n : Int) := by omega
          have hy0 : (0 : Int) ≤ (y : Int) := by omega
          obtain ⟨b, hb⟩ : ∃ b, decide ((y : Int) ∈ o.take k) = b := ⟨_, rfl⟩
          have cy : wr.cell? ⟨g, y, none⟩ = some (.bool b) := by
            rw [HO.out.cellAt y (by omega), seen_at hyn, hb]
          cases b with
          | true =>
            have HN := Lib.hid (permB_no HX.out (.inr (.inr (of_decide_eq_true hb))))
            clear hb h0 h1
            go_wp2
            go_ret
            exact ⟨by rw [HN.out]; rfl, HB.out⟩
          | false =>
            have HN := Lib.hid (okTo_next HOK.out HX.out (by omega) (by rw [HL.out]; exact hyn2) (of_decide_eq_false hb))
            have HST := Lib.hid (show seenL n (o.take (k + 1)) = (seenL n (o.take k)).set y (.bool true) by rw [seen_set hyn, List.take_add_one, HX.out]; rfl)
            have fy := (own_slot HO.out (j := y) (by omega)).2
            clear hb h0 h1
            go_wp2
            go_roundw
            case rel => exact ⟨k + 1, by omega, by go_num, HN.out, by rw [HST.out]; exact (HO.out.stored y (.bool true)).1, HB.out.setCell (p := ⟨g, y, none⟩) (HO.out.lt g rfl).1 _⟩
            case measure => simp [intOf]; omega
    · obtain rfl : k = n := by omega
      have HT := Lib.hid (permB_yes (by rw [HL.out]; exact HOK.out))
      go_wp2
      go_ret
      exact ⟨by rw [HT.out]; rfl, HB.out⟩
set_option maxRecDepth 100000 in
set_option maxHeartbeats 2000000 in
theorem orInverse_any (A : Option Addr) (n c : Nat) (o : List Int) (w : World) (hr : Rd w 1 A n (o.map (Value.int .i64))) (hn : n ≤ 100000) :
    Calls Try.prog 24 #[.slice A n c] w fun e w' => ∃ v, e = .returned (.tuple #[v, .int .i64 (invE o).2]) ∧ w'.ownsRow w.heap.size 3 1 v (invE o).1.length ((invE o).1.map (Value.int .i64)) ∧ Below w.heap.size w w' := by
  have hl : o.length = n := by simpa using hr.len1
  have HL := Lib.hid hl
  have HR := Lib.hid hr
  have HP := Lib.hid (orPermutes_any A n c o w hr hn)
  clear hl hr
  obtain ⟨b, hb⟩ : ∃ b, permB o = b := ⟨_, rfl⟩
  rw [hb] at HP
  cases b with
  | false =>
    have HE := Lib.hid (show invE o = ([], 13) by unfold invE; rw [if_neg (by rw [hb]; decide)])
    rw [HE.out]
    clear hb HE
    go_enter Try.func24, Try.ntmps24
    go_wp2_with (first
      | (go_at_call 16; refine HP.out.mono ?_; rintro e w1 ⟨rfl, hb1⟩)
      | fail)
    go_ret2
    exact ⟨_, rfl, ⟨rfl, .inl ⟨rfl, rfl⟩⟩, hb1⟩
  | true =>
    have HPB := Lib.hid hb
    have HE := Lib.hid (show invE o = ((invF (natL o)).map fun i => ((i : Nat) : Int), 0) by unfold invE; rw [if_pos hb])
    have HLE := Lib.hid (show ((invF (natL o)).map fun i => ((i : Nat) : Int)).length = n by rw [List.length_map, invF_len, natL_len, HL.out])
    rw [HE.out]
    clear hb HE
    go_enter Try.func24, Try.ntmps24
    go_wp2_with (first
      | (go_at_call 16; refine HP.out.mono ?_; rintro e w0 ⟨rfl, hb0⟩)
      | (refine wpList_mkFull rfl _ _ _ rfl (base := w0.heap.size) (e := 3) (bytes := 8) (z := .int .i64 0) Try.underlying22 (by kernel_rfl) rfl (n : Int) (n : Int) n rfl rfl rfl rfl (by omega) (by unfold maxLen; omega) (Nat.le_refl _) ?_; intro w1 hown1 hg1)
      | fail)
    obtain ⟨g, hg⟩ : ∃ g, w0.heap.size = g := ⟨_, rfl⟩
    have HM0 : Hid (w1.ownsRow w.heap.size 3 1 (.slice (some ⟨g, 0, none⟩) n n) n ((List.replicate n (0 : Int)).map (Value.int .i64))) := Lib.hid (by rw [List.map_replicate, ← hg]; exact own_base hown1 hb0.size)
    have HB0 := Lib.hid (hb0.trans ((below_make hg1).mono hb0.size))
    rw [hg]
    clear hown1 hg1 hb0 hg
    go_wp2_with fail
    go_loopw [15] (fun i wr => ∃ (k : Nat) (zs : List Int), k ≤ n ∧ i = .int .i64 (k : Int) ∧ zs.length = n ∧ (∀ j x : Nat, j < k → (natL o)[j]? = some x → zs[x]? = some (j : Int)) ∧ wr.ownsRow w.heap.size 3 1 (.slice (some ⟨g, 0, none⟩) n n) n (zs.map (Value.int .i64)) ∧ Below w.heap.size w wr) (fun i _ => n - (intOf i).toNat)
    case atStart => exact ⟨0, _, Nat.zero_le _, rfl, List.length_replicate .., fun j x h => by omega, HM0.out, HB0.out⟩
    case round =>
      obtain ⟨k, zs, hk, rfl, hzl, hz, hO, hb⟩ := hrel
      have HZL := Lib.hid hzl
      have HZ := Lib.hid hz
      have HO := Lib.hid hO
      have HB := Lib.hid hb
      clear hzl hz hO hb
      by_cases hlt : k < n
      · obtain ⟨x, hx⟩ : ∃ x, o[k]? = some x := ⟨_, List.getElem?_eq_getElem (by rw [HL.out]; exact hlt)⟩
        obtain ⟨ad, rfl, hab, hcell⟩ := (HR.out.below HB.out).at_ hlt
        have cx : wr.cell? (ad.add k) = some (.int .i64 x) := hcell _ (by rw [List.getElem?_map, hx]; rfl)
        obtain ⟨y, rfl, hyl, hny⟩ := natL_at HPB.out hx
        rw [HL.out] at hyl
        have hkn : (k : Int) < (n : Int) := by omega
        have hk0 : (0 : Int) ≤ (k : Int) := by omega
        have hk5 : (k : Int) ≤ 100000 := by omega
        have hyn : (y : Int) < (n : Int) := by omega
        have hy0 : (0 : Int) ≤ (y : Int) := by omega
        obtain ⟨⟨u, cu⟩, fu⟩ := own_slot HO.out (j := y) (by omega)
        have HN := Lib.hid (show ∀ j x : Nat, j < k + 1 → (natL o)[j]? = some x → (zs.set y (k : Int))[x]? = some (j : Int) by
          intro j x hj hjx
          by_cases hjk : j = k
          · rw [hjk] at hjx ⊢
            rw [hny] at hjx
            obtain rfl := Option.some.inj hjx
            rw [List.getElem?_set_self (by rw [HZL.out]; exact hyl)]
          · have hne : y ≠ x := by
              intro e
              subst e
              have h1 := posF_at (perm_nodup (natL_perm HPB.out)) hjx
              have h2 := posF_at (perm_nodup (natL_perm HPB.out)) hny
              omega
            rw [List.getElem?_set_ne hne]
            exact HZ.out j x (by omega) hjx)
        have HO2 := Lib.hid ((HO.out.stored y (.int .i64 (k : Int))).1)
        have HB2 := Lib.hid (HB.out.setCell (p := ⟨g, y, none⟩) (HO.out.lt g rfl).1 (.int .i64 (k : Int)))
        clear hx hcell hny
        go_wp2
        go_roundw
        case rel => exact ⟨k + 1, zs.set y (k : Int), by omega, by go_num, by rw [List.length_set]; exact HZL.out, HN.out, by rw [List.map_set]; exact HO2.out, HB2.out⟩
        case measure => simp [intOf]; omega
      · obtain rfl : k = n := by omega
        have HT := Lib.hid (inv_end HPB.out (by rw [HZL.out, HL.out]) (fun j x hx => HZ.out j x (by have := (List.getElem?_eq_some_iff.1 hx).1; rw [natL_len, HL.out] at this; exact this) hx))
        rw [HT.out] at HO
        go_wp2
        go_ret2
        exact ⟨_, rfl, by rw [HLE.out]; exact HO.out, HB.out⟩
end Go.Proofs.Ytbnjflkafdkcpaa
/- slices.Clone at []int: a row of the call's own that reads as the argument does. -/
namespace Go.Proofs.Ytbnjflkafdkcpaa
open Go.RowKit

theorem cloneInt_slice : SliceOf Try.prog 22 3 1 8 := .mk_ (z := .int .i64 0) Try.underlying22 (by kernel_rfl) rfl
theorem cloneInt_any (A : Option Addr) (n c : Nat) (xs : List Value) (w : World) (hr : Rd w 1 A n xs) (h1 : ∀ u ∈ xs, u.oneCell' = true) (hm : n ≤ 16777216) :
    Calls Try.prog 19 #[.slice A n c] w fun e w' => ∃ v, e = .returned v ∧ w'.ownsRow w.heap.size 3 1 v n xs ∧ Below w.heap.size w w' := by
  rcases A with _ | ad
  · have h0 : n = 0 := by
      rcases Nat.eq_zero_or_pos n with h | h
      · exact h
      · obtain ⟨_, e, _⟩ := hr.2 h
        cases e
    subst h0
    have hx : xs = [] := List.eq_nil_of_length_eq_zero (by simpa using hr.1)
    subst hx
    have hq := fun w => Lib.run_eql_slice_nil (P := Try.prog) w 22 3 none 0 c 0 0 Try.underlying22
    go_enter Try.func19, Try.ntmps19
    go_wp2
    go_ret
    exact ⟨_, rfl, ⟨rfl, .inl ⟨rfl, rfl⟩⟩, Below.refl _ _⟩
  · have hq := fun w => Lib.run_eql_slice_nil (P := Try.prog) w 22 3 (some ad) n c 0 0 Try.underlying22
    have hown : (w.alloc (.cells #[] 3)).ownsRow w.heap.size 3 1 (.slice (some ⟨w.heap.size, 0, none⟩) 0 0) 0 [] := World.ownsRow_made w #[] 0 (Nat.le_refl _) (Nat.zero_le _) rfl
    go_enter Try.func19, Try.ntmps19
    go_wp2_with (at_builtin; refine wpList_app rfl _ _ _ rfl cloneInt_slice (by decide) _ 0 [] rfl hown ad n c xs rfl (by have := hr.1; omega) (hr.alloc _).news h1 (by omega) (by unfold maxLen; omega) (by simp) ?_; intro v1 w1 hown1 hg1 hat1)
    go_ret
    exact ⟨v1, rfl, by simpa using hown1, below_app ((Below.refl _ _).alloc (Nat.le_refl _) _) hg1 hown (by simp)⟩
end Go.Proofs.Ytbnjflkafdkcpaa
