/- A stack of levels in memory: the block's cells, what a store leaves. No function of the program. -/
import Derived.Test.YtflbiblkphaagaaStkD
import Derived.Test.YtflbiblkphaagaaKpt
import Derived.Test.YtflbiblkphaagaaHp
namespace Go.Proofs.Ytflbiblkphaagaa
open Go.RowKit

def entV (e : Ent) : Value := .agg #[.int .i64 e.lv, .int .i64 e.ov, .bool e.is]
namespace Stk
theorem all_at {s : Stk} {k : Nat} {e : Ent} (h : s.all[k]? = some e) : k < s.len := by
  have := (List.getElem?_eq_some_iff.1 h).1
  simp [Stk.all] at this
  unfold Stk.len
  omega
theorem all_top (s : Stk) : s.all[s.R.length]? = some s.top := by
  unfold Stk.all Stk.top
  cases h : s.R with
  | nil => simp
  | cons e R => simp
end Stk
/-- The cells of a stack. -/
structure CsOf (cs : Array Value) (s : Stk) : Prop where
  sz : cs.size = 382
  a : cs[0]? = some (.int .i64 (s.a : Int))
  b : cs[1]? = some (.int .i64 (s.b : Int))
  c : cs[2]? = some (.int .i64 (s.c : Int))
  n : cs[381]? = some (.int .i64 ((s.R.length : Int) + 1))
  e : ∀ k e, s.all[k]? = some e → cs[3 + k * 3]? = some (.int .i64 e.lv) ∧ cs[3 + k * 3 + 1]? = some (.int .i64 e.ov) ∧ cs[3 + k * 3 + 2]? = some (.bool e.is)
section
variable {cs : Array Value} {s : Stk}
theorem aset_ne {i j : Nat} {v : Value} (h : i ≠ j) : (cs.setIfInBounds i v)[j]? = cs[j]? := by rw [Array.getElem?_setIfInBounds, if_neg h]
theorem aset_eq {i : Nat} {v : Value} (h : i < cs.size) : (cs.setIfInBounds i v)[i]? = some v := by rw [Array.getElem?_setIfInBounds, if_pos rfl, if_pos h]
theorem CsOf.setA (h : CsOf cs s) (x : Nat) : CsOf (cs.setIfInBounds 0 (.int .i64 (x : Int))) { s with a := x } :=
  ⟨by simp [h.sz], aset_eq (by rw [h.sz]; omega), by rw [aset_ne (by omega)]; exact h.b, by rw [aset_ne (by omega)]; exact h.c, by rw [aset_ne (by omega)]; exact h.n, fun k e he => by
    rw [aset_ne (by omega), aset_ne (by omega), aset_ne (by omega)]; exact h.e k e he⟩
theorem CsOf.setB (h : CsOf cs s) (x : Nat) : CsOf (cs.setIfInBounds 1 (.int .i64 (x : Int))) { s with b := x } :=
  ⟨by simp [h.sz], by rw [aset_ne (by omega)]; exact h.a, aset_eq (by rw [h.sz]; omega), by rw [aset_ne (by omega)]; exact h.c, by rw [aset_ne (by omega)]; exact h.n, fun k e he => by
    rw [aset_ne (by omega), aset_ne (by omega), aset_ne (by omega)]; exact h.e k e he⟩
theorem CsOf.setC (h : CsOf cs s) (x : Nat) : CsOf (cs.setIfInBounds 2 (.int .i64 (x : Int))) { s with c := x } :=
  ⟨by simp [h.sz], by rw [aset_ne (by omega)]; exact h.a, by rw [aset_ne (by omega)]; exact h.b, aset_eq (by rw [h.sz]; omega), by rw [aset_ne (by omega)]; exact h.n, fun k e he => by
    rw [aset_ne (by omega), aset_ne (by omega), aset_ne (by omega)]; exact h.e k e he⟩
theorem CsOf.pop (h : CsOf cs s) (hr : s.len ≤ 126) {x : Ent} {R : List Ent} (hR : s.R = x :: R) : CsOf (cs.setIfInBounds 381 (.int .i64 ((R.length : Int) + 1))) { s with R := R } :=
  ⟨by simp [h.sz], by rw [aset_ne (by omega)]; exact h.a, by rw [aset_ne (by omega)]; exact h.b, by rw [aset_ne (by omega)]; exact h.c, aset_eq (by rw [h.sz]; omega), fun k e he => by
    have hk := Stk.all_at he
    simp only [Stk.len] at hk hr
    rw [hR, List.length_cons] at hr
    rw [aset_ne (by omega), aset_ne (by omega), aset_ne (by omega)]
    refine h.e k e ?_
    unfold Stk.all at he ⊢
    rw [hR, List.reverse_cons, ← List.cons_append, List.getElem?_append_left (by simp; omega)]
    exact he⟩
theorem CsOf.put (h : CsOf cs s) (hr : s.len ≤ 125) (x : Ent) : CsOf ((((cs.setIfInBounds (3 + (s.R.length + 1) * 3) (.int .i64 x.lv)).setIfInBounds (3 + (s.R.length + 1) * 3 + 1) (.int .i64 x.ov)).setIfInBounds (3 + (s.R.length + 1) * 3 + 2) (.bool x.is)).setIfInBounds 381 (.int .i64 ((s.R.length : Int) + 1 + 1))) { s with R := x :: s.R } := by
  unfold Stk.len at hr
  refine ⟨by simp [h.sz], ?_, ?_, ?_, ?_, fun k e he => ?_⟩
  · rw [aset_ne (by omega), aset_ne (by omega), aset_ne (by omega), aset_ne (by omega)]; exact h.a
  · rw [aset_ne (by omega), aset_ne (by omega), aset_ne (by omega), aset_ne (by omega)]; exact h.b
  · rw [aset_ne (by omega), aset_ne (by omega), aset_ne (by omega), aset_ne (by omega)]; exact h.c
  · rw [aset_eq (by simp [h.sz])]; simp
  · have hk := Stk.all_at he
    simp only [Stk.len, List.length_cons] at hk
    have hs := h.sz
    by_cases hlt : k < s.R.length + 1
    · have he' : s.all[k]? = some e := by
        unfold Stk.all at he ⊢
        rw [List.reverse_cons, ← List.cons_append, List.getElem?_append_left (by simp; omega)] at he
        exact he
      have := h.e k e he'
      rw [aset_ne (by omega), aset_ne (by omega), aset_ne (by omega), aset_ne (by omega), aset_ne (by omega), aset_ne (by omega), aset_ne (by omega), aset_ne (by omega), aset_ne (by omega), aset_ne (by omega), aset_ne (by omega), aset_ne (by omega)]
      exact this
    · obtain rfl : k = s.R.length + 1 := by omega
      have hx : e = x := by
        unfold Stk.all at he
        rw [List.reverse_cons, ← List.cons_append, List.getElem?_append_right (by simp)] at he
        simpa using he.symm
      subst hx
      refine ⟨?_, ?_, ?_⟩
      · rw [aset_ne (by omega), aset_ne (by omega), aset_ne (by omega)]; exact aset_eq (by omega)
      · rw [aset_ne (by omega), aset_ne (by omega)]; exact aset_eq (by simp; omega)
      · rw [aset_ne (by omega)]; exact aset_eq (by simp; omega)
end
/-- A stack in block b. -/
structure StkAt (w : World) (b : Nat) (s : Stk) : Prop where
  hp : ∃ cs : Array Value, w.heap[b]? = some (.cells cs 52 (0, 0)) ∧ CsOf cs s
  ris : Rises s
section
variable {w w' : World} {b : Nat} {s : Stk}
theorem StkAt.lt (h : StkAt w b s) : b < w.heap.size := by obtain ⟨cs, h1, _⟩ := h.hp; exact hp_lt h1
theorem StkAt.keep {S : List Nat} (h : StkAt w b s) (hk : Kept w w' S) (hb : b ∉ S) : StkAt w' b s := by
  obtain ⟨cs, h1, h2⟩ := h.hp
  exact ⟨⟨cs, hk.heap h1 hb, h2⟩, h.ris⟩
theorem StkAt.low (h : StkAt w b s) (hb : Below w.heap.size w w') : StkAt w' b s := h.keep (Kept.of_below hb []) (by simp)
theorem StkAt.froz (h : StkAt w b s) (j : Nat) : w.frozen? ⟨b, j, none⟩ = false := by obtain ⟨cs, h1, _⟩ := h.hp; exact hp_froz h1 j
theorem StkAt.ca (h : StkAt w b s) : w.cell? ⟨b, 0, none⟩ = some (.int .i64 (s.a : Int)) := by obtain ⟨cs, h1, h2⟩ := h.hp; exact hp_cell h1 h2.a
theorem StkAt.cb (h : StkAt w b s) : w.cell? ⟨b, 1, none⟩ = some (.int .i64 (s.b : Int)) := by obtain ⟨cs, h1, h2⟩ := h.hp; exact hp_cell h1 h2.b
theorem StkAt.cc (h : StkAt w b s) : w.cell? ⟨b, 2, none⟩ = some (.int .i64 (s.c : Int)) := by obtain ⟨cs, h1, h2⟩ := h.hp; exact hp_cell h1 h2.c
theorem StkAt.cn (h : StkAt w b s) : w.cell? ⟨b, 381, none⟩ = some (.int .i64 ((s.R.length : Int) + 1)) := by obtain ⟨cs, h1, h2⟩ := h.hp; exact hp_cell h1 h2.n
theorem StkAt.ct (h : StkAt w b s) : w.cell? ⟨b, 3 + s.R.length * 3, none⟩ = some (.int .i64 s.top.lv) ∧ w.cell? ⟨b, 3 + s.R.length * 3 + 1, none⟩ = some (.int .i64 s.top.ov) ∧ w.cell? ⟨b, 3 + s.R.length * 3 + 2, none⟩ = some (.bool s.top.is) := by
  obtain ⟨cs, h1, h2⟩ := h.hp
  have := h2.e _ _ s.all_top
  exact ⟨hp_cell h1 this.1, hp_cell h1 this.2.1, hp_cell h1 this.2.2⟩
/-- The cells of the next entry are there. -/
theorem StkAt.room (h : StkAt w b s) {j : Nat} (hj : j < 382) : ∃ u, w.cell? ⟨b, j, none⟩ = some u := by
  obtain ⟨cs, h1, h2⟩ := h.hp
  exact ⟨_, hp_cell h1 (Array.getElem?_eq_getElem (by rw [h2.sz]; exact hj))⟩
theorem StkAt.setA (h : StkAt w b s) (x : Nat) : StkAt (w.setCell ⟨b, 0, none⟩ (.int .i64 (x : Int))) b { s with a := x } := by
  obtain ⟨cs, h1, h2⟩ := h.hp
  exact ⟨⟨_, heap_setCell_same w b 0 _ _ _ h1, h2.setA x⟩, h.ris⟩
theorem StkAt.setB (h : StkAt w b s) (x : Nat) : StkAt (w.setCell ⟨b, 1, none⟩ (.int .i64 (x : Int))) b { s with b := x } := by
  obtain ⟨cs, h1, h2⟩ := h.hp
  exact ⟨⟨_, heap_setCell_same w b 1 _ _ _ h1, h2.setB x⟩, h.ris⟩
theorem StkAt.setC (h : StkAt w b s) (x : Nat) : StkAt (w.setCell ⟨b, 2, none⟩ (.int .i64 (x : Int))) b { s with c := x } := by
  obtain ⟨cs, h1, h2⟩ := h.hp
  exact ⟨⟨_, heap_setCell_same w b 2 _ _ _ h1, h2.setC x⟩, h.ris⟩
theorem StkAt.pop (h : StkAt w b s) {x : Ent} {R : List Ent} (hR : s.R = x :: R) : StkAt (w.setCell ⟨b, 381, none⟩ (.int .i64 ((R.length : Int) + 1))) b { s with R := R } := by
  obtain ⟨cs, h1, h2⟩ := h.hp
  refine ⟨⟨_, heap_setCell_same w b 381 _ _ _ h1, h2.pop h.ris.len hR⟩, ?_⟩
  have := (near_pop h.ris).2.1
  unfold popS at this
  rw [if_neg (by rw [hR]; simp), hR] at this
  exact this
theorem StkAt.put (h : StkAt w b s) {x : Ent} (hx : s.top.lv < x.lv) (hx2 : x.lv ≤ 125)   : StkAt ((((w.setCell ⟨b, 3 + (s.R.length + 1) * 3, none⟩ (.int .i64 x.lv)).setCell ⟨b, 3 + (s.R.length + 1) * 3 + 1, none⟩ (.int .i64 x.ov)).setCell ⟨b, 3 + (s.R.length + 1) * 3 + 2, none⟩ (.bool x.is)).setCell ⟨b, 381, none⟩ (.int .i64 ((s.R.length : Int) + 1 + 1))) b { s with R := x :: s.R } := by
  obtain ⟨cs, h1, h2⟩ := h.hp
  have hr := h.ris.put hx hx2 (a := s.a) (b := s.b) (c := s.c)
  have hl := hr.len
  simp only [Stk.len, List.length_cons] at hl
  have g1 := heap_setCell_same w b (3 + (s.R.length + 1) * 3) _ _ (.int .i64 x.lv) h1
  have g2 := heap_setCell_same _ b (3 + (s.R.length + 1) * 3 + 1) _ _ (.int .i64 x.ov) g1
  have g3 := heap_setCell_same _ b (3 + (s.R.length + 1) * 3 + 2) _ _ (.bool x.is) g2
  have g4 := heap_setCell_same _ b 381 _ _ (.int .i64 ((s.R.length : Int) + 1 + 1)) g3
  exact ⟨⟨_, g4, h2.put (by unfold Stk.len; omega) x⟩, hr⟩
theorem StkAt.drew (h : StkAt w b s) : StkAt w.drew b s := ⟨h.hp, h.ris⟩
theorem StkAt.fits (h : StkAt w b s) : 0 ≤ s.top.lv ∧ s.top.lv ≤ 125 ∧ s.R.length < 126 := by
  have h1 := h.ris.top
  have h2 := h.ris.len
  have h3 := h.ris.2.2
  unfold Stk.len at h2
  omega
end
end Go.Proofs.Ytflbiblkphaagaa
