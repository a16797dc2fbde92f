/- Texts of one claim, one behind the other. -/
import Derived.Laws.ResultCell
import Derived.Laws.MakeOwn
import Derived.Test.YtnmpoipakmjbpaaMgSq1
import Derived.Test.YtnmpoipakmjbpaaMgSq2
/- A stack of levels in memory: the block's cells, what a store leaves. No function of the program. -/
namespace Go.Proofs.Ytnmpoipakmjbpaa
open Go.RowKit

def entV (e : Ent) : Value := .agg #[.int .i64 e.lv, .int .i64 e.ov, .bool e.is]
namespace Stk
theorem all_at {s : Stk} {k : Nat} {e : Ent} (h : s.all[k]? = some e) : k < s.len := by
  have := (List.getElem?_eq_some_iff.1 h).1
  simp [Stk.all] at this
  unfold Stk.len
  omega
theorem all_top (s : Stk) : s.all[s.R.length]? = some s.top := by
  unfold Stk.all Stk.top
  cases h : s.R with
  | nil => simp
  | cons e R => simp
end Stk
/-- The cells of a stack. -/
structure CsOf (cs : Array Value) (s : Stk) : Prop where
  sz : cs.size = 382
  a : cs[0]? = some (.int .i64 (s.a : Int))
  b : cs[1]? = some (.int .i64 (s.b : Int))
  c : cs[2]? = some (.int .i64 (s.c : Int))
  n : cs[381]? = some (.int .i64 ((s.R.length : Int) + 1))
  e : ∀ k e, s.all[k]? = some e → cs[3 + k * 3]? = some (.int .i64 e.lv) ∧ cs[3 + k * 3 + 1]? = some (.int .i64 e.ov) ∧ cs[3 + k * 3 + 2]? = some (.bool e.is)
section
variable {cs : Array Value} {s : Stk}
theorem aset_ne {i j : Nat} {v : Value} (h : i ≠ j) : (cs.setIfInBounds i v)[j]? = cs[j]? := by rw [Array.getElem?_setIfInBounds, if_neg h]
theorem aset_eq {i : Nat} {v : Value} (h : i < cs.size) : (cs.setIfInBounds i v)[i]? = some v := by rw [Array.getElem?_setIfInBounds, if_pos rfl, if_pos h]
theorem CsOf.setA (h : CsOf cs s) (x : Nat) : CsOf (cs.setIfInBounds 0 (.int .i64 (x : Int))) { s with a := x } :=
  ⟨by simp [h.sz], aset_eq (by rw [h.sz]; omega), by rw [aset_ne (by omega)]; exact h.b, by rw [aset_ne (by omega)]; exact h.c, by rw [aset_ne (by omega)]; exact h.n, fun k e he => by
    rw [aset_ne (by omega), aset_ne (by omega), aset_ne (by omega)]; exact h.e k e he⟩
theorem CsOf.setB (h : CsOf cs s) (x : Nat) : CsOf (cs.setIfInBounds 1 (.int .i64 (x : Int))) { s with b := x } :=
  ⟨by simp [h.sz], by rw [aset_ne (by omega)]; exact h.a, aset_eq (by rw [h.sz]; omega), by rw [aset_ne (by omega)]; exact h.c, by rw [aset_ne (by omega)]; exact h.n, fun k e he => by
    rw [aset_ne (by omega), aset_ne (by omega), aset_ne (by omega)]; exact h.e k e he⟩
theorem CsOf.setC (h : CsOf cs s) (x : Nat) : CsOf (cs.setIfInBounds 2 (.int .i64 (x : Int))) { s with c := x } :=
  ⟨by simp [h.sz], by rw [aset_ne (by omega)]; exact h.a, by rw [aset_ne (by omega)]; exact h.b, aset_eq (by rw [h.sz]; omega), by rw [aset_ne (by omega)]; exact h.n, fun k e he => by
    rw [aset_ne (by omega), aset_ne (by omega), aset_ne (by omega)]; exact h.e k e he⟩
theorem CsOf.pop (h : CsOf cs s) (hr : s.len ≤ 126) {x : Ent} {R : List Ent} (hR : s.R = x :: R) : CsOf (cs.setIfInBounds 381 (.int .i64 ((R.length : Int) + 1))) { s with R := R } :=
  ⟨by simp [h.sz], by rw [aset_ne (by omega)]; exact h.a, by rw [aset_ne (by omega)]; exact h.b, by rw [aset_ne (by omega)]; exact h.c, aset_eq (by rw [h.sz]; omega), fun k e he => by
    have hk := Stk.all_at he
    simp only [Stk.len] at hk hr
    rw [hR, List.length_cons] at hr
    rw [aset_ne (by omega), aset_ne (by omega), aset_ne (by omega)]
    refine h.e k e ?_
    unfold Stk.all at he ⊢
    rw [hR, List.reverse_cons, ← List.cons_append, List.getElem?_append_left (by simp; omega)]
    exact he⟩
theorem CsOf.put (h : CsOf cs s) (hr : s.len ≤ 125) (x : Ent) : CsOf ((((cs.setIfInBounds (3 + (s.R.length + 1) * 3) (.int .i64 x.lv)).setIfInBounds (3 + (s.R.length + 1) * 3 + 1) (.int .i64 x.ov)).setIfInBounds (3 + (s.R.length + 1) * 3 + 2) (.bool x.is)).setIfInBounds 381 (.int .i64 ((s.R.length : Int) + 1 + 1))) { s with R := x :: s.R } := by
  unfold Stk.len at hr
  refine ⟨by simp [h.sz], ?_, ?_, ?_, ?_, fun k e he => ?_⟩
  · rw [aset_ne (by omega), aset_ne (by omega), aset_ne (by omega), aset_ne (by omega)]; exact h.a
  · rw [aset_ne (by omega), aset_ne (by omega), aset_ne (by omega), aset_ne (by omega)]; exact h.b
  · rw [aset_ne (by omega), aset_ne (by omega), aset_ne (by omega), aset_ne (by omega)]; exact h.c
  · rw [aset_eq (by simp [h.sz])]; simp
  · have hk := Stk.all_at he
    simp only [Stk.len, List.length_cons] at hk
    have hs := h.sz
    by_cases hlt : k < s.R.length + 1
    · have he' : s.all[k]? = some e := by
        unfold Stk.all at he ⊢
        rw [List.reverse_cons, ← List.cons_append, List.getElem?_append_left (by simp; omega)] at he
        exact he
      have := h.e k e he'
      rw [aset_ne (by omega), aset_ne (by omega), aset_ne (by omega), aset_ne (by omega), aset_ne (by omega), aset_ne (by omega), aset_ne (by omega), aset_ne (by omega), aset_ne (by omega), aset_ne (by omega), aset_ne (by omega), aset_ne (by omega)]
      exact this
    · obtain rfl : k = s.R.length + 1 := by omega
      have hx : e = x := by
        unfold Stk.all at he
        rw [List.reverse_cons, ← List.cons_append, List.getElem?_append_right (by simp)] at he
        simpa using he.symm
      subst hx
      refine ⟨?_, ?_, ?_⟩
      · rw [aset_ne (by omega), aset_ne (by omega), aset_ne (by omega)]; exact aset_eq (by omega)
      · rw [aset_ne (by omega), aset_ne (by omega)]; exact aset_eq (by simp; omega)
      · rw [aset_ne (by omega)]; exact aset_eq (by simp; omega)
end
/-- A stack in block b. -/
structure StkAt (w : World) (b : Nat) (s : Stk) : Prop where
  hp : ∃ cs : Array Value, w.heap[b]? = some (.cells cs 92 (0, 0)) ∧ CsOf cs s
  ris : Rises s
section
variable {w w' : World} {b : Nat} {s : Stk}
theorem StkAt.lt (h : StkAt w b s) : b < w.heap.size := by obtain ⟨cs, h1, _⟩ := h.hp; exact hp_lt h1
theorem StkAt.keep {S : List Nat} (h : StkAt w b s) (hk : Kept w w' S) (hb : b ∉ S) : StkAt w' b s := by
  obtain ⟨cs, h1, h2⟩ := h.hp
  exact ⟨⟨cs, hk.heap h1 hb, h2⟩, h.ris⟩
theorem StkAt.low (h : StkAt w b s) (hb : Below w.heap.size w w') : StkAt w' b s := h.keep (Kept.of_below hb []) (by simp)
theorem StkAt.froz (h : StkAt w b s) (j : Nat) : w.frozen? ⟨b, j, none⟩ = false := by obtain ⟨cs, h1, _⟩ := h.hp; exact hp_froz h1 j
theorem StkAt.ca (h : StkAt w b s) : w.cell? ⟨b, 0, none⟩ = some (.int .i64 (s.a : Int)) := by obtain ⟨cs, h1, h2⟩ := h.hp; exact hp_cell h1 h2.a
theorem StkAt.cb (h : StkAt w b s) : w.cell? ⟨b, 1, none⟩ = some (.int .i64 (s.b : Int)) := by obtain ⟨cs, h1, h2⟩ := h.hp; exact hp_cell h1 h2.b
theorem StkAt.cc (h : StkAt w b s) : w.cell? ⟨b, 2, none⟩ = some (.int .i64 (s.c : Int)) := by obtain ⟨cs, h1, h2⟩ := h.hp; exact hp_cell h1 h2.c
theorem StkAt.cn (h : StkAt w b s) : w.cell? ⟨b, 381, none⟩ = some (.int .i64 ((s.R.length : Int) + 1)) := by obtain ⟨cs, h1, h2⟩ := h.hp; exact hp_cell h1 h2.n
theorem StkAt.ct (h : StkAt w b s) : w.cell? ⟨b, 3 + s.R.length * 3, none⟩ = some (.int .i64 s.top.lv) ∧ w.cell? ⟨b, 3 + s.R.length * 3 + 1, none⟩ = some (.int .i64 s.top.ov) ∧ w.cell? ⟨b, 3 + s.R.length * 3 + 2, none⟩ = some (.bool s.top.is) := by
  obtain ⟨cs, h1, h2⟩ := h.hp
  have := h2.e _ _ s.all_top
  exact ⟨hp_cell h1 this.1, hp_cell h1 this.2.1, hp_cell h1 this.2.2⟩
/-- The cells of the next entry are there. -/
theorem StkAt.room (h : StkAt w b s) {j : Nat} (hj : j < 382) : ∃ u, w.cell? ⟨b, j, none⟩ = some u := by
  obtain ⟨cs, h1, h2⟩ := h.hp
  exact ⟨_, hp_cell h1 (Array.getElem?_eq_getElem (by rw [h2.sz]; exact hj))⟩
theorem StkAt.setA (h : StkAt w b s) (x : Nat) : StkAt (w.setCell ⟨b, 0, none⟩ (.int .i64 (x : Int))) b { s with a := x } := by
  obtain ⟨cs, h1, h2⟩ := h.hp
  exact ⟨⟨_, heap_setCell_same w b 0 _ _ _ h1, h2.setA x⟩, h.ris⟩
theorem StkAt.setB (h : StkAt w b s) (x : Nat) : StkAt (w.setCell ⟨b, 1, none⟩ (.int .i64 (x : Int))) b { s with b := x } := by
  obtain ⟨cs, h1, h2⟩ := h.hp
  exact ⟨⟨_, heap_setCell_same w b 1 _ _ _ h1, h2.setB x⟩, h.ris⟩
theorem StkAt.setC (h : StkAt w b s) (x : Nat) : StkAt (w.setCell ⟨b, 2, none⟩ (.int .i64 (x : Int))) b { s with c := x } := by
  obtain ⟨cs, h1, h2⟩ := h.hp
  exact ⟨⟨_, heap_setCell_same w b 2 _ _ _ h1, h2.setC x⟩, h.ris⟩
theorem StkAt.pop (h : StkAt w b s) {x : Ent} {R : List Ent} (hR : s.R = x :: R) : StkAt (w.setCell ⟨b, 381, none⟩ (.int .i64 ((R.length : Int) + 1))) b { s with R := R } := by
  obtain ⟨cs, h1, h2⟩ := h.hp
  refine ⟨⟨_, heap_setCell_same w b 381 _ _ _ h1, h2.pop h.ris.len hR⟩, ?_⟩
  have := (near_pop h.ris).2.1
  unfold popS at this
  rw [if_neg (by rw [hR]; simp), hR] at this
  exact this
theorem StkAt.put (h : StkAt w b s) {x : Ent} (hx : s.top.lv < x.lv) (hx2 : x.lv ≤ 125)   : StkAt ((((w.setCell ⟨b, 3 + (s.R.length + 1) * 3, none⟩ (.int .i64 x.lv)).setCell ⟨b, 3 + (s.R.length + 1) * 3 + 1, none⟩ (.int .i64 x.ov)).setCell ⟨b, 3 + (s.R.length + 1) * 3 + 2, none⟩ (.bool x.is)).setCell ⟨b, 381, none⟩ (.int .i64 ((s.R.length : Int) + 1 + 1))) b { s with R := x :: s.R } := by
  obtain ⟨cs, h1, h2⟩ := h.hp
  have hr := h.ris.put hx hx2 (a := s.a) (b := s.b) (c := s.c)
  have hl := hr.len
  simp only [Stk.len, List.length_cons] at hl
  have g1 := heap_setCell_same w b (3 + (s.R.length + 1) * 3) _ _ (.int .i64 x.lv) h1
  have g2 := heap_setCell_same _ b (3 + (s.R.length + 1) * 3 + 1) _ _ (.int .i64 x.ov) g1
  have g3 := heap_setCell_same _ b (3 + (s.R.length + 1) * 3 + 2) _ _ (.bool x.is) g2
  have g4 := heap_setCell_same _ b 381 _ _ (.int .i64 ((s.R.length : Int) + 1 + 1)) g3
  exact ⟨⟨_, g4, h2.put (by unfold Stk.len; omega) x⟩, hr⟩
theorem StkAt.drew (h : StkAt w b s) : StkAt w.drew b s := ⟨h.hp, h.ris⟩
theorem StkAt.fits (h : StkAt w b s) : 0 ≤ s.top.lv ∧ s.top.lv ≤ 125 ∧ s.R.length < 126 := by
  have h1 := h.ris.top
  have h2 := h.ris.len
  have h3 := h.ris.2.2
  unfold Stk.len at h2
  omega
end
end Go.Proofs.Ytnmpoipakmjbpaa
/- stack's made, Top, Len, Next, fit, Over, walked. -/
namespace Go.Proofs.Ytnmpoipakmjbpaa
open Go.RowKit

set_option maxRecDepth 100000 in
theorem stkMade_any (b : Nat) (s : Stk) (w : World) (h : StkAt w b s) : Calls Try.prog 76 #[.pointer (some ⟨b, 0, none⟩)] w fun e w' => e = .returned (.bool true) ∧ w = w' := by
  have cn := h.cn
  have hb := h.fits
  clear h
  go_enter Try.func76, Try.ntmps76
  go_wp2
  go_ret
  exact ⟨by simp, rfl⟩
set_option maxRecDepth 100000 in
theorem stkFit_any (b : Nat) (s : Stk) (w : World) (h : StkAt w b s) : Calls Try.prog 85 #[.pointer (some ⟨b, 0, none⟩)] w fun e w' => e = .returned (.bool (decide (s.a = 0) && decide (s.b = 0))) ∧ w = w' := by
  have ca := h.ca
  have cb := h.cb
  clear h
  by_cases ha : s.a = 0
  · have ha' : (s.a : Int) = 0 := by omega
    rw [ha'] at ca
    go_enter Try.func85, Try.ntmps85
    go_wp2
    go_ret
    exact ⟨by simp [ha]; rw [Bool.eq_iff_iff]; simp, rfl⟩
  · have ha' : ((s.a : Int) == 0) = false := by simp; omega
    have ha2 : ¬ (s.a : Int) = 0 := by omega
    go_enter Try.func85, Try.ntmps85
    go_wp2
    go_ret
    exact ⟨by simp [ha], rfl⟩
set_option maxRecDepth 100000 in
theorem stkLen_any (b : Nat) (s : Stk) (w : World) (h : StkAt w b s) : Calls Try.prog 89 #[.pointer (some ⟨b, 0, none⟩)] w fun e w' => e = .returned (.int .i64 ((s.R.length : Int) + 1)) ∧ w = w' := by
  have cn := h.cn
  have HM := Lib.hid (stkMade_any b s w h)
  clear h
  go_enter Try.func89, Try.ntmps89
  go_wp2_with fail
  refine HM.out.mono ?_
  rintro e w1 ⟨rfl, rfl⟩
  go_wp2
  go_ret
  exact ⟨rfl, rfl⟩
set_option maxRecDepth 100000 in
theorem stkTop_any (b : Nat) (s : Stk) (w : World) (h : StkAt w b s) : Calls Try.prog 62 #[.pointer (some ⟨b, 0, none⟩)] w fun e w' => e = .returned (entV s.top) ∧ Below w.heap.size w w' := by
  have hbl := below_new w (.cells #[.int .i64 0, .int .i64 0, .bool false] 89)
  have h1 := h.low hbl
  have HB := Lib.hid hbl
  have HM := Lib.hid (stkMade_any b s _ h1)
  have cn := h1.cn
  have ct := h1.ct
  obtain ⟨ct0, ct1, ct2⟩ := ct
  have hf := h.fits
  have hr : (s.R.length : Int) < 126 := by omega
  have hb := h.lt
  obtain ⟨r, hr⟩ : ∃ r, s.R.length = r := ⟨_, rfl⟩
  rw [hr] at *
  clear h h1 hbl
  go_enter Try.func62, Try.ntmps62
  go_wp2_with fail
  refine HM.out.mono ?_
  rintro e w1 ⟨rfl, rfl⟩
  go_wp2
  go_region
  all_goals go_wp2
  all_goals refine bodyPost_ret (v := .agg #[.int .i64 s.top.lv, .int .i64 s.top.ov, .bool s.top.is]) (results_cell_row rfl _ _ w.heap.size 89 #[.int .i64 s.top.lv, .int .i64 s.top.ov, .bool s.top.is] (0, 0) _ rfl (heap_alloc_new w _) Try.underlying89 rfl (by kernel_rfl)) rfl ?_
  all_goals exact ⟨rfl, below_drew (below_new w _) 1⟩
theorem ent_lv (x y : Int) (z : Bool) (w : World) : (Instr.field 89 (.agg #[.int .i64 x, .int .i64 y, .bool z]) 0).run Try.prog w = .ok (.int .i64 x) w := by kernel_rfl
theorem ent_ov (x y : Int) (z : Bool) (w : World) : (Instr.field 89 (.agg #[.int .i64 x, .int .i64 y, .bool z]) 1).run Try.prog w = .ok (.int .i64 y) w := by kernel_rfl
theorem ent_is (x y : Int) (z : Bool) (w : World) : (Instr.field 89 (.agg #[.int .i64 x, .int .i64 y, .bool z]) 2).run Try.prog w = .ok (.bool z) w := by kernel_rfl
/-- The next level, as the program reckons it. -/
theorem bits_next : ∀ n : Fin 131, bits .or .i64 ((n.val : Int) + 1) 1 = nextN (n.val : Int) true ∧ bits .andNot .i64 ((n.val : Int) + 2) 1 = nextN (n.val : Int) false := by decide +kernel
theorem bits_nextN {x : Int} (h0 : 0 ≤ x) (h1 : x ≤ 125) : bits .or .i64 (x + 1) 1 = nextN x true ∧ bits .andNot .i64 (x + 2) 1 = nextN x false := by
  have := bits_next ⟨x.toNat, by omega⟩
  simp only [Int.toNat_of_nonneg h0] at this
  exact this
set_option maxRecDepth 100000 in
theorem stkNext_any (b : Nat) (s : Stk) (r : Bool) (w : World) (h : StkAt w b s) : Calls Try.prog 79 #[.pointer (some ⟨b, 0, none⟩), .bool r] w fun e w' => e = .returned (.int .i64 (nextS s r)) ∧ Below w.heap.size w w' := by
  have HT := Lib.hid (stkTop_any b s w h)
  obtain ⟨h0, h1, _⟩ := h.fits
  have HN := Lib.hid (bits_nextN h0 h1)
  have fd := ent_lv s.top.lv s.top.ov s.top.is
  clear h
  unfold nextS
  cases r
  · go_enter Try.func79, Try.ntmps79
    go_wp2_with fail
    refine HT.out.mono ?_
    rintro e w1 ⟨rfl, hb⟩
    unfold entV
    go_wp2
    rw [HN.out.2]
    go_ret
    exact ⟨rfl, hb⟩
  · go_enter Try.func79, Try.ntmps79
    go_wp2_with fail
    refine HT.out.mono ?_
    rintro e w1 ⟨rfl, hb⟩
    unfold entV
    go_wp2
    rw [HN.out.1]
    go_ret
    exact ⟨rfl, hb⟩
set_option maxRecDepth 100000 in
theorem stkOver_any (b : Nat) (s : Stk) (w : World) (h : StkAt w b s) : Calls Try.prog 87 #[.pointer (some ⟨b, 0, none⟩)] w fun e w' => e = .returned (.tuple #[.int .i64 (s.a : Int), .int .i64 (s.b : Int), .int .i64 (s.c : Int)]) ∧ Below w.heap.size w w' := by
  have HM := Lib.hid (stkMade_any b s w h)
  have ca := h.ca
  have cb := h.cb
  have cc := h.cc
  clear h
  go_enter Try.func87, Try.ntmps87
  go_wp2_with fail
  refine HM.out.mono ?_
  rintro e w1 ⟨rfl, rfl⟩
  go_wp2
  go_region
  all_goals go_wp2
  all_goals refine bodyPost_ret (v := .tuple #[.int .i64 (s.a : Int), .int .i64 (s.b : Int), .int .i64 (s.c : Int)]) (by simp [results, go_sem]) rfl ?_
  all_goals exact ⟨rfl, below_drew (Below.refl _ _) 1⟩
end Go.Proofs.Ytnmpoipakmjbpaa
/- append onto a row of the call's own: the old row keeps what it had, wherever the new one lies. -/
namespace Go.Proofs.Ytnmpoipakmjbpaa
open Go.RowKit

theorem run_appK {P : Program} (w : World) (t ty : TypeId) {base : Nat} {e : TypeId} {size bytes : Nat} (S : SliceOf P t e size bytes) (hsz : 0 < size)
    (v : Value) (n : Nat) (hn0 : 0 < n) (xs : List Value) (hown : w.ownsRow base e size v n xs)
    (ad : Addr) (m c : Nat) (news : List Value) (hr : Rd w size (some ad) m news) (h1 : ∀ u ∈ news, u.oneCell' = true)
    (hbytes : (n + m) * bytes ≤ 140737488355328) (h63 : n + m ≤ maxLen) (hbase : base ≤ w.heap.size) :
    ∃ v' w', (Builtin.append_ #[t, t] ty #[v, .slice (some ad) m c]).run P w = .ok v' w' ∧ w'.ownsRow base e size v' (n + m) (xs ++ news) ∧ w.grownBy w' v.ownBlock ∧ (v'.ownBlock = v.ownBlock ∨ (v'.ownBlock = some w.heap.size ∧ Below w.heap.size w w')) := by
  obtain ⟨ht, i, z, hi, hz, hs1, hb1, hzs⟩ := S
  obtain ⟨v', w', hrun, h2, h3, _, h5⟩ := run_append_own_at (P := P) w base t ty e i z size bytes ht hi hz hs1 hb1 hzs hsz v n xs hown ad m c news hr.1 hr.news h1 h63 hbytes hbase
  refine ⟨v', w', hrun, h2, h3, ?_⟩
  rcases h5 with h5 | h5
  · exact .inl h5
  · rcases hown.2 with ⟨rfl, hn⟩ | ⟨g, cap, cur, rfl, hbg, hg, hnc, hcm, hcs, htake⟩
    · omega
    · by_cases hroom : n + m ≤ cap
      · have hl : news.length = m * i.size := by rw [hs1]; exact hr.1
        have hfit : n * i.size + news.length ≤ cur.size := by rw [hl, hcs, hs1, ← Nat.add_mul]; exact Nat.mul_le_mul_right _ hroom
        have hr2 := run_append_room (P := P) w t ty e i ht hi g n cap cur hg ad m c news hl hr.news h1 hroom hfit
        rw [hr2] at hrun
        injection hrun with e1 e2
        subst e1
        exact .inl rfl
      · have hlo : xs.length = n * i.size := by rw [hs1]; exact hown.1
        have hl : news.length = m * i.size := by rw [hs1]; exact hr.1
        have hsmall : n + m ≤ 9223372036854775807 := by simp only [maxLen] at h63; omega
        have hr2 := run_append_grow (P := P) w t ty e i z ht hi hz ⟨g, 0, none⟩ n cap xs hlo (hown.cells (g := g) rfl) ad m c news hl hr.news (by omega) (by omega) (growslice_fits (by omega) (by rw [hb1]; exact hbytes))
        rw [hr2] at hrun
        injection hrun with e1 e2
        refine .inr ⟨h5, ?_⟩
        rw [← e2]
        exact (Below.refl w.heap.size w).drew.alloc (Nat.le_refl _) _
/-- append onto a row with elements, the source any slice with an address. -/
theorem wpList_appK {P : Program} {w : World} {ops : Array Oper} {rest : List Oper} {o : Oper} {a : Act} {Q : Exit → Act → World → Prop} (hgd : o.guard = none) (s x : Operand) (t : TypeId)
    (ho : o.op = .call { callee := .builtin .append, args := #[s, x], argTypes := #[t, t] })
    {base : Nat} {e : TypeId} {size bytes : Nat} (S : SliceOf P t e size bytes) (hsz : 0 < size)
    (v : Value) (n : Nat) (hn0 : 0 < n) (xs : List Value) (hs : a.eval s = v) (hown : w.ownsRow base e size v n xs)
    (ad : Addr) (m c : Nat) (news : List Value) (hx : a.eval x = .slice (some ad) m c) (hr : Rd w size (some ad) m news) (h1 : ∀ u ∈ news, u.oneCell' = true)
    (hbytes : (n + m) * bytes ≤ 140737488355328) (h63 : n + m ≤ maxLen) (hbase : base ≤ w.heap.size)
    (h : ∀ v' w', w'.ownsRow base e size v' (n + m) (xs ++ news) → w.grownBy w' v.ownBlock → (v'.ownBlock = v.ownBlock ∨ (v'.ownBlock = some w.heap.size ∧ Below w.heap.size w w')) → wpList P ops Q rest (a.put o.dst v') w') :
    wpList P ops Q (o :: rest) a w := by
  obtain ⟨v', w', hrun, h2, h3, h5⟩ := run_appK (P := P) w t o.type S hsz v n hn0 xs hown ad m c news hr h1 hbytes h63 hbase
  refine wpList_plain hgd fun K hK => ?_
  unfold Oper.wp execOp
  simp only [ho, resolve, invoke, builtin, Sem.run_bind, Sem.run_pure, Result.andThen_ok, List.map_toArray, List.map_cons, List.map_nil, hs, hx, hrun]
  exact hK _ _ (h v' w' h2 h3 h5)
end Go.Proofs.Ytnmpoipakmjbpaa
/- slices.Equal at []int: whether the two slices read alike; the world is as it was, but for draws. -/
namespace Go.Proofs.Ytnmpoipakmjbpaa
open Go.RowKit

theorem take_eq_succ {xs ys : List Int} {k : Nat} (h : xs.take k = ys.take k) {x : Int} (h1 : xs[k]? = some x) (h2 : ys[k]? = some x) : xs.take (k + 1) = ys.take (k + 1) := by
  rw [List.take_add_one, List.take_add_one, h, h1, h2]

set_option maxRecDepth 100000 in
set_option maxHeartbeats 1000000 in
theorem equalInt_same (n : Nat) (A B : Option Addr) (c d : Nat) (xs ys : List Int) (w : World) (hxn : xs.length = n) (hyn : ys.length = n)
    (hx : Rd w 1 A n (xs.map (Value.int .i64))) (hy : Rd w 1 B n (ys.map (Value.int .i64))) (hn : n ≤ maxLen) :
    Calls Try.prog 13 #[.slice A n c, .slice B n d] w fun e w' => e = .returned (.bool (decide (xs = ys))) ∧ ∃ q, w' = w.drewN q := by
  unfold maxLen at hn
  have HX := Lib.hid hxn
  have HY := Lib.hid hyn
  clear hxn hyn
  go_enter Try.func13, Try.ntmps13
  go_wp2
  go_loopw [13] (fun i wr => ∃ k q : Nat, k ≤ n ∧ i = .int .i64 k ∧ wr = w.drewN q ∧ xs.take k = ys.take k) (fun i _ => n - (intOf i).toNat)
  case atStart => exact ⟨0, 0, Nat.zero_le _, rfl, rfl, rfl⟩
  case round =>
    obtain ⟨k, q, hk, rfl, rfl, ht⟩ := hrel
    have HT := Lib.hid ht
    clear ht
    by_cases hlt : k < n
    · obtain ⟨x, hxk⟩ : ∃ x, xs[k]? = some x := ⟨_, List.getElem?_eq_getElem (by rw [HX.out]; exact hlt)⟩
      obtain ⟨y, hyk⟩ : ∃ y, ys[k]? = some y := ⟨_, List.getElem?_eq_getElem (by rw [HY.out]; exact hlt)⟩
      obtain ⟨a, rfl, _, ha⟩ := hx.at_ hlt
      obtain ⟨b, rfl, _, hb⟩ := hy.at_ hlt
      have ca : w.cell? (a.add k) = some (.int .i64 x) := ha _ (by rw [List.getElem?_map, hxk]; rfl)
      have cb : w.cell? (b.add k) = some (.int .i64 y) := hb _ (by rw [List.getElem?_map, hyk]; rfl)
      have HXK := Lib.hid hxk
      have HYK := Lib.hid hyk
      clear hxk hyk ha hb
      by_cases he : x = y
      · subst he
        go_wp2
        go_quiet (fail)
        go_wp2
        go_roundw
        case rel => exact ⟨k + 1, _, by omega, by go_num, rfl, take_eq_succ HT.out HXK.out HYK.out⟩
        case measure => simp [intOf]; omega
      · have hne : (x == y) = false := by simpa using he
        have hne' : (x != y) = true := by simpa using he
        have hf : decide (xs = ys) = false := decide_eq_false (fun e => he (by have h1 := HXK.out; rw [e, HYK.out] at h1; injection h1 with h1; exact h1.symm))
        clear he
        go_wp2
        go_quiet (fail)
        go_wp2
        go_ret
        exact ⟨retB (by simp [hf]), _, World.drewN_drewN _ _ _⟩
    · have hkn : k = n := by omega
      have htr : decide (xs = ys) = true := decide_eq_true (by
        have h := HT.out
        rwa [List.take_of_length_le (by rw [HX.out]; omega), List.take_of_length_le (by rw [HY.out]; omega)] at h)
      clear hkn
      go_wp2
      go_ret
      exact ⟨retB (by simp [htr]), _, rfl⟩

theorem equalInt_any (A B : Option Addr) (n m c d : Nat) (xs ys : List Int) (w : World) (hx : Rd w 1 A n (xs.map (Value.int .i64))) (hy : Rd w 1 B m (ys.map (Value.int .i64))) (hn : n ≤ maxLen) (hm : m ≤ maxLen) :
    Calls Try.prog 13 #[.slice A n c, .slice B m d] w fun e w' => e = .returned (.bool (decide (xs = ys))) ∧ ∃ q, w' = w.drewN q := by
  have hxl : xs.length = n := by simpa using hx.len1
  have hyl : ys.length = m := by simpa using hy.len1
  by_cases h : n = m
  · subst h
    exact equalInt_same n A B c d xs ys w hxl hyl hx hy hn
  · have hne : decide (xs = ys) = false := decide_eq_false (fun e => h (by rw [← hxl, ← hyl, e]))
    have h1 : ((n : Int) == m) = false := by simp; omega
    have h2 : ((n : Int) != m) = true := by simp; omega
    clear hxl hyl
    go_enter Try.func13, Try.ntmps13
    go_wp2
    go_ret
    exact ⟨retB (by simp [hne]), 0, rfl⟩
theorem equalInt_b (A B : Option Addr) (n m c d : Nat) (xs ys : List Int) (w : World) (hx : Rd w 1 A n (xs.map (Value.int .i64))) (hy : Rd w 1 B m (ys.map (Value.int .i64))) (hn : n ≤ maxLen) (hm : m ≤ maxLen) :
    Calls Try.prog 13 #[.slice A n c, .slice B m d] w fun e w' => e = .returned (.bool (decide (xs = ys))) ∧ Below w.heap.size w w' :=
  (equalInt_any A B n m c d xs ys w hx hy hn hm).mono fun _ _ ⟨he, q, hq⟩ => ⟨he, hq ▸ drewBelow q⟩
end Go.Proofs.Ytnmpoipakmjbpaa
/- The reference's closes, Matches. -/
namespace Go.Proofs.Ytnmpoipakmjbpaa
open Go.RowKit

set_option maxRecDepth 100000 in
set_option maxHeartbeats 2000000 in
theorem rfCloses_any (A : Option Addr) (n c i : Nat) (xs : List Int) (w : World) (hr : Rd w 1 A n (xs.map (Value.int .i64))) (hn : n ≤ 1000000) (hi : i < n) :
    Calls Try.prog 56 #[.slice A n c, .int .i64 (i : Int)] w fun e w' => e = .returned (.int .i64 (ansF xs (i + 1) 0 : Nat)) ∧ w = w' := by
  have hlen : xs.length = n := by simpa using hr.len1
  obtain ⟨a, ha⟩ : ∃ a, ansF xs (i + 1) 0 = a := ⟨_, rfl⟩
  have HA := Lib.hid ha
  have HL := Lib.hid hlen
  have HR := Lib.hid hr
  rw [ha]
  clear hlen hr ha
  go_enter Try.func56, Try.ntmps56
  go_wp2_with fail
  go_loopw [5, 6] (fun d k wr => ∃ (j e : Nat), j ≤ n ∧ e ≤ j ∧ k = .int .i64 (j : Int) ∧ d = .int .i64 (e : Int) ∧ wr = w ∧ ansF xs j e = a) (fun _ k _ => n - (intOf k).toNat)
  case atStart => exact ⟨i + 1, 0, by omega, by omega, by go_num, rfl, rfl, HA.out⟩
  case round =>
    obtain ⟨j, d, hj, hdj, rfl, rfl, rfl, hfs⟩ := hrel
    have HS := Lib.hid hfs
    clear hfs
    by_cases hlt : j < n
    · obtain ⟨x, hx⟩ : ∃ x, xs[j]? = some x := ⟨_, List.getElem?_eq_getElem (by rw [HL.out]; exact hlt)⟩
      obtain ⟨ad, rfl, hab, hcell⟩ := HR.out.at_ hlt
      have cx : wr.cell? (ad.add j) = some (.int .i64 x) := hcell _ (by rw [List.getElem?_map, hx]; rfl)
      obtain ⟨o, ho⟩ : ∃ o, opB x = o := ⟨_, rfl⟩
      have HI := Lib.hid (fun W => rfOpens_of x o ho W)
      have HX := Lib.hid hx
      have HO := Lib.hid ho
      clear hcell hx ho
      cases o with
      | true =>
        have HN := Lib.hid ((ansF_open d HX.out HO.out).symm.trans HS.out)
        go_wp2_with (first
          | (go_at_call 28; with_reducible refine (HI.out _).mono ?_; rintro e w2 ⟨rfl, rfl⟩)
          | fail)
        go_roundw
        case rel => exact ⟨j + 1, d + 1, by omega, by omega, by go_num, by go_num, trivial, HN.out⟩
        case measure => simp [intOf]; omega
      | false =>
        by_cases h22 : x = 22
        · subst h22
          rcases Nat.eq_zero_or_pos d with rfl | hd
          · have HN := Lib.hid (show j = a from (ansF_here HX.out).symm.trans HS.out)
            go_wp2_with (first
              | (go_at_call 28; with_reducible refine (HI.out _).mono ?_; rintro e w2 ⟨rfl, rfl⟩)
              | fail)
            go_ret
            exact ⟨retI (by have := HN.out; omega), rfl⟩
          · obtain ⟨f, rfl⟩ : ∃ f, d = f + 1 := ⟨d - 1, by omega⟩
            have HN := Lib.hid ((ansF_shut f HX.out).symm.trans HS.out)
            obtain ⟨D, hD⟩ : ∃ D : Int, ((f + 1 : Nat) : Int) = D := ⟨_, rfl⟩
            have hm4 : D - 1 = (f : Int) := by omega
            obtain ⟨hD1, hD2, hD3⟩ : 0 ≤ D ∧ D ≤ 1000001 ∧ (D == 0) = false := ⟨by omega, by omega, by simp; omega⟩
            rw [hD]
            clear hD hd
            go_wp2_with (first
              | (go_at_call 28; with_reducible refine (HI.out _).mono ?_; rintro e w2 ⟨rfl, rfl⟩)
              | fail)
            go_roundw
            case rel => exact ⟨j + 1, f, by omega, by omega, by go_num, by go_num, trivial, HN.out⟩
            case measure => simp [intOf]; omega
        · have HN := Lib.hid ((ansF_pass d HX.out HO.out h22).symm.trans HS.out)
          have g22 : (x == 22) = false := by simp [h22]
          clear h22
          go_wp2_with (first
            | (go_at_call 28; with_reducible refine (HI.out _).mono ?_; rintro e w2 ⟨rfl, rfl⟩)
            | fail)
          go_roundw
          case rel => exact ⟨j + 1, d, by omega, by omega, by go_num, rfl, trivial, HN.out⟩
          case measure => simp [intOf]; omega
    · obtain rfl : j = n := by omega
      have HN := Lib.hid (show j = a by have := HS.out; rw [← HL.out, ansF_end] at this; rw [← HL.out]; exact this)
      go_wp2
      go_ret
      exact ⟨retI (by have := HN.out; omega), rfl⟩
theorem rmS_yes {xs : List Int} {k : Nat} {x : Int} (hx : xs[k]? = some x) (ho : opB x = true) : rmS xs (k + 1) = if ansF xs (k + 1) 0 < xs.length then ((rmS xs k).set k (ansF xs (k + 1) 0)).set (ansF xs (k + 1) 0) k else (rmS xs k).set k (ansF xs (k + 1) 0) := by
  rw [rmS, if_pos (by rw [hx]; simp [ho])]
theorem rmS_no {xs : List Int} {k : Nat} {x : Int} (hx : xs[k]? = some x) (ho : opB x = false) : rmS xs (k + 1) = rmS xs k := by
  rw [rmS, if_neg (by rw [hx]; simp [ho])]
set_option maxRecDepth 100000 in
set_option maxHeartbeats 2000000 in
theorem rfMatches_any (A : Option Addr) (n c : Nat) (xs : List Int) (w : World) (hr : Rd w 1 A n (xs.map (Value.int .i64))) (hn : n ≤ 100000) :
    Calls Try.prog 27 #[.slice A n c] w fun e w' => ∃ v, e = .returned v ∧ w'.ownsRow w.heap.size 3 1 v n ((matF xs).map (Value.int .i64)) ∧ Below w.heap.size w w' := by
  have hlen : xs.length = n := by simpa using hr.len1
  have HL := Lib.hid hlen
  have HR := Lib.hid hr
  clear hlen hr
  go_enter Try.func27, Try.ntmps27
  go_wp2_with fail
  go_loopw [3, 4] (fun v i wr => ∃ k : Nat, k ≤ n ∧ i = .int .i64 (k : Int) ∧ wr.ownsRow w.heap.size 3 1 v k (List.replicate k (Value.int .i64 (-1))) ∧ Below w.heap.size w wr) (fun _ i _ => n - (intOf i).toNat)
  case atStart => exact ⟨0, Nat.zero_le _, rfl, ⟨rfl, .inl ⟨rfl, rfl⟩⟩, Below.refl _ _⟩
  case round =>
    obtain ⟨k, hk, rfl, hown, hb⟩ := hrel
    have HO := Lib.hid hown
    have HB := Lib.hid hb
    clear hown hb
    have hz := HB.out.size
    by_cases hlt : k < n
    · go_wp2_with (first
        | (at_builtin; refine wpList_app rfl _ _ _ rfl intSliceM (by decide) _ k _ rfl (HO.out.alloc _) ⟨wr.heap.size, 0, none⟩ 1 1 [.int .i64 (-1)] rfl rfl (cells_new wr [_] _) (oneInt _ _) (by omega) (by unfold maxLen; omega) (Nat.le_trans hz (by simp)) ?_; intro v1 w1 hown1 hg1 hat1)
        | fail)
      have hgr := below_app (HB.out.alloc hz _) hg1 (HO.out.alloc _) (Nat.le_trans hz (by simp))
      go_roundw
      case rel => exact ⟨k + 1, by omega, by go_num, by rw [List.replicate_succ']; exact hown1, hgr⟩
      case measure => simp [intOf]; omega
    · obtain rfl : k = n := by omega
      have HS0 : Hid (rmS xs 0 = List.replicate k (-1)) := Lib.hid (by rw [rmS, HL.out])
      obtain ⟨V, cv, hv, hcv⟩ := own_form HO.out
      subst hv
      go_wp2_with fail
      go_loopw [5] (fun i ws => ∃ j : Nat, j ≤ k ∧ i = .int .i64 (j : Int) ∧ ws.ownsRow w.heap.size 3 1 (.slice V k cv) k ((rmS xs j).map (Value.int .i64)) ∧ Below w.heap.size w ws) (fun i _ => k - (intOf i).toNat)
      case atStart => exact ⟨0, Nat.zero_le _, rfl, by rw [HS0.out, List.map_replicate]; exact HO.out, HB.out⟩
      case round =>
        obtain ⟨j, hj, rfl, hown2, hb2⟩ := hrel
        by_cases hlt2 : j < k
        · obtain ⟨x, hx⟩ : ∃ x, xs[j]? = some x := ⟨_, List.getElem?_eq_getElem (by rw [HL.out]; exact hlt2)⟩
          obtain ⟨ad, hA, hab, hcell⟩ := (HR.out.below hb2).at_ hlt2
          subst hA
          have cx : wr.cell? (ad.add j) = some (.int .i64 x) := hcell _ (by rw [List.getElem?_map, hx]; rfl)
          obtain ⟨o, ho⟩ : ∃ o, opB x = o := ⟨_, rfl⟩
          have HI := Lib.hid (fun W => rfOpens_of x o ho W)
          have HX := Lib.hid hx
          have HO' := Lib.hid ho
          clear hcell hx ho
          cases o with
          | false =>
            have HN := Lib.hid (rmS_no HX.out HO'.out)
            have HO2 := Lib.hid hown2
            have HB2 := Lib.hid hb2
            clear hown2 hb2
            go_wp2_with (first
              | (go_at_call 28; with_reducible refine (HI.out _).mono ?_; rintro e w2 ⟨rfl, rfl⟩)
              | fail)
            go_roundw
            case rel => exact ⟨j + 1, by omega, by go_num, by rw [HN.out]; exact HO2.out, HB2.out⟩
            case measure => simp [intOf]; omega
          | true =>
            have HN := Lib.hid (rmS_yes HX.out HO'.out)
            have HCL := Lib.hid (rfCloses_any (some ad) k c j xs wr (HR.out.below hb2) (by omega) hlt2)
            obtain ⟨g, cg, hv, hcg, hg, hbg, _⟩ := own_at hown2 (by omega)
            simp only [Value.slice.injEq] at hv
            obtain ⟨rfl, _, rfl⟩ := hv
            obtain ⟨⟨u, cu⟩, fu⟩ := own_slot hown2 (j := j) (by omega)
            have hal := ansF_le xs (j + 1) 0
            rw [HL.out] at hal
            obtain ⟨a, ha⟩ : ∃ a, ansF xs (j + 1) 0 = a := ⟨_, rfl⟩
            rw [ha] at HN HCL hal
            rw [HL.out] at HN
            have HO3 := Lib.hid ((hown2.stored j (.int .i64 (a : Int))).1)
            have HB3 := Lib.hid (hb2.setCell (p := ⟨g, j, none⟩) hbg (.int .i64 (a : Int)))
            have hj0 : (0 : Int) ≤ (j : Int) := by omega
            have hjk : (j : Int) < (k : Int) := by omega
            by_cases hak : a < k
            · obtain ⟨⟨u2, cu2⟩, fu2⟩ := own_slot HO3.out (j := a) (by omega)
              have HO4 := Lib.hid ((HO3.out.stored a (.int .i64 (j : Int))).1)
              have HB4 := Lib.hid (HB3.out.setCell (p := ⟨g, a, none⟩) hbg (.int .i64 (j : Int)))
              rw [if_pos hak] at HN
              have ha0 : (0 : Int) ≤ (a : Int) := by omega
              have hakI : (a : Int) < (k : Int) := by omega
              clear hown2 hb2 ha
              go_wp2_with (first
                | (go_at_call 28; with_reducible refine (HI.out _).mono ?_; rintro e w2 ⟨rfl, rfl⟩)
                | (go_at_call 56; with_reducible refine HCL.out.mono ?_; rintro e w3 ⟨rfl, rfl⟩)
                | fail)
              go_roundw
              case rel => exact ⟨j + 1, by omega, by go_num, by rw [HN.out, List.map_set, List.map_set]; exact HO4.out, HB4.out⟩
              case measure => simp [intOf]; omega
            · rw [if_neg hak] at HN
              have hakI : ¬ (a : Int) < (k : Int) := by omega
              clear hown2 hb2 ha
              go_wp2_with (first
                | (go_at_call 28; with_reducible refine (HI.out _).mono ?_; rintro e w2 ⟨rfl, rfl⟩)
                | (go_at_call 56; with_reducible refine HCL.out.mono ?_; rintro e w3 ⟨rfl, rfl⟩)
                | fail)
              go_roundw
              case rel => exact ⟨j + 1, by omega, by go_num, by rw [HN.out, List.map_set]; exact HO3.out, HB3.out⟩
              case measure => simp [intOf]; omega
        · obtain rfl : j = k := by omega
          have HZ := Lib.hid (show rmS xs j = matF xs by have := rm_pm xs; rwa [HL.out] at this)
          have HO2 := Lib.hid hown2
          have HB2 := Lib.hid hb2
          clear hown2 hb2
          go_wp2
          go_ret
          exact ⟨_, rfl, by rw [← HZ.out]; exact HO2.out, HB2.out⟩
end Go.Proofs.Ytnmpoipakmjbpaa
/- slices.Contains at []int; a built slice of integers. -/
namespace Go.Proofs.Ytnmpoipakmjbpaa
open Go.RowKit
theorem rdNewI (w : World) (xs : List Int) (t : TypeId) : Rd (w.alloc (.cells (xs.map (Value.int .i64)).toArray t)) 1 (some ⟨w.heap.size, 0, none⟩) xs.length (xs.map (Value.int .i64)) := by
  have := Rd.new_ w (xs.map (Value.int .i64)) t
  rwa [List.length_map] at this
set_option maxRecDepth 100000 in
theorem indexI_any (A : Option Addr) (n c : Nat) (xs : List Int) (x : Int) (w : World) (hr : Rd w 1 A n (xs.map (Value.int .i64))) (hn : n ≤ 1000) :
    Calls Try.prog 90 #[.slice A n c, .int .i64 x] w fun e w' => (∃ r : Int, e = .returned (.int .i64 r) ∧ (0 ≤ r ↔ x ∈ xs)) ∧ w = w' := by
  have hlen : xs.length = n := by simpa using hr.len1
  have HL := Lib.hid hlen
  clear hlen
  go_enter Try.func90, Try.ntmps90
  go_wp2
  go_loop [8] (fun i => ∃ k : Nat, k ≤ n ∧ i = .int .i64 k ∧ x ∉ xs.take k) (fun i => n - (intOf i).toNat)
  case atStart => exact ⟨0, Nat.zero_le _, rfl, by simp⟩
  case round =>
    obtain ⟨k, hk, rfl, hno⟩ := hrel
    have HN := Lib.hid hno
    clear hno
    by_cases hlt : k < n
    · obtain ⟨s, hsk⟩ : ∃ s, xs[k]? = some s := ⟨_, List.getElem?_eq_getElem (by rw [HL.out]; exact hlt)⟩
      obtain ⟨ad, rfl, _, hc⟩ := hr.at_ hlt
      have cs : w.cell? (ad.add k) = some (.int .i64 s) := hc _ (by rw [List.getElem?_map, hsk]; rfl)
      have HS := Lib.hid hsk
      clear hsk hc
      by_cases he : x = s
      · have HM := Lib.hid (show x ∈ xs from he ▸ List.mem_of_getElem? HS.out)
        subst he
        go_wp2
        go_ret
        exact ⟨⟨_, rfl, fun _ => HM.out, fun _ => by omega⟩, rfl⟩
      · have HX := Lib.hid (show x ∉ xs.take (k + 1) by
          rw [List.take_add_one, HS.out]
          simp only [Option.toList_some, List.mem_append, List.mem_singleton, not_or]
          exact ⟨HN.out, he⟩)
        have g1 : (x == s) = false := by simp [he]
        clear he
        go_wp2
        go_round
        case rel => exact ⟨k + 1, by omega, by go_num, HX.out⟩
        case measure => simp [intOf]; omega
    · have HF := Lib.hid (show x ∉ xs by have := HN.out; rwa [List.take_of_length_le (by rw [HL.out]; omega)] at this)
      go_wp2
      go_ret
      exact ⟨⟨-1, rfl, fun h => absurd h (by omega), fun h => absurd h HF.out⟩, rfl⟩
theorem containsI_any (A : Option Addr) (n c : Nat) (xs : List Int) (x : Int) (w : World) (hr : Rd w 1 A n (xs.map (Value.int .i64))) (hn : n ≤ 1000) :
    Calls Try.prog 84 #[.slice A n c, .int .i64 x] w fun e w' => e = .returned (.bool (decide (x ∈ xs))) ∧ w = w' := by
  have HC := Lib.hid (indexI_any A n c xs x w hr hn)
  clear hr
  go_enter Try.func84, Try.ntmps84
  go_wp2_with fail
  refine HC.out.mono ?_
  rintro e w1 ⟨⟨r, rfl, hi⟩, rfl⟩
  have HI := Lib.hid hi
  clear hi
  by_cases h : 0 ≤ r
  · have HM := Lib.hid (HI.out.1 h)
    go_wp2
    go_ret
    exact ⟨retB (by simp [HM.out]), rfl⟩
  · have HM := Lib.hid (fun m => h (HI.out.2 m))
    have h' : r < 0 := by omega
    clear h
    go_wp2
    go_ret
    exact ⟨retB (by simp; exact HI.out), rfl⟩
end Go.Proofs.Ytnmpoipakmjbpaa
/- The reference's stack in memory. -/
namespace Go.Proofs.Ytnmpoipakmjbpaa
open Go.RowKit

def cE (e : Ent) : List Value := [.int .i64 e.lv, .int .i64 e.ov, .bool e.is]
def cellsE (l : List Ent) : List Value := l.flatMap cE
theorem cellsE_len (l : List Ent) : (cellsE l).length = l.length * 3 := by
  induction l with
  | nil => rfl
  | cons e l ih => unfold cellsE at ih ⊢; rw [List.flatMap_cons, List.length_append, ih, List.length_cons]; show 3 + _ = _; omega
theorem cellsE_app (l m : List Ent) : cellsE (l ++ m) = cellsE l ++ cellsE m := by unfold cellsE; rw [List.flatMap_append]
theorem cellsE_at {l : List Ent} {k : Nat} {e : Ent} (h : l[k]? = some e) : (cellsE l)[k * 3]? = some (.int .i64 e.lv) ∧ (cellsE l)[k * 3 + 1]? = some (.int .i64 e.ov) ∧ (cellsE l)[k * 3 + 2]? = some (.bool e.is) := by
  induction l generalizing k with
  | nil => simp at h
  | cons x l ih =>
    have hc : cellsE (x :: l) = .int .i64 x.lv :: .int .i64 x.ov :: .bool x.is :: cellsE l := rfl
    rw [hc]
    cases k with
    | zero => simp at h; subst h; exact ⟨rfl, rfl, rfl⟩
    | succ k =>
      have := ih (k := k) (by simpa using h)
      have e0 : (k + 1) * 3 = k * 3 + 1 + 1 + 1 := by omega
      have e1 : (k + 1) * 3 + 1 = k * 3 + 1 + 1 + 1 + 1 := by omega
      have e2 : (k + 1) * 3 + 2 = k * 3 + 2 + 1 + 1 + 1 := by omega
      rw [e2, e1, e0]
      simpa using this
theorem cellsE_one (l : List Ent) : ∀ u ∈ cellsE l, u.oneCell' = true := by
  intro u hu
  obtain ⟨e, _, hu⟩ := List.mem_flatMap.1 hu
  simp [cE] at hu
  rcases hu with rfl | rfl | rfl <;> rfl
theorem cellsE_take {l : List Ent} {k : Nat} : (cellsE l).take (k * 3) = cellsE (l.take k) := by
  induction l generalizing k with
  | nil => simp [cellsE]
  | cons x l ih =>
    have hc : ∀ m, cellsE (x :: m) = .int .i64 x.lv :: .int .i64 x.ov :: .bool x.is :: cellsE m := fun _ => rfl
    cases k with
    | zero => simp [cellsE]
    | succ k =>
      rw [show (k + 1) * 3 = k * 3 + 1 + 1 + 1 by omega, hc, List.take_succ_cons, List.take_succ_cons, List.take_succ_cons, ih, List.take_succ_cons, hc]
theorem entSliceR : SliceOf Try.prog 79 60 3 24 := .mk_ (z := .agg #[.int .i64 0, .int .i64 0, .bool false]) Try.underlying79 (by kernel_rfl) rfl
theorem rdNew3 (w : World) (x y z : Value) (t : TypeId) : Rd (w.alloc (.cells #[x, y, z] t)) 3 (some ⟨w.heap.size, 0, none⟩) 1 [x, y, z] := ⟨rfl, fun _ => ⟨_, rfl, by simp, cells_new w [x, y, z] t⟩⟩
/-- The reference's stack in block b. -/
structure RsAt (w : World) (b : Nat) (s : Stk) : Prop where
  ex : ∃ (ad : Addr) (c : Nat), w.heap[b]? = some (.cells #[.slice (some ad) (s.R.length + 1) c, .int .i64 (s.a : Int), .int .i64 (s.b : Int), .int .i64 (s.c : Int)] 81 (0, 0)) ∧ s.R.length + 1 ≤ c ∧ Rd w 3 (some ad) (s.R.length + 1) (cellsE s.all) ∧ (ad.block ≠ b ∧ b ≤ ad.block + 1 ∧ ∃ cs, w.heap[ad.block]? = some (.cells cs 60 (0, 0)))
  ris : Rises s
theorem Stk.all_len (s : Stk) : s.all.length = s.R.length + 1 := by simp [Stk.all]
section
variable {w w' : World} {b : Nat} {s : Stk}
theorem RsAt.lt (h : RsAt w b s) : b < w.heap.size := by obtain ⟨ad, c, h1, _⟩ := h.ex; exact hp_lt h1
theorem RsAt.keep {S : List Nat} (h : RsAt w b s) (hk : Kept w w' S) (hs : ∀ x ∈ S, x + 1 < b) : RsAt w' b s := by
  obtain ⟨ad, c, h1, h2, h3, h4⟩ := h.ex
  obtain ⟨ad', e, hlt, hc⟩ := h3.2 (by omega)
  obtain rfl := Option.some.inj e
  obtain ⟨h6, h7, cs, h8⟩ := h4
  refine ⟨⟨ad, c, hk.heap h1 (fun hm => by have := hs b hm; omega), h2, ⟨h3.1, fun _ => ⟨ad, rfl, Nat.lt_of_lt_of_le hlt hk.size, fun j u hu => ?_⟩⟩, h6, h7, cs, hk.heap h8 (fun hm => by have := hs _ hm; omega)⟩, h.ris⟩
  have h5 := hc j u hu
  unfold World.cell? at h5 ⊢
  rw [show w'.heap[(ad.add j).block]? = w.heap[(ad.add j).block]? from by rw [blockAdd]; exact hk.block _ hlt (fun hm => by have := hs _ hm; omega)]
  exact h5
theorem RsAt.low (h : RsAt w b s) (hb : Below w.heap.size w w') : RsAt w' b s := h.keep (Kept.of_below hb []) (by simp)
theorem RsAt.froz (h : RsAt w b s) (j : Nat) : w.frozen? ⟨b, j, none⟩ = false := by obtain ⟨ad, c, h1, _⟩ := h.ex; exact hp_froz h1 j
theorem RsAt.ca (h : RsAt w b s) : w.cell? ⟨b, 1, none⟩ = some (.int .i64 (s.a : Int)) := by obtain ⟨ad, c, h1, _⟩ := h.ex; exact hp_cell h1 rfl
theorem RsAt.cb (h : RsAt w b s) : w.cell? ⟨b, 2, none⟩ = some (.int .i64 (s.b : Int)) := by obtain ⟨ad, c, h1, _⟩ := h.ex; exact hp_cell h1 rfl
theorem RsAt.cc (h : RsAt w b s) : w.cell? ⟨b, 3, none⟩ = some (.int .i64 (s.c : Int)) := by obtain ⟨ad, c, h1, _⟩ := h.ex; exact hp_cell h1 rfl
/-- The slice of entries, and the last one's cells. -/
theorem RsAt.sl (h : RsAt w b s) : ∃ ad c, w.cell? ⟨b, 0, none⟩ = some (.slice (some ad) (s.R.length + 1) c) ∧ s.R.length + 1 ≤ c ∧ Rd w 3 (some ad) (s.R.length + 1) (cellsE s.all) ∧ ad.block ≠ b ∧ ad.block < w.heap.size ∧
    w.cell? (ad.add (s.R.length * 3)) = some (.int .i64 s.top.lv) ∧ w.cell? ⟨(ad.add (s.R.length * 3)).block, (ad.add (s.R.length * 3)).off + 1, none⟩ = some (.int .i64 s.top.ov) ∧ w.cell? ⟨(ad.add (s.R.length * 3)).block, (ad.add (s.R.length * 3)).off + 2, none⟩ = some (.bool s.top.is) := by
  obtain ⟨ad, c, h1, h2, h3, h4⟩ := h.ex
  obtain ⟨ad', e, hlt, hc⟩ := h3.2 (by omega)
  obtain rfl := Option.some.inj e
  have ht := cellsE_at s.all_top
  have e1 := hc _ _ ht.2.1
  have e2 := hc _ _ ht.2.2
  rw [addNext ad (s.R.length * 3) 0] at e1
  rw [addNext ad (s.R.length * 3) 1] at e2
  exact ⟨ad, c, hp_cell h1 rfl, h2, h3, h4.1, hlt, hc _ _ ht.1, e1, e2⟩
/-- An append onto a row of integers leaves the stack. -/
theorem RsAt.grown {row : Option Nat} (h : RsAt w b s) (hg : w.grownBy w' row) (hrow : ∀ x, row = some x → ∃ cs, w.heap[x]? = some (.cells cs 3 (0, 0))) : RsAt w' b s := by
  obtain ⟨ad, c, h1, h2, h3, h6, h7, cs, h8⟩ := h.ex
  obtain ⟨ad', e, hlt, hc⟩ := h3.2 (by omega)
  obtain rfl := Option.some.inj e
  have ne1 : row ≠ some b := fun e => by
    obtain ⟨cs', h9⟩ := hrow b e
    rw [h1] at h9
    cases h9
  have ne2 : row ≠ some ad.block := fun e => by
    obtain ⟨cs', h9⟩ := hrow _ e
    rw [h8] at h9
    cases h9
  have h10 := blk_grown h8 hg ne2
  refine ⟨⟨ad, c, blk_grown h1 hg ne1, h2, ⟨h3.1, fun _ => ⟨ad, rfl, Nat.lt_of_lt_of_le hlt hg.size, fun j u hu => ?_⟩⟩, h6, h7, cs, h10⟩, h.ris⟩
  have h5 := hc j u hu
  unfold World.cell? at h5 ⊢
  rw [show w'.heap[(ad.add j).block]? = w.heap[(ad.add j).block]? from by rw [blockAdd, h10, h8]]
  exact h5
theorem RsAt.fits (h : RsAt w b s) : 0 ≤ s.top.lv ∧ s.top.lv ≤ 125 ∧ s.R.length < 126 := by
  have h1 := h.ris.top
  have h2 := h.ris.len
  have h3 := h.ris.2.2
  unfold Stk.len at h2
  omega
theorem RsAt.setN (h : RsAt w b s) (i : Nat) (v : Value) (t : Stk) (hR : t.R = s.R) (hbot : t.bot = s.bot) (hv : ∀ (ad : Addr) (c : Nat), (#[.slice (some ad) (s.R.length + 1) c, .int .i64 (s.a : Int), .int .i64 (s.b : Int), .int .i64 (s.c : Int)] : Array Value).setIfInBounds i v = #[.slice (some ad) (t.R.length + 1) c, .int .i64 (t.a : Int), .int .i64 (t.b : Int), .int .i64 (t.c : Int)]) : RsAt (w.setCell ⟨b, i, none⟩ v) b t := by
  obtain ⟨ad, c, h1, h2, h3, h4⟩ := h.ex
  have hall : t.all = s.all := by unfold Stk.all; rw [hR, hbot]
  refine ⟨⟨ad, c, by rw [heap_setCell_same w b i _ _ _ h1, hv], by rw [hR]; exact h2, ?_, h4.1, h4.2.1, h4.2.2.imp (fun cs h8 => by rw [hp_far h4.1]; exact h8)⟩, ?_⟩
  · rw [hR, hall]
    refine ⟨h3.1, fun hn => ?_⟩
    obtain ⟨ad', e, hlt, hc⟩ := h3.2 hn
    obtain rfl := Option.some.inj e
    refine ⟨ad, rfl, by simpa [World.setCell] using hlt, fun j u hu => ?_⟩
    rw [World.cell?_setCell_other w ⟨b, i, none⟩ (ad.add j) v (by intro e; apply h4.1; have := congrArg Addr.block e; rw [blockAdd] at this; exact this.symm)]
    exact hc j u hu
  · have hr := h.ris
    refine ⟨by rw [hR, hbot]; exact hr.1, by rw [hR, hbot]; exact hr.2.1, by rw [hbot]; exact hr.2.2⟩
theorem RsAt.setA (h : RsAt w b s) (x : Nat) : RsAt (w.setCell ⟨b, 1, none⟩ (.int .i64 (x : Int))) b { s with a := x } := h.setN 1 _ _ rfl rfl (fun _ _ => rfl)
theorem RsAt.setB (h : RsAt w b s) (x : Nat) : RsAt (w.setCell ⟨b, 2, none⟩ (.int .i64 (x : Int))) b { s with b := x } := h.setN 2 _ _ rfl rfl (fun _ _ => rfl)
theorem RsAt.setC (h : RsAt w b s) (x : Nat) : RsAt (w.setCell ⟨b, 3, none⟩ (.int .i64 (x : Int))) b { s with c := x } := h.setN 3 _ _ rfl rfl (fun _ _ => rfl)
/-- A new slice of entries is stored. -/
theorem RsAt.setL (h : RsAt w b s) {g c : Nat} {R : List Ent} (hr : Rd w 3 (some ⟨g, 0, none⟩) (R.length + 1) (cellsE (s.bot :: R.reverse))) (hc : R.length + 1 ≤ c) (hg : g ≠ b) (hg2 : b ≤ g + 1) (hg3 : ∃ cs, w.heap[g]? = some (.cells cs 60 (0, 0))) (hris : Rises { s with R := R }) : RsAt (w.setCell ⟨b, 0, none⟩ (.slice (some ⟨g, 0, none⟩) (R.length + 1) c)) b { s with R := R } := by
  obtain ⟨ad, c', h1, _, _, _⟩ := h.ex
  refine ⟨⟨⟨g, 0, none⟩, c, ?_, hc, ?_, hg, hg2, by obtain ⟨cs, h8⟩ := hg3; exact ⟨cs, by rw [hp_far hg]; exact h8⟩⟩, hris⟩
  · rw [heap_setCell_same w b 0 _ _ _ h1]; rfl
  · refine ⟨hr.1, fun hn => ?_⟩
    obtain ⟨ad', e, hlt, hcell⟩ := hr.2 hn
    obtain rfl := Option.some.inj e
    refine ⟨_, rfl, by simpa [World.setCell] using hlt, fun j u hu => ?_⟩
    rw [World.cell?_setCell_other w ⟨b, 0, none⟩ _ _ (by intro e; apply hg; have := congrArg Addr.block e; rw [blockAdd] at this; exact this.symm)]
    exact hcell j u hu
end
end Go.Proofs.Ytnmpoipakmjbpaa
/- How great the counts of a stack are. No function of the program. -/
namespace Go.Proofs.Ytnmpoipakmjbpaa
open Go.RowKit

/-- No count is above m. -/
def Few (s : Stk) (m : Nat) : Prop := s.a ≤ m ∧ s.b ≤ m ∧ s.c ≤ m
theorem few_emb {s : Stk} {m : Nat} (h : Few s m) (r : Bool) (o : Int) : Few (embS s r o).2 (m + 1) := by
  obtain ⟨h1, h2, h3⟩ := h
  unfold Few
  cases hr : roomS s r with
  | true => rw [emb_room hr]; exact ⟨by simp only; omega, by simp only; omega, by simp only; omega⟩
  | false =>
    rw [emb_no hr]
    simp only
    split
    · exact ⟨by simp only; omega, by simp only; omega, by simp only; omega⟩
    · omega
theorem few_iso {s : Stk} {m : Nat} (h : Few s m) (r : Bool) : Few (isoS s r).2 (m + 1) := by
  obtain ⟨h1, h2, h3⟩ := h
  unfold Few
  cases hr : roomS s r with
  | true => rw [iso_room hr]; exact ⟨by simp only; omega, by simp only; omega, by simp only; omega⟩
  | false => rw [iso_no hr]; exact ⟨by simp only; omega, by simp only; omega, by simp only; omega⟩
theorem few_endE {s : Stk} {m : Nat} (h : Few s m) : Few (endES s) m := by
  obtain ⟨h1, h2, h3⟩ := h
  unfold Few endES popS
  repeat' split
  all_goals exact ⟨by (first | (simp only; omega) | omega), by (first | (simp only; omega) | omega), by (first | (simp only; omega) | omega)⟩
theorem few_endI {s : Stk} {m : Nat} (h : Few s m) : Few (endIS s) m := by
  obtain ⟨h1, h2, h3⟩ := h
  unfold Few endIS
  repeat' split
  all_goals exact ⟨by (first | (simp only; omega) | omega), by (first | (simp only; omega) | omega), by (first | (simp only; omega) | omega)⟩
theorem Few.up {s : Stk} {m n : Nat} (h : Few s m) (hn : m ≤ n) : Few s n := ⟨Nat.le_trans h.1 hn, Nat.le_trans h.2.1 hn, Nat.le_trans h.2.2 hn⟩
end Go.Proofs.Ytnmpoipakmjbpaa
/- explicit: the counts along a paragraph, the matches within bounds, the answers as they grow. No function of the program. -/
namespace Go.Proofs.Ytnmpoipakmjbpaa
open Go.RowKit

theorem few_a {s : Stk} {m : Nat} (h : Few s m) (x : Int) : Few (stepA s x) m := by
  unfold stepA
  split
  · exact few_endI h
  · exact h
theorem few_b {s : Stk} {m : Nat} (h : Few s m) (xs : List Int) (k : Nat) (x : Int) : Few (stepB xs k x s) (m + 1) := by
  unfold stepB
  repeat' split
  all_goals first
    | exact few_emb h _ _
    | exact (few_endE h).up (by omega)
    | exact few_iso h _
    | exact h.up (by omega)
theorem few_st (xs : List Int) (base : Int) : ∀ k, Few (stE xs base k) k
  | 0 => ⟨by simp [stE, newS], by simp [stE, newS], by simp [stE, newS]⟩
  | k + 1 => by rw [stE]; exact few_b (few_a (few_st xs base k) _) _ _ _
/-- What goes together lies within the text, or is -1. -/
theorem mat_in {xs : List Int} {y : Int} (h : y ∈ matF xs) : -1 ≤ y ∧ y ≤ (xs.length : Int) := by
  obtain ⟨j, hj⟩ := List.getElem?_of_mem h
  have hl := (List.getElem?_eq_some_iff.1 hj).1
  have g := matF_good xs
  rw [g.len] at hl
  by_cases ho : OpAt xs j
  · rw [g.op j ho] at hj
    have := ansF_le xs (j + 1) 0
    have := Option.some.inj hj
    omega
  · rcases g.else_ j hl ho with e | ⟨i, hi, e⟩
    · rw [e] at hj
      have := Option.some.inj hj
      omega
    · have hs := g.shut i hi (by omega)
      rw [e, hj] at hs
      have := Option.some.inj hs
      have := opAt_lt hi
      omega
/-- The answers as they stand at place k. -/
def lvZ (xs : List Int) (base : Int) (k n : Nat) : List Int := lvL xs base k ++ List.replicate (n - k) 0
def clZ (xs : List Int) (base : Int) (k n : Nat) : List Int := clL xs base k ++ List.replicate (n - k) 0
theorem lvZ_len {xs : List Int} {base : Int} {k n : Nat} (h : k ≤ n) : (lvZ xs base k n).length = n := by unfold lvZ; rw [List.length_append, lvL_len, List.length_replicate]; omega
theorem clZ_len {xs : List Int} {base : Int} {k n : Nat} (h : k ≤ n) : (clZ xs base k n).length = n := by unfold clZ; rw [List.length_append, clL_len, List.length_replicate]; omega
theorem lvZ_zero (xs : List Int) (base : Int) (n : Nat) : lvZ xs base 0 n = List.replicate n 0 := by simp [lvZ, lvL]
theorem clZ_zero (xs : List Int) (base : Int) (n : Nat) : clZ xs base 0 n = List.replicate n 0 := by simp [clZ, clL]
theorem lvZ_end (xs : List Int) (base : Int) (n : Nat) : lvZ xs base n n = lvL xs base n := by simp [lvZ]
theorem clZ_end (xs : List Int) (base : Int) (n : Nat) : clZ xs base n n = clL xs base n := by simp [clZ]
theorem set_next {l : List Int} {k n : Nat} (hl : l.length = k) (hk : k < n) (x : Int) : (l ++ List.replicate (n - k) 0).set k x = l ++ [x] ++ List.replicate (n - (k + 1)) 0 := by
  rw [show n - k = (n - (k + 1)) + 1 by omega, List.replicate_succ, List.set_append_right _ _ (by omega), hl, Nat.sub_self, List.set_cons_zero, List.append_assoc]
  rfl
theorem lvZ_step {xs : List Int} {base : Int} {k n : Nat} (hk : k < n) : (lvZ xs base k n).set k (exA xs base k).1 = lvZ xs base (k + 1) n := by
  unfold lvZ
  rw [set_next (lvL_len xs base k) hk, lvL_step]
theorem clZ_step {xs : List Int} {base : Int} {k n : Nat} (hk : k < n) : (clZ xs base k n).set k (exA xs base k).2 = clZ xs base (k + 1) n := by
  unfold clZ
  rw [set_next (clL_len xs base k) hk, clL_step]
end Go.Proofs.Ytnmpoipakmjbpaa
/- make of ints, as a run. -/
namespace Go.Proofs.Ytnmpoipakmjbpaa
open Go.RowKit
theorem mk_intsZ (n : Nat) (hn : n ≤ 100000000) (w : World) : (Instr.makeSlice 22 (.int .i64 (n : Int)) (.int .i64 (n : Int))).run Try.prog w = .ok (.slice (some ⟨w.heap.size, 0, none⟩) n n) (w.alloc (.cells (intsZ (List.replicate n 0)).toArray 3)) := by
  have hin : (Try.prog.info? 3).map (fun i => (i.zero, i.size, i.bytes)) = some (some (.int .i64 0), 1, 8) := by kernel_rfl
  obtain ⟨i, h1, h2, h3, h4⟩ := info_parts hin
  have h := run_make (P := Try.prog) w 22 3 i (.int .i64 0) Try.underlying22 h1 h2 .i64 .i64 n n (by omega) (Int.le_refl _) (by rw [h4]; omega) (by omega)
  rw [h3] at h
  simp only [Int.toNat_natCast, Nat.mul_one] at h
  rw [h]
  refine congrArg (fun c => Result.ok _ (w.alloc (.cells c _))) ?_
  apply Array.toList_inj.1
  rw [show (Value.int .i64 0).cells = #[.int .i64 0] from rfl, toList_madeCells_one]
  simp [intsZ]
end Go.Proofs.Ytnmpoipakmjbpaa
/- A row of the call's own, at a place: its cell, and that it can be written. -/
namespace Go.Proofs.Ytnmpoipakmjbpaa
open Go.RowKit
/-- A row of the call's own, at a place: its cell, and that it can be written. -/
theorem row_at {w : World} {base : Nat} {e : TypeId} {V : Option Addr} {n cv : Nat} {xs : List Int} (h : w.ownsRow base e 1 (.slice V n cv) n (xs.map (Value.int .i64))) (hn : 0 < n) : ∃ g, V = some ⟨g, 0, none⟩ ∧ base ≤ g ∧ (∀ k x, xs[k]? = some x → w.cell? ⟨g, k, none⟩ = some (.int .i64 x)) ∧ (∀ k, k < n → w.frozen? ⟨g, k, none⟩ = false) ∧ ∀ k x, (w.setCell ⟨g, k, none⟩ (.int .i64 x)).ownsRow base e 1 (.slice V n cv) n ((xs.set k x).map (Value.int .i64)) := by
  obtain ⟨g, c, hv, _, hlt, hb, hc⟩ := own_at h hn
  injection hv with e1 _ e2
  subst e1 e2
  refine ⟨g, rfl, hb, fun k x hx => hc k _ (by rw [List.getElem?_map, hx]; rfl), fun k hk => ?_, fun k x => ?_⟩
  · exact (own_slot h (j := k) (by omega)).2
  · have := (h.stored k (.int .i64 x)).1
    rwa [← List.map_set] at this
end Go.Proofs.Ytnmpoipakmjbpaa
