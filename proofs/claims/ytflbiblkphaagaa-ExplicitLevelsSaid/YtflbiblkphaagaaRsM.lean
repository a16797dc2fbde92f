/- The reference's stack in memory. -/
import Derived.Test.YtflbiblkphaagaaStkM
import Derived.Test.YtflbiblkphaagaaMem3
import Derived.Test.YtflbiblkphaagaaSpD
namespace Go.Proofs.Ytflbiblkphaagaa
open Go.RowKit

def cE (e : Ent) : List Value := [.int .i64 e.lv, .int .i64 e.ov, .bool e.is]
def cellsE (l : List Ent) : List Value := l.flatMap cE
theorem cellsE_len (l : List Ent) : (cellsE l).length = l.length * 3 := by
  induction l with
  | nil => rfl
  | cons e l ih => unfold cellsE at ih ⊢; rw [List.flatMap_cons, List.length_append, ih, List.length_cons]; show 3 + _ = _; omega
theorem cellsE_app (l m : List Ent) : cellsE (l ++ m) = cellsE l ++ cellsE m := by unfold cellsE; rw [List.flatMap_append]
theorem cellsE_at {l : List Ent} {k : Nat} {e : Ent} (h : l[k]? = some e) : (cellsE l)[k * 3]? = some (.int .i64 e.lv) ∧ (cellsE l)[k * 3 + 1]? = some (.int .i64 e.ov) ∧ (cellsE l)[k * 3 + 2]? = some (.bool e.is) := by
  induction l generalizing k with
  | nil => simp at h
  | cons x l ih =>
    have hc : cellsE (x :: l) = .int .i64 x.lv :: .int .i64 x.ov :: .bool x.is :: cellsE l := rfl
    rw [hc]
    cases k with
    | zero => simp at h; subst h; exact ⟨rfl, rfl, rfl⟩
    | succ k =>
      have := ih (k := k) (by simpa using h)
      have e0 : (k + 1) * 3 = k * 3 + 1 + 1 + 1 := by omega
      have e1 : (k + 1) * 3 + 1 = k * 3 + 1 + 1 + 1 + 1 := by omega
      have e2 : (k + 1) * 3 + 2 = k * 3 + 2 + 1 + 1 + 1 := by omega
      rw [e2, e1, e0]
      simpa using this
theorem cellsE_one (l : List Ent) : ∀ u ∈ cellsE l, u.oneCell' = true := by
  intro u hu
  obtain ⟨e, _, hu⟩ := List.mem_flatMap.1 hu
  simp [cE] at hu
  rcases hu with rfl | rfl | rfl <;> rfl
theorem cellsE_take {l : List Ent} {k : Nat} : (cellsE l).take (k * 3) = cellsE (l.take k) := by
  induction l generalizing k with
  | nil => simp [cellsE]
  | cons x l ih =>
    have hc : ∀ m, cellsE (x :: m) = .int .i64 x.lv :: .int .i64 x.ov :: .bool x.is :: cellsE m := fun _ => rfl
    cases k with
    | zero => simp [cellsE]
    | succ k =>
      rw [show (k + 1) * 3 = k * 3 + 1 + 1 + 1 by omega, hc, List.take_succ_cons, List.take_succ_cons, List.take_succ_cons, ih, List.take_succ_cons, hc]
theorem entSliceR : SliceOf Try.prog 39 36 3 24 := .mk_ (z := .agg #[.int .i64 0, .int .i64 0, .bool false]) Try.underlying39 (by kernel_rfl) rfl
theorem rdNew3 (w : World) (x y z : Value) (t : TypeId) : Rd (w.alloc (.cells #[x, y, z] t)) 3 (some ⟨w.heap.size, 0, none⟩) 1 [x, y, z] := ⟨rfl, fun _ => ⟨_, rfl, by simp, cells_new w [x, y, z] t⟩⟩
/-- The reference's stack in block b. -/
structure RsAt (w : World) (b : Nat) (s : Stk) : Prop where
  ex : ∃ (ad : Addr) (c : Nat), w.heap[b]? = some (.cells #[.slice (some ad) (s.R.length + 1) c, .int .i64 (s.a : Int), .int .i64 (s.b : Int), .int .i64 (s.c : Int)] 41 (0, 0)) ∧ s.R.length + 1 ≤ c ∧ Rd w 3 (some ad) (s.R.length + 1) (cellsE s.all) ∧ (ad.block ≠ b ∧ b ≤ ad.block + 1 ∧ ∃ cs, w.heap[ad.block]? = some (.cells cs 36 (0, 0)))
  ris : Rises s
theorem Stk.all_len (s : Stk) : s.all.length = s.R.length + 1 := by simp [Stk.all]
section
variable {w w' : World} {b : Nat} {s : Stk}
theorem RsAt.lt (h : RsAt w b s) : b < w.heap.size := by obtain ⟨ad, c, h1, _⟩ := h.ex; exact hp_lt h1
theorem RsAt.keep {S : List Nat} (h : RsAt w b s) (hk : Kept w w' S) (hs : ∀ x ∈ S, x + 1 < b) : RsAt w' b s := by
  obtain ⟨ad, c, h1, h2, h3, h4⟩ := h.ex
  obtain ⟨ad', e, hlt, hc⟩ := h3.2 (by omega)
  obtain rfl := Option.some.inj e
  obtain ⟨h6, h7, cs, h8⟩ := h4
  refine ⟨⟨ad, c, hk.heap h1 (fun hm => by have := hs b hm; omega), h2, ⟨h3.1, fun _ => ⟨ad, rfl, Nat.lt_of_lt_of_le hlt hk.size, fun j u hu => ?_⟩⟩, h6, h7, cs, hk.heap h8 (fun hm => by have := hs _ hm; omega)⟩, h.ris⟩
  have h5 := hc j u hu
  unfold World.cell? at h5 ⊢
  rw [show w'.heap[(ad.add j).block]? = w.heap[(ad.add j).block]? from by rw [blockAdd]; exact hk.block _ hlt (fun hm => by have := hs _ hm; omega)]
  exact h5
theorem RsAt.low (h : RsAt w b s) (hb : Below w.heap.size w w') : RsAt w' b s := h.keep (Kept.of_below hb []) (by simp)
theorem RsAt.froz (h : RsAt w b s) (j : Nat) : w.frozen? ⟨b, j, none⟩ = false := by obtain ⟨ad, c, h1, _⟩ := h.ex; exact hp_froz h1 j
theorem RsAt.ca (h : RsAt w b s) : w.cell? ⟨b, 1, none⟩ = some (.int .i64 (s.a : Int)) := by obtain ⟨ad, c, h1, _⟩ := h.ex; exact hp_cell h1 rfl
theorem RsAt.cb (h : RsAt w b s) : w.cell? ⟨b, 2, none⟩ = some (.int .i64 (s.b : Int)) := by obtain ⟨ad, c, h1, _⟩ := h.ex; exact hp_cell h1 rfl
theorem RsAt.cc (h : RsAt w b s) : w.cell? ⟨b, 3, none⟩ = some (.int .i64 (s.c : Int)) := by obtain ⟨ad, c, h1, _⟩ := h.ex; exact hp_cell h1 rfl
/-- The slice of entries, and the last one's cells. -/
theorem RsAt.sl (h : RsAt w b s) : ∃ ad c, w.cell? ⟨b, 0, none⟩ = some (.slice (some ad) (s.R.length + 1) c) ∧ s.R.length + 1 ≤ c ∧ Rd w 3 (some ad) (s.R.length + 1) (cellsE s.all) ∧ ad.block ≠ b ∧ ad.block < w.heap.size ∧
    w.cell? (ad.add (s.R.length * 3)) = some (.int .i64 s.top.lv) ∧ w.cell? ⟨(ad.add (s.R.length * 3)).block, (ad.add (s.R.length * 3)).off + 1, none⟩ = some (.int .i64 s.top.ov) ∧ w.cell? ⟨(ad.add (s.R.length * 3)).block, (ad.add (s.R.length * 3)).off + 2, none⟩ = some (.bool s.top.is) := by
  obtain ⟨ad, c, h1, h2, h3, h4⟩ := h.ex
  obtain ⟨ad', e, hlt, hc⟩ := h3.2 (by omega)
  obtain rfl := Option.some.inj e
  have ht := cellsE_at s.all_top
  have e1 := hc _ _ ht.2.1
  have e2 := hc _ _ ht.2.2
  rw [addNext ad (s.R.length * 3) 0] at e1
  rw [addNext ad (s.R.length * 3) 1] at e2
  exact ⟨ad, c, hp_cell h1 rfl, h2, h3, h4.1, hlt, hc _ _ ht.1, e1, e2⟩
/-- An append onto a row of integers leaves the stack. -/
theorem RsAt.grown {row : Option Nat} (h : RsAt w b s) (hg : w.grownBy w' row) (hrow : ∀ x, row = some x → ∃ cs, w.heap[x]? = some (.cells cs 3 (0, 0))) : RsAt w' b s := by
  obtain ⟨ad, c, h1, h2, h3, h6, h7, cs, h8⟩ := h.ex
  obtain ⟨ad', e, hlt, hc⟩ := h3.2 (by omega)
  obtain rfl := Option.some.inj e
  have ne1 : row ≠ some b := fun e => by
    obtain ⟨cs', h9⟩ := hrow b e
    rw [h1] at h9
    cases h9
  have ne2 : row ≠ some ad.block := fun e => by
    obtain ⟨cs', h9⟩ := hrow _ e
    rw [h8] at h9
    cases h9
  have h10 := blk_grown h8 hg ne2
  refine ⟨⟨ad, c, blk_grown h1 hg ne1, h2, ⟨h3.1, fun _ => ⟨ad, rfl, Nat.lt_of_lt_of_le hlt hg.size, fun j u hu => ?_⟩⟩, h6, h7, cs, h10⟩, h.ris⟩
  have h5 := hc j u hu
  unfold World.cell? at h5 ⊢
  rw [show w'.heap[(ad.add j).block]? = w.heap[(ad.add j).block]? from by rw [blockAdd, h10, h8]]
  exact h5
theorem own_typ {e : TypeId} {base size n c g : Nat} {xs : List Value} (h : w.ownsRow base e size (.slice (some ⟨g, 0, none⟩) n c) n xs) : ∃ cs, w.heap[g]? = some (.cells cs e (0, 0)) := by
  rcases h.2 with ⟨h', _⟩ | ⟨g', cap', cur, h', _, hg, _⟩
  · simp at h'
  · simp only [Value.slice.injEq, Option.some.injEq, Addr.mk.injEq, and_true] at h'
    obtain ⟨rfl, _⟩ := h'
    exact ⟨cur, hg⟩
/-- The block of a row has its elements' type. -/
theorem own_row {e : TypeId} {base size n : Nat} {v : Value} {xs : List Value} (h : w.ownsRow base e size v n xs) : ∀ x, v.ownBlock = some x → ∃ cs, w.heap[x]? = some (.cells cs e (0, 0)) := by
  intro x hx
  rcases h.2 with ⟨rfl, _⟩ | ⟨g', cap', cur, rfl, _, hg, _⟩
  · cases hx
  · have : g' = x := by simpa [Value.ownBlock] using hx
    subst this
    exact ⟨cur, hg⟩
theorem RsAt.fits (h : RsAt w b s) : 0 ≤ s.top.lv ∧ s.top.lv ≤ 125 ∧ s.R.length < 126 := by
  have h1 := h.ris.top
  have h2 := h.ris.len
  have h3 := h.ris.2.2
  unfold Stk.len at h2
  omega
theorem RsAt.setN (h : RsAt w b s) (i : Nat) (v : Value) (t : Stk) (hR : t.R = s.R) (hbot : t.bot = s.bot) (hv : ∀ (ad : Addr) (c : Nat), (#[.slice (some ad) (s.R.length + 1) c, .int .i64 (s.a : Int), .int .i64 (s.b : Int), .int .i64 (s.c : Int)] : Array Value).setIfInBounds i v = #[.slice (some ad) (t.R.length + 1) c, .int .i64 (t.a : Int), .int .i64 (t.b : Int), .int .i64 (t.c : Int)]) : RsAt (w.setCell ⟨b, i, none⟩ v) b t := by
  obtain ⟨ad, c, h1, h2, h3, h4⟩ := h.ex
  have hall : t.all = s.all := by unfold Stk.all; rw [hR, hbot]
  refine ⟨⟨ad, c, by rw [heap_setCell_same w b i _ _ _ h1, hv], by rw [hR]; exact h2, ?_, h4.1, h4.2.1, h4.2.2.imp (fun cs h8 => by rw [hp_far h4.1]; exact h8)⟩, ?_⟩
  · rw [hR, hall]
    refine ⟨h3.1, fun hn => ?_⟩
    obtain ⟨ad', e, hlt, hc⟩ := h3.2 hn
    obtain rfl := Option.some.inj e
    refine ⟨ad, rfl, by simpa [World.setCell] using hlt, fun j u hu => ?_⟩
    rw [World.cell?_setCell_other w ⟨b, i, none⟩ (ad.add j) v (by intro e; apply h4.1; have := congrArg Addr.block e; rw [blockAdd] at this; exact this.symm)]
    exact hc j u hu
  · have hr := h.ris
    refine ⟨by rw [hR, hbot]; exact hr.1, by rw [hR, hbot]; exact hr.2.1, by rw [hbot]; exact hr.2.2⟩
theorem RsAt.setA (h : RsAt w b s) (x : Nat) : RsAt (w.setCell ⟨b, 1, none⟩ (.int .i64 (x : Int))) b { s with a := x } := h.setN 1 _ _ rfl rfl (fun _ _ => rfl)
theorem RsAt.setB (h : RsAt w b s) (x : Nat) : RsAt (w.setCell ⟨b, 2, none⟩ (.int .i64 (x : Int))) b { s with b := x } := h.setN 2 _ _ rfl rfl (fun _ _ => rfl)
theorem RsAt.setC (h : RsAt w b s) (x : Nat) : RsAt (w.setCell ⟨b, 3, none⟩ (.int .i64 (x : Int))) b { s with c := x } := h.setN 3 _ _ rfl rfl (fun _ _ => rfl)
/-- A new slice of entries is stored. -/
theorem RsAt.setL (h : RsAt w b s) {g c : Nat} {R : List Ent} (hr : Rd w 3 (some ⟨g, 0, none⟩) (R.length + 1) (cellsE (s.bot :: R.reverse))) (hc : R.length + 1 ≤ c) (hg : g ≠ b) (hg2 : b ≤ g + 1) (hg3 : ∃ cs, w.heap[g]? = some (.cells cs 36 (0, 0))) (hris : Rises { s with R := R }) : RsAt (w.setCell ⟨b, 0, none⟩ (.slice (some ⟨g, 0, none⟩) (R.length + 1) c)) b { s with R := R } := by
  obtain ⟨ad, c', h1, _, _, _⟩ := h.ex
  refine ⟨⟨⟨g, 0, none⟩, c, ?_, hc, ?_, hg, hg2, by obtain ⟨cs, h8⟩ := hg3; exact ⟨cs, by rw [hp_far hg]; exact h8⟩⟩, hris⟩
  · rw [heap_setCell_same w b 0 _ _ _ h1]; rfl
  · refine ⟨hr.1, fun hn => ?_⟩
    obtain ⟨ad', e, hlt, hcell⟩ := hr.2 hn
    obtain rfl := Option.some.inj e
    refine ⟨_, rfl, by simpa [World.setCell] using hlt, fun j u hu => ?_⟩
    rw [World.cell?_setCell_other w ⟨b, 0, none⟩ _ _ (by intro e; apply hg; have := congrArg Addr.block e; rw [blockAdd] at this; exact this.symm)]
    exact hcell j u hu
end
end Go.Proofs.Ytflbiblkphaagaa
