/- Texts of one claim, one behind the other. -/
import Derived.BigQuiet
import Derived.Test.YtaiefneimjdmhaaMgRo1
import Derived.Test.YtaiefneimjdmhaaMgRo2
/- Rows that lie in one another, in memory: each place is linked to the next one of its row. No function of the program. -/
namespace Go.Proofs.Ytaiefneimjdmhaa
open Go.RowKit

/-- Each place of a row is linked to the next one. -/
def TnC (N : List Int) : List Nat → Prop
  | [] => True
  | [_] => True
  | a :: b :: l => N[a]? = some (b : Int) ∧ TnC N (b :: l)
theorem TnC.set {N : List Int} {x : Nat} {y : Int} : ∀ {s : List Nat}, TnC N s → x ∉ s → TnC (N.set x y) s
  | [], _, _ => trivial
  | [_], _, _ => trivial
  | a :: b :: l, h, hx => by
    refine ⟨?_, TnC.set h.2 (by intro e; exact hx (List.mem_cons_of_mem _ e))⟩
    rw [List.getElem?_set_ne (by intro e; apply hx; rw [e]; simp)]
    exact h.1
theorem TnC.join {N : List Int} {y : Nat} {b : List Nat} : ∀ {a : List Nat} {x : Nat}, TnC N a → TnC N (y :: b) → (a ++ y :: b).Nodup → a.getLast? = some x → x < N.length → TnC (N.set x (y : Int)) (a ++ y :: b)
  | [], _, _, _, _, h, _ => by simp at h
  | [z], x, _, hb, hn, h, hl => by
    obtain rfl : z = x := by simpa using h
    refine ⟨by rw [List.getElem?_set_self (by simpa using hl)], hb.set ?_⟩
    simpa using (List.nodup_cons.1 hn).1
  | z :: c :: l, x, ha, hb, hn, h, hl => by
    have hn' := (List.nodup_cons.1 hn)
    have h' : (c :: l).getLast? = some x := by simpa using h
    refine ⟨?_, TnC.join ha.2 hb hn'.2 h' hl⟩
    rw [List.getElem?_set_ne]
    · exact ha.1
    · rintro rfl
      exact hn'.1 (List.mem_append_left _ (List.mem_of_getLast? h'))
theorem TnC.at_ {N : List Int} : ∀ {s : List Nat} {i a b : Nat}, TnC N s → s[i]? = some a → s[i + 1]? = some b → N[a]? = some (b : Int)
  | [], _, _, _, _, h, _ => by simp at h
  | [_], i, _, _, _, _, h => by simp at h
  | x :: y :: l, 0, a, b, h, h1, h2 => by
    obtain rfl : x = a := by simpa using h1
    obtain rfl : y = b := by simpa using h2
    exact h.1
  | x :: y :: l, i + 1, a, b, h, h1, h2 => TnC.at_ h.2 (by simpa using h1) (by simpa using h2)
/-- A row as the program holds it: its level, its first place and its last one. -/
def tnG (t : TnR Nat) : Rg := ((t.lev : Int), ((t.seq.headD 0 : Nat) : Int), ((t.seq.getLastD 0 : Nat) : Int))
def tnL (R : List (TnR Nat)) : List Rg := (R.map tnG).reverse
theorem tnL_len (R : List (TnR Nat)) : (tnL R).length = R.length := by simp [tnL]
theorem tnL_cons (t : TnR Nat) (R : List (TnR Nat)) : tnL (t :: R) = tnL R ++ [tnG t] := by simp [tnL]
theorem tnL_top (t : TnR Nat) (R : List (TnR Nat)) : (tnL (t :: R))[R.length]? = some (tnG t) := by
  rw [tnL_cons, List.getElem?_append_right (by rw [tnL_len]; exact Nat.le_refl _), tnL_len, Nat.sub_self]
  rfl
theorem tnL_next (t u : TnR Nat) (R : List (TnR Nat)) : (tnL (t :: u :: R))[R.length]? = some (tnG u) := by
  rw [tnL_cons, List.getElem?_append_left (by rw [tnL_len]; simp), tnL_top]
/-- Rows whose places are linked. -/
structure TnK (n : Nat) (N : List Int) (R : List (TnR Nat)) : Prop where
  len : N.length = n
  ne : ∀ t ∈ R, t.seq ≠ []
  lev : ∀ t ∈ R, t.lev ≤ 126
  chn : ∀ t ∈ R, TnC N t.seq
  dup : (R.flatMap (·.seq)).Nodup
  lt : ∀ x ∈ R.flatMap (·.seq), x < n
theorem tn_ends {s : List Nat} (h : s ≠ []) : ∃ x y l m, s = x :: l ∧ s = m ++ [y] ∧ s.headD 0 = x ∧ s.getLastD 0 = y ∧ s.getLast? = some y ∧ x ∈ s ∧ y ∈ s := by
  obtain ⟨x, l, rfl⟩ := List.exists_cons_of_ne_nil h
  refine ⟨x, (x :: l).getLast (by simp), l, (x :: l).dropLast, rfl, (List.dropLast_concat_getLast _).symm, rfl, ?_, List.getLast?_eq_some_getLast _, by simp, List.getLast_mem _⟩
  rw [List.getLastD_eq_getLast?, List.getLast?_eq_some_getLast (by simp)]
  rfl
section
variable {n : Nat} {N : List Int} {R : List (TnR Nat)} {t u : TnR Nat}
theorem TnK.drop (h : TnK n N (t :: R)) : TnK n N R where
  len := h.len
  ne := fun x hx => h.ne x (List.mem_cons_of_mem _ hx)
  lev := fun x hx => h.lev x (List.mem_cons_of_mem _ hx)
  chn := fun x hx => h.chn x (List.mem_cons_of_mem _ hx)
  dup := by have := h.dup; rw [List.flatMap_cons] at this; exact (List.nodup_append.1 this).2.1
  lt := fun x hx => h.lt x (by rw [List.flatMap_cons]; exact List.mem_append_right _ hx)
theorem TnK.low (h : TnK n N (t :: R)) {v : Nat} (hv : v ≤ 126) : TnK n N (⟨v, t.seq⟩ :: R) where
  len := h.len
  ne := fun x hx => by
    rcases List.mem_cons.1 hx with rfl | hx
    · exact h.ne t (by simp)
    · exact h.ne x (List.mem_cons_of_mem _ hx)
  lev := fun x hx => by
    rcases List.mem_cons.1 hx with rfl | hx
    · exact hv
    · exact h.lev x (List.mem_cons_of_mem _ hx)
  chn := fun x hx => by
    rcases List.mem_cons.1 hx with rfl | hx
    · exact h.chn t (by simp)
    · exact h.chn x (List.mem_cons_of_mem _ hx)
  dup := h.dup
  lt := h.lt
theorem TnK.push (h : TnK n N R) {x v : Nat} (hx : x ∉ R.flatMap (·.seq)) (hn : x < n) (hv : v ≤ 126) : TnK n N (⟨v, [x]⟩ :: R) where
  len := h.len
  ne := fun y hy => by
    rcases List.mem_cons.1 hy with rfl | hy
    · simp
    · exact h.ne y hy
  lev := fun y hy => by
    rcases List.mem_cons.1 hy with rfl | hy
    · exact hv
    · exact h.lev y hy
  chn := fun y hy => by
    rcases List.mem_cons.1 hy with rfl | hy
    · trivial
    · exact h.chn y hy
  dup := by
    rw [List.flatMap_cons]
    exact List.nodup_cons.2 ⟨hx, h.dup⟩
  lt := fun y hy => by
    rw [List.flatMap_cons] at hy
    rcases List.mem_cons.1 hy with rfl | hy
    · exact hn
    · exact h.lt y hy
/-- Which row is seen first of two that become one. -/
def tnA (u t : TnR Nat) : TnR Nat × TnR Nat := if u.lev % 2 = 1 then (t, u) else (u, t)
theorem tnA_join (u t : TnR Nat) : (u.join t).seq = (tnA u t).1.seq ++ (tnA u t).2.seq := by
  unfold TnR.join tnA
  simp only
  split <;> rfl
theorem tn_join_perm (u t : TnR Nat) (R : List (TnR Nat)) : ((u.join t :: R).flatMap (·.seq)).Perm ((t :: u :: R).flatMap (·.seq)) := by
  rw [List.flatMap_cons, List.flatMap_cons, List.flatMap_cons, ← List.append_assoc]
  refine List.Perm.append_right _ ?_
  unfold TnR.join
  simp only
  split
  · exact .refl _
  · exact List.perm_append_comm
theorem TnK.join (h : TnK n N (t :: u :: R)) : TnK n (N.set (((tnA u t).1.seq).getLastD 0) ((((tnA u t).2.seq).headD 0 : Nat) : Int)) (u.join t :: R) := by
  have hp := tn_join_perm u t R
  have hd := hp.nodup_iff.2 h.dup
  have ha : (tnA u t).1.seq ≠ [] ∧ TnC N (tnA u t).1.seq ∧ (tnA u t).2.seq ≠ [] ∧ TnC N (tnA u t).2.seq := by
    unfold tnA
    split
    · exact ⟨h.ne t (by simp), h.chn t (by simp), h.ne u (by simp), h.chn u (by simp)⟩
    · exact ⟨h.ne u (by simp), h.chn u (by simp), h.ne t (by simp), h.chn t (by simp)⟩
  obtain ⟨h1, h2, h3, h4⟩ := ha
  obtain ⟨x, y, l, m, e1, e2, e3, e4, e5, e6, e7⟩ := tn_ends h1
  obtain ⟨x', y', l', m', f1, f2, f3, f4, f5, f6, f7⟩ := tn_ends h3
  have hj := tnA_join u t
  have hyn : y < n := h.lt y (hp.mem_iff.1 (by rw [List.flatMap_cons, hj]; exact List.mem_append_left _ (List.mem_append_left _ e7)))
  rw [e4, f3]
  refine ⟨by rw [List.length_set]; exact h.len, ?_, ?_, ?_, hd, fun z hz => h.lt z (hp.mem_iff.1 hz)⟩
  · intro z hz
    rcases List.mem_cons.1 hz with rfl | hz
    · rw [hj]; simp [h1]
    · exact h.ne z (by simp [hz])
  · intro z hz
    rcases List.mem_cons.1 hz with rfl | hz
    · exact h.lev u (by simp)
    · exact h.lev z (by simp [hz])
  · intro z hz
    rw [List.flatMap_cons] at hd
    obtain ⟨hd1, hd2, hd3⟩ := List.nodup_append.1 hd
    rcases List.mem_cons.1 hz with rfl | hz
    · rw [hj, f1] at hd1 ⊢
      exact h2.join (by rw [f1] at h4; exact h4) hd1 e5 (by rw [h.len]; exact hyn)
    · refine (h.chn z (by simp [hz])).set ?_
      intro hy
      exact hd3 y (by rw [hj]; exact List.mem_append_left _ e7) y (List.mem_flatMap.2 ⟨z, hz, hy⟩) rfl
end
/-- A line's rows and links in memory. -/
structure LnAt (T E : TypeId) (X : Nat → Obj → Prop) (b g n : Nat) (R : List (TnR Nat)) (w0 w : World) : Prop where
  ex : ∃ (v : Value) (gN : Nat) (N : List Int), w.heap[g]? = some (.cells #[v, .slice (some ⟨gN, 0, none⟩) n n] T (0, 0)) ∧ w.ownsRow b E 3 v R.length (cellsG (tnL R)) ∧ w.ownsRow b 3 1 (.slice (some ⟨gN, 0, none⟩) n n) n (intsZ N) ∧ TnK n N R ∧ v.ownBlock ≠ some g ∧ gN ≠ g ∧ v.ownBlock ≠ some gN ∧ ∀ k o, X k o → w.heap[k]? = some o ∧ k ≠ g ∧ k ≠ gN ∧ v.ownBlock ≠ some k
  low : Below b w0 w
  le : b ≤ g
section
variable {T E : TypeId} {X : Nat → Obj → Prop} {b g n : Nat} {R : List (TnR Nat)} {w0 w w' : World} {t u : TnR Nat}
theorem LnAt.below (h : LnAt T E X b g n R w0 w) (hb : Below w.heap.size w w') : LnAt T E X b g n R w0 w' := by
  obtain ⟨v, gN, N, h1, h2, h3, h4, h5, h6, h7, h8⟩ := h.ex
  exact ⟨⟨v, gN, N, (hb.block g (hp_lt h1)).trans h1, own_below h2 hb, own_below h3 hb, h4, h5, h6, h7, fun k o hx => ⟨(hb.block k (hp_lt (h8 k o hx).1)).trans (h8 k o hx).1, (h8 k o hx).2⟩⟩, h.low.trans (hb.mono (Nat.le_trans h.le (Nat.le_of_lt (hp_lt h1)))), h.le⟩
theorem LnAt.drewN (h : LnAt T E X b g n R w0 w) (q : Nat) : LnAt T E X b g n R w0 (w.drewN q) := h.below (drewBelow q)
/-- The last row but k: where it lies. -/
theorem LnAt.row (h : LnAt T E X b g n R w0 w) {k : Nat} (hk : R[k]? = some t) : ∃ gR m c j, R.length = m ∧ m = j + k + 1 ∧ m ≤ c ∧ g < w.heap.size ∧ w.cell? ⟨g, 0, none⟩ = some (.slice (some ⟨gR, 0, none⟩) m c) ∧ w.frozen? ⟨g, 0, none⟩ = false ∧
    w.cell? ⟨gR, j * 3, none⟩ = some (.int .i64 (t.lev : Int)) ∧ w.frozen? ⟨gR, j * 3, none⟩ = false := by
  obtain ⟨v, gN, N, h1, h2, h3, h4, h5, h6, h7, h8⟩ := h.ex
  have hkl := (List.getElem?_eq_some_iff.1 hk).1
  obtain ⟨gR, cap, rfl, hbg, hlt⟩ := h2.form (by omega)
  obtain ⟨_, c', e, hnc⟩ := own_form h2
  injection e with _ _ e
  subst e
  obtain ⟨j, hj⟩ : ∃ j, R.length = j + k + 1 := ⟨R.length - 1 - k, by omega⟩
  have hjt : (tnL R)[j]? = some (tnG t) := by
    unfold tnL
    rw [List.getElem?_reverse (by rw [List.length_map]; omega), List.length_map, show R.length - 1 - j = k by omega, List.getElem?_map, hk]
    rfl
  have hc := (cellsG_at hjt).1
  have hjl := (List.getElem?_eq_some_iff.1 hjt).1
  rw [tnL_len] at hjl
  exact ⟨gR, R.length, cap, j, rfl, hj, hnc, hp_lt h1, hp_cell h1 rfl, hp_froz h1 0, by rw [h2.cellAt (j * 3) (by omega)]; exact hc, h2.frozenAt _⟩
end
theorem cellsG_app (a b : List Rg) : cellsG (a ++ b) = cellsG a ++ cellsG b := by simp [cellsG]
theorem cellsG_take (a b : List Rg) {p : Nat} (h : a.length = p) : (cellsG (a ++ b)).take (p * 3) = cellsG a := by
  rw [cellsG_app, List.take_append_of_le_length (by rw [cellsG_len, h]; exact Nat.le_refl _), ← h, ← cellsG_len, List.take_length]
theorem own_away {w : World} {base : Nat} {e : TypeId} {size : Nat} {v : Value} {n : Nat} {xs : List Value} {g : Nat} (h : w.ownsRow base e size v n xs) (hne : v.ownBlock ≠ some g) (j : Nat) (u : Value) : (w.setCell ⟨g, j, none⟩ u).ownsRow base e size v n xs := by
  refine h.kept (row := some g) (grown_set (World.grownBy.refl w _) j u) ?_
  cases hv : v.ownBlock with
  | none => exact .inl rfl
  | some k => exact .inr (fun e => hne (by rw [hv]; exact e))
/-- Two boxes of rows of the call's own. -/
structure BxTwo (E : TypeId) (w w' : World) (a b : Nat) (x y : Rg) : Prop where
  ha : w'.heap[a]? = some (.cells #[.int .i64 x.1, .int .i64 x.2.1, .int .i64 x.2.2] E (0, 0))
  hb : w'.heap[b]? = some (.cells #[.int .i64 y.1, .int .i64 y.2.1, .int .i64 y.2.2] E (0, 0))
  ne : a ≠ b
  la : w.heap.size ≤ a
  lb : w.heap.size ≤ b
  low : Below w.heap.size w w'
theorem bxTwo_ab (E : TypeId) (w : World) (x y : Rg) : BxTwo E w ((w.alloc (.cells #[.int .i64 x.1, .int .i64 x.2.1, .int .i64 x.2.2] E)).alloc (.cells #[.int .i64 y.1, .int .i64 y.2.1, .int .i64 y.2.2] E)).drew w.heap.size (w.heap.size + 1) x y where
  ha := by
    rw [show ((w.alloc (.cells #[.int .i64 x.1, .int .i64 x.2.1, .int .i64 x.2.2] E)).alloc (.cells #[.int .i64 y.1, .int .i64 y.2.1, .int .i64 y.2.2] E)).drew.heap = ((w.alloc (.cells #[.int .i64 x.1, .int .i64 x.2.1, .int .i64 x.2.2] E)).alloc (.cells #[.int .i64 y.1, .int .i64 y.2.1, .int .i64 y.2.2] E)).heap from rfl, heap_alloc_old (h := by simp)]
    exact heap_alloc_new w _
  hb := by
    have h1 := heap_alloc_new (w.alloc (.cells #[.int .i64 x.1, .int .i64 x.2.1, .int .i64 x.2.2] E)) (.cells #[.int .i64 y.1, .int .i64 y.2.1, .int .i64 y.2.2] E)
    rw [World.size_alloc] at h1
    exact h1
  ne := by omega
  la := Nat.le_refl _
  lb := by omega
  low := (((Below.refl _ _).alloc (Nat.le_refl _) _).alloc (by simp) _).drew
theorem BxTwo.turn {E : TypeId} {w w' : World} {a b : Nat} {x y : Rg} (h : BxTwo E w w' a b x y) : BxTwo E w w' b a y x := ⟨h.hb, h.ha, h.ne.symm, h.lb, h.la, h.low⟩
/-- A line while two of its rows become one. -/
structure JnSt (T E : TypeId) (X : Nat → Obj → Prop) (b g n gN gR m c gl gr : Nat) (L : List Rg) (N : List Int) (x y : Rg) (w0 w : World) : Prop where
  box : w.heap[g]? = some (.cells #[.slice (some ⟨gR, 0, none⟩) m c, .slice (some ⟨gN, 0, none⟩) n n] T (0, 0))
  rows : w.ownsRow b E 3 (.slice (some ⟨gR, 0, none⟩) m c) m (cellsG L)
  next : w.ownsRow b 3 1 (.slice (some ⟨gN, 0, none⟩) n n) n (intsZ N)
  ha : w.heap[gl]? = some (.cells #[.int .i64 x.1, .int .i64 x.2.1, .int .i64 x.2.2] E (0, 0))
  hb : w.heap[gr]? = some (.cells #[.int .i64 y.1, .int .i64 y.2.1, .int .i64 y.2.2] E (0, 0))
  low : Below b w0 w
  le : b ≤ g ∧ b ≤ gN ∧ b ≤ gR ∧ b ≤ gl ∧ b ≤ gr
  ne : gR ≠ g ∧ gN ≠ g ∧ gR ≠ gN ∧ gl ≠ gr ∧ gl ≠ g ∧ gl ≠ gN ∧ gl ≠ gR ∧ gr ≠ g ∧ gr ≠ gN ∧ gr ≠ gR
  xt : ∀ k o, X k o → w.heap[k]? = some o ∧ k ≠ g ∧ k ≠ gN ∧ k ≠ gR ∧ k ≠ gl ∧ k ≠ gr
section
variable {T E : TypeId} {X : Nat → Obj → Prop} {b g n gN gR m c gl gr : Nat} {L : List Rg} {N : List Int} {x y : Rg} {w0 w : World}
theorem JnSt.drewN (h : JnSt T E X b g n gN gR m c gl gr L N x y w0 w) (q : Nat) : JnSt T E X b g n gN gR m c gl gr L N x y w0 (w.drewN q) := ⟨h.box, own_below h.rows (drewBelow q), own_below h.next (drewBelow q), h.ha, h.hb, below_drewN h.low q, h.le, h.ne, h.xt⟩
theorem JnSt.drew (h : JnSt T E X b g n gN gR m c gl gr L N x y w0 w) : JnSt T E X b g n gN gR m c gl gr L N x y w0 w.drew := h.drewN 1
theorem slice_block {g' g n c : Nat} (h : g' ≠ g) : (Value.slice (some ⟨g', 0, none⟩) n c).ownBlock ≠ some g := fun e => h (by injection e)
theorem JnSt.setN (h : JnSt T E X b g n gN gR m c gl gr L N x y w0 w) (a : Nat) (f : Int) : JnSt T E X b g n gN gR m c gl gr L (N.set a f) x y w0 (w.setCell ⟨gN, a, none⟩ (.int .i64 f)) := by
  obtain ⟨n1, n2, n3, n4, n5, n6, n7, n8, n9, n10⟩ := h.ne
  refine ⟨(hp_far (fun e => n2 e.symm) _ _).trans h.box, own_away h.rows (slice_block n3) _ _, ?_, (hp_far n6 _ _).trans h.ha, (hp_far n9 _ _).trans h.hb, h.low.setCell (p := ⟨gN, a, none⟩) h.le.2.1 _, h.le, h.ne, fun k o hx => ⟨(hp_far (h.xt k o hx).2.2.1 _ _).trans (h.xt k o hx).1, (h.xt k o hx).2⟩⟩
  rw [intsZ_set]
  exact (h.next.stored a (.int .i64 f)).1
theorem JnSt.cellR (h : JnSt T E X b g n gN gR m c gl gr L N x y w0 w) {k : Nat} {u : Value} (hu : (cellsG L)[k]? = some u) : w.cell? ⟨gR, k, none⟩ = some u ∧ w.frozen? ⟨gR, k, none⟩ = false := by
  refine ⟨?_, h.rows.frozenAt _⟩
  have hk := (List.getElem?_eq_some_iff.1 hu).1
  rw [h.rows.cellAt k (by rw [← h.rows.1]; exact hk)]
  exact hu
theorem JnSt.putR (h : JnSt T E X b g n gN gR m c gl gr L N x y w0 w) (k : Nat) (z : Rg) (hk : k < L.length) : JnSt T E X b g n gN gR m c gl gr (L.set k z) N x y w0 (putG w gR k z) := by
  obtain ⟨n1, n2, n3, n4, n5, n6, n7, n8, n9, n10⟩ := h.ne
  unfold putG
  have hf : ∀ {q : Nat} {o : Obj}, gR ≠ q → w.heap[q]? = some o → (((w.setCell ⟨gR, k * 3, none⟩ (.int .i64 z.1)).setCell ⟨gR, k * 3 + 1, none⟩ (.int .i64 z.2.1)).setCell ⟨gR, k * 3 + 2, none⟩ (.int .i64 z.2.2)).heap[q]? = some o := fun hq ho => by rw [hp_far hq.symm, hp_far hq.symm, hp_far hq.symm]; exact ho
  refine ⟨hf n1 h.box, ?_, own_away (own_away (own_away h.next (slice_block n3.symm) _ _) (slice_block n3.symm) _ _) (slice_block n3.symm) _ _, hf n7.symm h.ha, hf n10.symm h.hb, below_putG h.low h.le.2.2.1 z, h.le, h.ne, fun k o hx => ⟨hf (h.xt k o hx).2.2.2.1.symm (h.xt k o hx).1, (h.xt k o hx).2⟩⟩
  have := (((h.rows.stored (k * 3) (.int .i64 z.1)).1.stored (k * 3 + 1) (.int .i64 z.2.1)).1.stored (k * 3 + 2) (.int .i64 z.2.2)).1
  rw [cellsG_set hk] at this
  exact this
theorem box3_put {w : World} {q : Nat} {x y : Rg} (h : w.heap[q]? = some (.cells #[.int .i64 x.1, .int .i64 x.2.1, .int .i64 x.2.2] E (0, 0))) : (((w.setCell ⟨q, 0, none⟩ (.int .i64 y.1)).setCell ⟨q, 1, none⟩ (.int .i64 y.2.1)).setCell ⟨q, 2, none⟩ (.int .i64 y.2.2)).heap[q]? = some (.cells #[.int .i64 y.1, .int .i64 y.2.1, .int .i64 y.2.2] E (0, 0)) := by
  have h1 := heap_setCell_same w q 0 _ E (.int .i64 y.1) h
  have h2 := heap_setCell_same _ q 1 _ E (.int .i64 y.2.1) h1
  have h3 := heap_setCell_same _ q 2 _ E (.int .i64 y.2.2) h2
  exact h3
def put3 (w : World) (q : Nat) (y : Rg) : World := ((w.setCell ⟨q, 0, none⟩ (.int .i64 y.1)).setCell ⟨q, 1, none⟩ (.int .i64 y.2.1)).setCell ⟨q, 2, none⟩ (.int .i64 y.2.2)
theorem JnSt.swap (h : JnSt T E X b g n gN gR m c gl gr L N x y w0 w) : JnSt T E X b g n gN gR m c gl gr L N y x w0 (put3 (put3 w gl y) gr x) := by
  obtain ⟨n1, n2, n3, n4, n5, n6, n7, n8, n9, n10⟩ := h.ne
  have hf : ∀ {q k : Nat} {o : Obj} {w : World} {z : Rg}, q ≠ k → w.heap[k]? = some o → (put3 w q z).heap[k]? = some o := fun hq ho => by unfold put3; rw [hp_far hq.symm, hp_far hq.symm, hp_far hq.symm]; exact ho
  have ho : ∀ {q : Nat} {w : World} {z : Rg} {base : Nat} {e : TypeId} {size : Nat} {v : Value} {n : Nat} {xs : List Value}, v.ownBlock ≠ some q → w.ownsRow base e size v n xs → (put3 w q z).ownsRow base e size v n xs := fun hq h => own_away (own_away (own_away h hq _ _) hq _ _) hq _ _
  have hl : ∀ {q : Nat} {w : World} {z : Rg}, b ≤ q → Below b w0 w → Below b w0 (put3 w q z) := fun {q w z} hq h => ((h.setCell (p := ⟨q, 0, none⟩) hq _).setCell (p := ⟨q, 1, none⟩) hq _).setCell (p := ⟨q, 2, none⟩) hq _
  refine ⟨hf n8 (hf n5 h.box), ho (slice_block n10.symm) (ho (slice_block n7.symm) h.rows), ho (slice_block n9.symm) (ho (slice_block n6.symm) h.next), hf n4.symm (box3_put h.ha), box3_put (hf n4 h.hb), hl h.le.2.2.2.2 (hl h.le.2.2.2.1 h.low), h.le, h.ne, fun k o hx => ⟨hf (h.xt k o hx).2.2.2.2.2.symm (hf (h.xt k o hx).2.2.2.2.1.symm (h.xt k o hx).1), (h.xt k o hx).2⟩⟩
theorem JnSt.fin (h : JnSt T E X b g n gN gR m c gl gr L N x y w0 w) {R : List (TnR Nat)} {q : Nat} (hq : R.length = q) (hqm : q ≤ m) (hL : (cellsG L).take (q * 3) = cellsG (tnL R)) (hk : TnK n N R) : LnAt T E X b g n R w0 (w.setCell ⟨g, 0, none⟩ (.slice (some ⟨gR, 0, none⟩) q c)) := by
  obtain ⟨n1, n2, n3, n4, n5, n6, n7, n8, n9, n10⟩ := h.ne
  subst hq
  have h1 := headM h.rows hqm
  rw [hL] at h1
  refine ⟨⟨.slice (some ⟨gR, 0, none⟩) R.length c, gN, N, ?_, own_away h1 (slice_block n1) _ _, own_away h.next (slice_block n2) _ _, hk, slice_block n1, n2, slice_block n3, fun k o hx => ⟨(hp_far (h.xt k o hx).2.1 _ _).trans (h.xt k o hx).1, (h.xt k o hx).2.1, (h.xt k o hx).2.2.1, slice_block (h.xt k o hx).2.2.2.1.symm⟩⟩, h.low.setCell (p := ⟨g, 0, none⟩) h.le.1 _, h.le.1⟩
  exact heap_setCell_same w g 0 _ T _ h.box
end
theorem TnK.last_lt {n : Nat} {N : List Int} {R : List (TnR Nat)} (h : TnK n N R) {t : TnR Nat} (ht : t ∈ R) : t.seq.getLastD 0 < n := by
  obtain ⟨x, y, l, m, e1, e2, e3, e4, e5, e6, e7⟩ := tn_ends (h.ne t ht)
  rw [e4]
  exact h.lt y (List.mem_flatMap.2 ⟨t, ht, e7⟩)
theorem tnG_join {n : Nat} {N : List Int} {R : List (TnR Nat)} {t u : TnR Nat} (h : TnK n N (t :: u :: R)) : tnG (u.join t) = ((u.lev : Int), (((tnA u t).1.seq.headD 0 : Nat) : Int), (((tnA u t).2.seq.getLastD 0 : Nat) : Int)) := by
  have ha : (tnA u t).1.seq ≠ [] ∧ (tnA u t).2.seq ≠ [] := by
    unfold tnA
    split
    · exact ⟨h.ne t (by simp), h.ne u (by simp)⟩
    · exact ⟨h.ne u (by simp), h.ne t (by simp)⟩
  obtain ⟨x, y, l, m, e1, e2, e3, e4, e5, e6, e7⟩ := tn_ends ha.1
  obtain ⟨x', y', l', m', f1, f2, f3, f4, f5, f6, f7⟩ := tn_ends ha.2
  unfold tnG
  rw [tnA_join, e3, f4]
  have e : ((tnA u t).1.seq ++ (tnA u t).2.seq).headD 0 = x := by rw [e1]; rfl
  have f : ((tnA u t).1.seq ++ (tnA u t).2.seq).getLastD 0 = y' := by rw [f2, ← List.append_assoc]; simp
  rw [e, f]
  rfl
theorem tnL_put {t u : TnR Nat} {R : List (TnR Nat)} {z : Rg} {r p : Nat} (hr : R.length = r) (hp : r + 1 = p) : (cellsG ((tnL (t :: u :: R)).set r z)).take (p * 3) = cellsG (tnL R ++ [z]) := by
  have e : (tnL (t :: u :: R)).set r z = (tnL R ++ [z]) ++ [tnG t] := by
    rw [tnL_cons, tnL_cons, List.append_assoc, List.set_append_right _ _ (by rw [tnL_len]; omega), tnL_len, hr, Nat.sub_self]
    simp
  rw [e, cellsG_take _ _ (by rw [List.length_append, tnL_len]; simpa [hr] using hp)]
section
variable {T E : TypeId} {X : Nat → Obj → Prop} {b g n : Nat} {R : List (TnR Nat)} {w0 w w' : World} {t u : TnR Nat}
/-- The last row's level is set. -/
theorem LnAt.top (h : LnAt T E X b g n (t :: R) w0 w) : ∃ gR m c, R.length + 1 = m ∧ m ≤ c ∧ g < w.heap.size ∧ w.cell? ⟨g, 0, none⟩ = some (.slice (some ⟨gR, 0, none⟩) m c) ∧ w.frozen? ⟨g, 0, none⟩ = false ∧
    w.cell? ⟨gR, R.length * 3, none⟩ = some (.int .i64 (t.lev : Int)) ∧ w.frozen? ⟨gR, R.length * 3, none⟩ = false ∧ ∀ v : Nat, v ≤ 126 → LnAt T E X b g n (⟨v, t.seq⟩ :: R) w0 (w.setCell ⟨gR, R.length * 3, none⟩ (.int .i64 (v : Int))) := by
  obtain ⟨v, gN, N, h1, h2, h3, h4, h5, h6, h7, h8⟩ := h.ex
  obtain ⟨gR, cap, rfl, hbg, hlt⟩ := h2.form (by simp)
  obtain ⟨_, c', e, hnc⟩ := own_form h2
  injection e with _ _ e
  subst e
  have hn1 : gR ≠ g := fun e => h5 (by rw [e]; rfl)
  have hn2 : gR ≠ gN := fun e => h7 (by rw [e]; rfl)
  have hjt := tnL_top t R
  have hc := (cellsG_at hjt).1
  refine ⟨gR, R.length + 1, cap, rfl, hnc, hp_lt h1, hp_cell h1 rfl, hp_froz h1 0, by rw [h2.cellAt (R.length * 3) (by simp only [List.length_cons]; omega)]; exact hc, h2.frozenAt _, fun v hv => ?_⟩
  refine ⟨⟨_, gN, N, (hp_far hn1.symm _ _).trans h1, ?_, own_away h3 (slice_block hn2.symm) _ _, h4.low hv, h5, h6, h7, fun k o hx => ?_⟩, h.low.setCell (p := ⟨gR, R.length * 3, none⟩) hbg _, h.le⟩
  · have h9 := (h2.stored (R.length * 3) (.int .i64 (v : Int))).1
    have e : (cellsG (tnL (t :: R))).set (R.length * 3) (.int .i64 (v : Int)) = cellsG (tnL (⟨v, t.seq⟩ :: R)) := by
      rw [tnL_cons, tnL_cons, cellsG_app, cellsG_app, List.set_append_right _ _ (by rw [cellsG_len, tnL_len]; exact Nat.le_refl _), cellsG_len, tnL_len, Nat.sub_self]
      rfl
    rw [e] at h9
    exact h9
  · obtain ⟨x1, x2, x3, x4⟩ := h8 k o hx
    exact ⟨(hp_far (fun e => x4 (by rw [e]; rfl)) _ _).trans x1, x2, x3, x4⟩
/-- How many rows a line has. -/
theorem LnAt.len (h : LnAt T E X b g n R w0 w) : ∃ v c, w.cell? ⟨g, 0, none⟩ = some (.slice v R.length c) ∧ R.length ≤ c ∧ g < w.heap.size ∧ w.frozen? ⟨g, 0, none⟩ = false := by
  obtain ⟨v, gN, N, h1, h2, h3, h4, h5, h6, h7, h8⟩ := h.ex
  obtain ⟨A, c', rfl, hnc⟩ := own_form h2
  exact ⟨A, c', hp_cell h1 rfl, hnc, hp_lt h1, hp_froz h1 0⟩
theorem LnAt.extra (h : LnAt T E X b g n R w0 w) {k : Nat} {o : Obj} (hx : X k o) : w.heap[k]? = some o := by
  obtain ⟨v, gN, N, h1, h2, h3, h4, h5, h6, h7, h8⟩ := h.ex
  exact (h8 k o hx).1
/-- A box of the caller's own is kept, too. -/
theorem LnAt.more (h : LnAt T E X b g n R w0 w) {Y : Nat → Obj → Prop} (hb : Below w.heap.size w w') (hy : ∀ k o, Y k o → X k o ∨ (w.heap.size ≤ k ∧ w'.heap[k]? = some o)) : LnAt T E Y b g n R w0 w' := by
  have h' := h.below hb
  obtain ⟨v, gN, N, h1, h2, h3, h4, h5, h6, h7, h8⟩ := h.ex
  refine ⟨⟨v, gN, N, (hb.block g (hp_lt h1)).trans h1, own_below h2 hb, own_below h3 hb, h4, h5, h6, h7, fun k o hk => ?_⟩, h'.low, h.le⟩
  rcases hy k o hk with hx | ⟨hx, ho⟩
  · exact ⟨(hb.block k (hp_lt (h8 k o hx).1)).trans (h8 k o hx).1, (h8 k o hx).2⟩
  · have hg := hp_lt h1
    have hgN := (h3.lt gN rfl).2
    exact ⟨ho, by omega, by omega, fun e => by have := (h2.lt k e).2; omega⟩
theorem LnAt.less (h : LnAt T E X b g n R w0 w) {Y : Nat → Obj → Prop} (hy : ∀ k o, Y k o → X k o) : LnAt T E Y b g n R w0 w := h.more (Below.refl _ _) fun k o hk => .inl (hy k o hk)
end
/-- A row ends, or lies in one of less level. -/
def tnLow {α : Type} (v : Nat) (t : TnR α) : List (TnR α) → List (TnR α)
  | [] => [⟨v, t.seq⟩]
  | u :: R => if v ≤ u.lev then u.join t :: R else ⟨v, t.seq⟩ :: u :: R
theorem tnPop_stay {α : Type} {v : Nat} {t : TnR α} {R : List (TnR α)} (h : ¬ v < t.lev) : tnPop v t R = t :: R := by
  cases R with
  | nil => rw [tnPop, if_neg h]
  | cons u R => rw [tnPop, if_neg h]
theorem tnLow_pop {α : Type} {v : Nat} {t : TnR α} {R : List (TnR α)} (h : v < t.lev) : ∃ t2 R2, tnLow v t R = t2 :: R2 ∧ tnPop v t2 R2 = tnPop v t R ∧ R2.length ≤ R.length ∧ (R2.length < R.length ∨ ¬ v < t2.lev) := by
  cases R with
  | nil =>
    refine ⟨⟨v, t.seq⟩, [], rfl, ?_, Nat.le_refl _, .inr (by simp)⟩
    rw [tnPop, tnPop, if_pos h, if_neg (by simp)]
  | cons u R =>
    rw [tnLow]
    by_cases hu : v ≤ u.lev
    · rw [if_pos hu]
      exact ⟨_, R, rfl, by rw [tnPop, if_pos h, if_pos hu], by simp, .inl (by simp)⟩
    · rw [if_neg hu]
      exact ⟨_, _, rfl, by rw [tnPop_stay (by simp), tnPop, if_pos h, if_neg hu], Nat.le_refl _, .inr (by simp)⟩
end Go.Proofs.Ytaiefneimjdmhaa
/- runs.line's level, walked. -/
namespace Go.Proofs.Ytaiefneimjdmhaa
open Go.RowKit
set_option maxRecDepth 100000 in
set_option maxHeartbeats 1000000 in
theorem ruLevel_any (X : Nat → Obj → Prop) (b g n : Nat) (R : List (TnR Nat)) (w0 w : World) (h : LnAt 62 65 X b g n R w0 w) (k : Nat) (t : TnR Nat) (hk : R[k]? = some t) (hm : R.length ≤ 100002) :
    Calls Try.prog 53 #[.pointer (some ⟨g, 0, none⟩), .int .i64 (k : Int)] w fun e w' => e = .returned (.int .i64 (t.lev : Int)) ∧ ∃ q, w' = w.drewN q := by
  obtain ⟨gR, m, c, j, hRm, hmj, hmc, hgs, c0, f0, c1, f1⟩ := h.row hk
  rw [hRm] at hm
  obtain ⟨lv, hlv⟩ : ∃ lv : Int, (t.lev : Int) = lv := ⟨_, rfl⟩
  rw [hlv] at c1 ⊢
  have i1 : (m : Int) - 1 - (k : Int) = (j : Int) := by omega
  have i2 : (0 : Int) ≤ (j : Int) := by omega
  have i3 : (j : Int) < (m : Int) := by omega
  have i4 : (m : Int) ≤ 100002 := by omega
  have i5 : (k : Int) ≤ 100002 := by omega
  clear h hk hRm hmj hlv
  go_enter Try.func53, Try.ntmps53
  go_wp2
  go_quiet (fail)
  go_wp2
  go_ret
  exact ⟨rfl, _, rfl⟩
end Go.Proofs.Ytaiefneimjdmhaa
/- Rows that lie in one another, in memory: a row follows. No function of the program. -/
namespace Go.Proofs.Ytaiefneimjdmhaa
open Go.RowKit

theorem rdNewT (w : World) (x y z : Value) (t : TypeId) : Rd (w.alloc (.cells #[x, y, z] t)) 3 (some ⟨w.heap.size, 0, none⟩) 1 [x, y, z] := ⟨rfl, fun _ => ⟨_, rfl, by simp, cells_new w [x, y, z] t⟩⟩
/-- A row follows: where the row of rows lies, and what holds behind its append and its store. -/
theorem LnAt.grow {T E : TypeId} {X : Nat → Obj → Prop} {b g n : Nat} {R : List (TnR Nat)} {w0 w : World} (h : LnAt T E X b g n R w0 w) : ∃ A c, R.length ≤ c ∧ g < w.heap.size ∧ b ≤ w.heap.size ∧ w.cell? ⟨g, 0, none⟩ = some (.slice A R.length c) ∧ w.ownsRow b E 3 (.slice A R.length c) R.length (cellsG (tnL R)) ∧
    ∀ (w1 w2 : World) (v' : Value) (x lv : Nat), Below w.heap.size w w1 → w1.grownBy w2 (Value.slice A R.length c).ownBlock → w2.ownsRow b E 3 v' (R.length + 1) (cellsG (tnL R) ++ [.int .i64 (lv : Int), .int .i64 (x : Int), .int .i64 (x : Int)]) → (v'.ownBlock = (Value.slice A R.length c).ownBlock ∨ v'.ownBlock = some w1.heap.size) → x ∉ R.flatMap (·.seq) → x < n → lv ≤ 126 →
      w2.cell? ⟨g, 0, none⟩ = some (.slice A R.length c) ∧ w2.frozen? ⟨g, 0, none⟩ = false ∧ LnAt T E X b g n (⟨lv, [x]⟩ :: R) w0 (w2.setCell ⟨g, 0, none⟩ v') := by
  obtain ⟨v, gN, N, h1, h2, h3, h4, h5, h6, h7, h8⟩ := h.ex
  obtain ⟨A, c, rfl, hnc⟩ := own_form h2
  have hgs := hp_lt h1
  have hbs : b ≤ w.heap.size := Nat.le_trans h.le (Nat.le_of_lt hgs)
  refine ⟨A, c, hnc, hgs, hbs, hp_cell h1 rfl, h2, fun w1 w2 v' x lv hb hg hown hat hx hxn hlv => ?_⟩
  have b1 : w2.heap[g]? = _ := blk_grown ((hb.block g hgs).trans h1) hg h5
  have hne : ∀ k, k < w.heap.size → (Value.slice A R.length c).ownBlock ≠ some k → v'.ownBlock ≠ some k := fun k hk hne e => by
    rcases hat with e1 | e1
    · exact hne (e1.symm.trans e)
    · rw [e1] at e
      have := hb.size
      have : w1.heap.size = k := by simpa using e
      omega
  have hgN := (h3.lt gN rfl).2
  have o1 : w1.ownsRow b E 3 (.slice A R.length c) R.length (cellsG (tnL R)) := own_below h2 hb
  refine ⟨hp_cell b1 rfl, hp_froz b1 0, ⟨⟨v', gN, N, heap_setCell_same w2 g 0 _ T _ b1, ?_, own_away ((own_below h3 hb).kept hg ?_) (slice_block h6) _ _, h4.push hx hxn hlv, hne g hgs h5, h6, hne gN hgN h7, fun k o hk => ?_⟩, ?_, h.le⟩⟩
  · have := own_away (g := g) hown (hne g hgs h5) 0 v'
    rw [tnL_cons, cellsG_snoc]
    exact this
  · exact .inr (fun e => h7 (by rw [← e]; rfl))
  · obtain ⟨x1, x2, x3, x4⟩ := h8 k o hk
    exact ⟨(hp_far x2 _ _).trans (blk_grown ((hb.block k (hp_lt x1)).trans x1) hg x4), x2, x3, hne k (hp_lt x1) x4⟩
  · exact (below_app (h.low.trans (hb.mono hbs)) hg o1 (Nat.le_trans hbs hb.size)).setCell (p := ⟨g, 0, none⟩) h.le _
theorem tnLow_perm {v : Nat} {t : TnR Nat} {R : List (TnR Nat)} : ((tnLow v t R).flatMap (·.seq)).Perm ((t :: R).flatMap (·.seq)) := by
  cases R with
  | nil => exact .refl _
  | cons u R =>
    rw [tnLow]
    split
    · exact tn_join_perm u t R
    · exact .refl _
/-- How many rounds are to come. -/
def tnCnt (v : Nat) : List (TnR Nat) → Nat
  | [] => 0
  | t :: R => R.length + if v < t.lev then 1 else 0
theorem tnCnt_low {v : Nat} {t : TnR Nat} {R : List (TnR Nat)} (h : v < t.lev) : tnCnt v (tnLow v t R) < tnCnt v (t :: R) := by
  obtain ⟨t2, R2, e, _, h1, h2⟩ := tnLow_pop (R := R) h
  rw [e, tnCnt, tnCnt, if_pos h]
  rcases h2 with h2 | h2
  · split <;> omega
  · rw [if_neg h2]; omega
theorem tnPut_low {v x : Nat} {t : TnR Nat} {R : List (TnR Nat)} (h : v < t.lev) : tnPut ⟨v, [x]⟩ (tnLow v t R) = tnPut ⟨v, [x]⟩ (t :: R) := by
  obtain ⟨t2, R2, e, h1, _⟩ := tnLow_pop (R := R) h
  rw [e, tnPut, tnPut]
  simp only
  rw [h1]
theorem tnPut_top {v x : Nat} {t : TnR Nat} {R : List (TnR Nat)} (h : ¬ v < t.lev) : tnPut ⟨v, [x]⟩ (t :: R) = tnTop ⟨v, [x]⟩ (t :: R) := by
  rw [tnPut, tnPop_stay h]
theorem tnLow_len {v : Nat} {t : TnR Nat} {R : List (TnR Nat)} : (tnLow v t R).length ≤ (t :: R).length := by
  cases R with
  | nil => simp [tnLow]
  | cons u R => rw [tnLow]; split <;> simp
/-- The links in memory, and the one row's first place. -/
theorem LnAt.links {T E : TypeId} {X : Nat → Obj → Prop} {b g n : Nat} {R : List (TnR Nat)} {w0 w : World} (h : LnAt T E X b g n R w0 w) : ∃ gN N, w.cell? ⟨g, 1, none⟩ = some (.slice (some ⟨gN, 0, none⟩) n n) ∧ TnK n N R ∧ gN < w.heap.size ∧ g < w.heap.size ∧ ∀ (k : Nat) (z : Int), N[k]? = some z → w.cell? ⟨gN, k, none⟩ = some (.int .i64 z) := by
  obtain ⟨v, gN, N, h1, h2, h3, h4, h5, h6, h7, h8⟩ := h.ex
  refine ⟨gN, N, hp_cell h1 rfl, h4, (h3.lt gN rfl).2, hp_lt h1, fun k z hz => ?_⟩
  rw [h3.cellAt k (by have := (List.getElem?_eq_some_iff.1 hz).1; rw [h4.len] at this; omega)]
  unfold intsZ
  rw [List.getElem?_map, hz]
  rfl
theorem LnAt.first {T E : TypeId} {X : Nat → Obj → Prop} {b g n : Nat} {t : TnR Nat} {w0 w : World} (h : LnAt T E X b g n [t] w0 w) : ∃ gR c, 1 ≤ c ∧ w.cell? ⟨g, 0, none⟩ = some (.slice (some ⟨gR, 0, none⟩) 1 c) ∧ gR < w.heap.size ∧ w.cell? ⟨gR, 1, none⟩ = some (.int .i64 ((t.seq.headD 0 : Nat) : Int)) := by
  obtain ⟨v, gN, N, h1, h2, h3, h4, h5, h6, h7, h8⟩ := h.ex
  obtain ⟨gR, cap, rfl, hbg, hlt⟩ := h2.form (by simp)
  obtain ⟨_, c', e, hnc⟩ := own_form h2
  injection e with _ _ e
  subst e
  have hc := (cellsG_at (tnL_top t [])).2.1
  simp only [List.length_nil, Nat.zero_mul, Nat.zero_add] at hc
  exact ⟨gR, cap, hnc, hp_cell h1 rfl, hlt, by rw [h2.cellAt 1 (by simp)]; exact hc⟩
/-- A line without rows. -/
theorem LnAt.none_ {T E : TypeId} {X : Nat → Obj → Prop} {b g n : Nat} {w0 w : World} (h : LnAt T E X b g n [] w0 w) : ∃ v c, w.cell? ⟨g, 0, none⟩ = some (.slice v 0 c) := by
  obtain ⟨v, c, h1, _⟩ := h.len
  exact ⟨v, c, h1⟩
/-- Places as they are told: so many of a row, then noughts. -/
def seenV (s : List Nat) (k n : Nat) : List Value := natV (s.take k) ++ List.replicate (n - k) (.int .i64 0)
theorem seenV_zero (s : List Nat) (n : Nat) : seenV s 0 n = List.replicate n (.int .i64 0) := by simp [seenV, natV]
theorem seenV_all {s : List Nat} {n : Nat} (h : s.length = n) : seenV s n n = natV s := by simp [seenV, ← h]
theorem seenV_set {s : List Nat} {k n a : Nat} (h : s[k]? = some a) (hk : k < n) : (seenV s k n).set k (.int .i64 (a : Int)) = seenV s (k + 1) n := by
  have hl := (List.getElem?_eq_some_iff.1 h).1
  unfold seenV
  rw [List.set_append_right _ _ (by rw [natV_len, List.length_take]; omega), natV_len, List.length_take, Nat.min_eq_left (by omega), Nat.sub_self]
  obtain ⟨d, hd⟩ : ∃ d, n - k = d + 1 := ⟨n - k - 1, by omega⟩
  rw [hd, show n - (k + 1) = d by omega, List.replicate_succ, List.set_cons_zero, List.take_add_one, h]
  simp [natV]
end Go.Proofs.Ytaiefneimjdmhaa
/- The least odd level of runs. No function of the program. -/
namespace Go.Proofs.Ytaiefneimjdmhaa
open Go.RowKit

/-- The least odd level so far; 0: there is none. -/
def lowS (m : Int) (x : Int) : Int := if x % 2 = 1 ∧ (m = 0 ∨ x < m) then x else m
def lowF (l : List Rg) : Int := (l.map fun r => heldF r.2.2).foldl lowS 0
theorem low_next {l : List Rg} {i : Nat} {r : Rg} (h : l[i]? = some r) : lowF (l.take (i + 1)) = lowS (lowF (l.take i)) (heldF r.2.2) := by
  unfold lowF
  rw [List.take_add_one, h]
  simp
theorem lowS_in {m x : Int} (hm : 0 ≤ m ∧ m ≤ 126) (hx : 0 ≤ x ∧ x ≤ 126) : 0 ≤ lowS m x ∧ lowS m x ≤ 126 := by unfold lowS; split <;> omega
end Go.Proofs.Ytaiefneimjdmhaa
/- A pass that turns parts, with what stands ahead already turned. No function of the program. -/
namespace Go.Proofs.Ytaiefneimjdmhaa
open Go.RowKit

/-- A pass at places, with what stands ahead already turned. -/
def tgF {α : Type} (b : Bool) (p : α → Bool) (a r : List α) : List α := if b = true then a ++ revR p [] r else a ++ r
theorem tg_run {α : Type} {b : Bool} {p : α → Bool} {a pre suf : List α} (h : ∀ x ∈ pre, p x = true) (hs : suf = [] ∨ ∃ y s, suf = y :: s ∧ p y = false) : tgF b p a (pre ++ suf) = tgF b p (a ++ (if b = true then pre.reverse else pre)) suf := by
  cases b with
  | false => simp [tgF]
  | true =>
    simp only [tgF, if_true]
    rw [revR_app _ _ _ h, List.append_nil, List.append_assoc]
    congr 1
    rcases hs with rfl | ⟨y, s, rfl, hy⟩
    · simp [revR]
    · rw [revR, revR, if_neg (by rw [hy]; decide), if_neg (by rw [hy]; decide)]
      rfl
theorem tg_skip {α : Type} {b : Bool} {p : α → Bool} {a s : List α} {y : α} (hy : p y = false) : tgF b p a (y :: s) = tgF b p (a ++ [y]) s := by
  cases b with
  | false => simp [tgF]
  | true =>
    simp only [tgF, if_true]
    rw [revR, if_neg (by rw [hy]; decide)]
    simp
theorem tg_end {α : Type} (b : Bool) (p : α → Bool) (a : List α) : tgF b p a [] = a := by
  cases b <;> simp [tgF, revR]
/-- Where the next part begins. -/
theorem tg_move {α : Type} {b : Bool} {p : α → Bool} {a B suf : List α} {la hi : Nat} (hla : a.length = la) (hh : la + B.length = hi) (hs : suf = [] ∨ ∃ y s, suf = y :: s ∧ p y = false) (hne : B = [] → suf ≠ []) :
    ∃ (a2 r2 : List α) (ml : Nat), a2 ++ r2 = a ++ B ++ suf ∧ a2.length = ml + 1 ∧ tgF b p (a ++ B) suf = tgF b p a2 r2 ∧ (if (la : Int) < (hi : Int) - 1 then (hi : Int) - 1 else (la : Int)) = (ml : Int) := by
  cases B with
  | nil =>
    rcases hs with rfl | ⟨y, s, rfl, hy⟩
    · exact absurd rfl (hne rfl)
    · refine ⟨a ++ [y], s, la, by simp, by simp [hla], ?_, ?_⟩
      · rw [tg_skip hy, List.append_nil]
      · simp at hh
        rw [if_neg (by omega)]
  | cons x B =>
    simp only [List.length_cons] at hh
    refine ⟨a ++ x :: B, suf, hi - 1, rfl, by simp; omega, rfl, ?_⟩
    split <;> omega
end Go.Proofs.Ytaiefneimjdmhaa
/- Runs as they are seen, as mathematics. No function of the program. -/
namespace Go.Proofs.Ytaiefneimjdmhaa
open Go.RowKit

/-- Runs turned, level by level, down to the least odd one. -/
def visGA (low : Int) : Nat → List Rg → List Rg
  | 0, R => R
  | v + 1, R => if low ≤ ((v + 1 : Nat) : Int) then visGA low v (revR (fun r => decide (((v + 1 : Nat) : Int) ≤ heldF r.2.2)) [] R) else R
def visG (R : List Rg) : List Rg := if 0 < lowF R then visGA (lowF R) 126 R else R
theorem visGA_stop {low : Int} : ∀ {v : Nat} {R : List Rg}, (v : Int) < low → visGA low v R = R
  | 0, _, _ => rfl
  | v + 1, R, h => by rw [visGA, if_neg (by omega)]
theorem visGA_go {low : Int} {v : Nat} {R : List Rg} (h : low ≤ ((v + 1 : Nat) : Int)) : visGA low (v + 1) R = visGA low v (tgF true (fun r => decide (((v + 1 : Nat) : Int) ≤ heldF r.2.2)) [] R) := by
  rw [visGA, if_pos h]
  rfl
theorem low_fold : ∀ (l : List Int) (m : Int), 0 ≤ m ∧ m ≤ 126 → (∀ x ∈ l, 0 ≤ x ∧ x ≤ 126) → 0 ≤ l.foldl lowS m ∧ l.foldl lowS m ≤ 126
  | [], _, h, _ => h
  | x :: l, m, h, hl => low_fold l (lowS m x) (lowS_in h (hl x (by simp))) fun y hy => hl y (by simp [hy])
theorem lowF_in (R : List Rg) : 0 ≤ lowF R ∧ lowF R ≤ 126 := low_fold _ 0 (by decide) (by
  intro x hx
  obtain ⟨r, _, rfl⟩ := List.mem_map.1 hx
  unfold heldF
  omega)
end Go.Proofs.Ytaiefneimjdmhaa
/- The places of runs as they are seen are in the order in which places are seen. No function of the program. -/
namespace Go.Proofs.Ytaiefneimjdmhaa
open Go.RowKit

def toRn (r : Rg) : Rn := ⟨r.1.toNat, r.2.1.toNat, r.2.2⟩
theorem revR_map {α β : Type} (f : α → β) (p : β → Bool) : ∀ l acc : List α, revR p (acc.map f) (l.map f) = (revR (fun x => p (f x)) acc l).map f
  | [], acc => rfl
  | x :: l, acc => by
    rw [List.map_cons, revR, revR]
    by_cases h : p (f x) = true
    · rw [if_pos h, if_pos h]
      exact revR_map f p l (x :: acc)
    · rw [if_neg h, if_neg h, List.map_append, List.map_cons]
      congr 2
      exact revR_map f p l []
theorem revR_congr {α : Type} {p q : α → Bool} : ∀ {l acc : List α}, (∀ x ∈ l, p x = q x) → revR p acc l = revR q acc l
  | [], _, _ => rfl
  | x :: l, acc, h => by
    rw [revR, revR, h x (by simp), revR_congr (acc := x :: acc) fun y hy => h y (by simp [hy]), revR_congr (acc := []) fun y hy => h y (by simp [hy])]
/-- Parts, flattened. -/
theorem fl_parts (t : Int → Bool) (ht : ∀ L, t L = false) : ∀ (R : List Rg) (e n : Nat), partsFrom e (R.map fun r => (r.1, r.2.1)) n = true → flR t (R.map toRn) = List.range' e (n - e)
  | [], e, n, h => by
    have h : (e : Int) = n := by simpa [partsFrom] using h
    rw [show n - e = 0 by omega]
    rfl
  | r :: R, e, n, h => by
    rw [List.map_cons] at h
    simp only [partsFrom, Bool.and_eq_true, beq_iff_eq] at h
    obtain ⟨⟨h1, h2⟩, h3⟩ := h
    have hr : 0 ≤ r.1 ∧ r.1 < r.2.1 := by simpa [rightB] using h1
    have e1 : (r.2.1.toNat : Int) = r.2.1 := by omega
    rw [← e1] at h3
    have ih := fl_parts t ht R r.2.1.toNat n h3
    have hle : r.2.1.toNat ≤ n := by
      have : ∀ (l : List Sp) (e n : Int), partsFrom e l n = true → e ≤ n := by
        intro l
        induction l with
        | nil =>
          intro e n h
          have h : e = n := by simpa [partsFrom] using h
          omega
        | cons s l ih =>
          intro e n h
          simp only [partsFrom, Bool.and_eq_true, beq_iff_eq] at h
          have := ih _ _ h.2
          have : 0 ≤ s.1 ∧ s.1 < s.2 := by simpa [rightB] using h.1.1
          omega
      have := this _ _ _ h3
      omega
    rw [List.map_cons, flR_cons, ih, blR, ht, if_neg (by decide)]
    have hp : plR (toRn r) = List.range' e (r.2.1.toNat - e) := by
      unfold plR toRn
      simp only
      rw [show r.1.toNat = e by omega, List.range'_eq_map_range]
    obtain ⟨m, hm⟩ : ∃ m, r.2.1.toNat = e + m := ⟨r.2.1.toNat - e, by omega⟩
    rw [hm] at hle
    rw [hp, hm, show e + m - e = m by omega, List.range'_append_1, show m + (n - (e + m)) = n - e by omega]
theorem visB_stay {ls : List Int} : ∀ (v : Nat) (R : List Rn), oddB ls v = false → visB ls v R = R
  | 0, _, _ => rfl
  | v + 1, R, h => by
    rw [visB, if_neg (by rw [h]; decide), visB_stay v R]
    rw [Bool.eq_false_iff] at h ⊢
    exact fun h2 => h (oddB_mono (by omega) h2)
theorem turA_stay {ls : List Int} : ∀ (v : Nat) (t : Int → Bool), oddB ls v = false → turA ls v t = t
  | 0, _, _ => rfl
  | v + 1, t, h => by
    rw [turA, if_neg (by rw [h]; decide), turA_stay v t]
    rw [Bool.eq_false_iff] at h ⊢
    exact fun h2 => h (oddB_mono (by omega) h2)
/-- The runs that both see. -/
theorem visB_vis {ls : List Int} {low : Int} (hlow : ∀ v : Nat, oddB ls v = true ↔ low ≤ v) : ∀ (v : Nat) (R : List Rg), (∀ r ∈ R, 0 ≤ r.2.2 ∧ r.2.2 ≤ 126) → visB ls v (R.map toRn) = (visGA low v R).map toRn
  | 0, _, _ => rfl
  | v + 1, R, h => by
    by_cases ho : low ≤ ((v + 1 : Nat) : Int)
    · rw [visB, visGA, if_pos ho, if_pos ((hlow (v + 1)).2 ho)]
      have e := revR_map toRn (fun r => decide (((v + 1 : Nat) : Int) ≤ r.lev)) R []
      rw [List.map_nil] at e
      rw [e, revR_congr (q := fun r => decide (((v + 1 : Nat) : Int) ≤ heldF r.2.2)) (fun r hr => by
        have := h r hr
        have : heldF r.2.2 = r.2.2 := by unfold heldF; omega
        rw [this]
        rfl)]
      exact visB_vis hlow v _ fun r hr => h r (by simpa using (revR_perm (fun r : Rg => decide (((v + 1 : Nat) : Int) ≤ heldF r.2.2)) R []).mem_iff.1 hr)
    · rw [visGA, if_neg ho, visB_stay]
      rw [Bool.eq_false_iff]
      exact fun h2 => ho ((hlow (v + 1)).1 h2)
theorem visGA_perm (low : Int) : ∀ (v : Nat) (R : List Rg), (visGA low v R).Perm R
  | 0, R => .refl R
  | v + 1, R => by
    rw [visGA]
    split
    · exact (visGA_perm low v _).trans (by simpa using revR_perm (fun r : Rg => decide (((v + 1 : Nat) : Int) ≤ heldF r.2.2)) R [])
    · exact .refl R
theorem visG_perm (R : List Rg) : (visG R).Perm R := by
  unfold visG
  split
  · exact visGA_perm _ _ _
  · exact .refl R
/-- A run's places, turned where its level is odd. -/
theorem plI_bl {t : Int → Bool} {r : Rg} (hr : rightB (r.1, r.2.1) = true) (ht : t r.2.2 = decide (r.2.2 % 2 ≠ 0)) : plI r = (blR t (toRn r)).map fun i => ((i : Nat) : Int) := by
  have hr' : 0 ≤ r.1 ∧ r.1 < r.2.1 := by simpa [rightB] using hr
  rw [plI, if_pos hr, blR]
  have e : (toRn r).lev = r.2.2 := rfl
  rw [e, ht]
  by_cases ho : r.2.2 % 2 ≠ 0
  · rw [if_pos (decide_eq_true ho)]
    apply List.ext_getElem
    · simp [plR, toRn]; omega
    · intro i h1 h2
      simp [plR, toRn] at h1 h2 ⊢
      simp [plK, ho]
      omega
  · rw [if_neg (by rw [decide_eq_false ho]; decide)]
    apply List.ext_getElem
    · simp [plR, toRn]; omega
    · intro i h1 h2
      simp [plR, toRn] at h1 h2 ⊢
      have ho2 : r.2.2 % 2 = 0 := by omega
      simp [plK, ho2]
      omega
theorem ord_fl {t : Int → Bool} : ∀ R : List Rg, (∀ r ∈ R, rightB (r.1, r.2.1) = true ∧ t r.2.2 = decide (r.2.2 % 2 ≠ 0)) → ordI R = (flR t (R.map toRn)).map fun i => ((i : Nat) : Int)
  | [], _ => rfl
  | r :: R, h => by
    have e : ordI (r :: R) = plI r ++ ordI R := by simp [ordI]
    rw [e, List.map_cons, flR_cons, List.map_append, ord_fl R fun x hx => h x (by simp [hx]), plI_bl (h r (by simp)).1 (h r (by simp)).2]
/-- What the least odd level is. -/
def LowOk (S : List Int) (m : Int) : Prop := (m = 0 ∧ ∀ x ∈ S, x % 2 ≠ 1) ∨ (0 < m ∧ m % 2 = 1 ∧ m ∈ S ∧ ∀ x ∈ S, x % 2 = 1 → m ≤ x)
theorem LowOk.step {S : List Int} {m x : Int} (h : LowOk S m) (hx : 0 ≤ x) : LowOk (S ++ [x]) (lowS m x) := by
  unfold lowS
  rcases h with ⟨rfl, h⟩ | ⟨h0, h1, h2, h3⟩
  · by_cases ho : x % 2 = 1
    · rw [if_pos ⟨ho, .inl rfl⟩]
      refine .inr ⟨by omega, ho, by simp, fun y hy hy1 => ?_⟩
      rcases List.mem_append.1 hy with hy | hy
      · exact absurd hy1 (h y hy)
      · simp at hy; omega
    · rw [if_neg (fun h => ho h.1)]
      refine .inl ⟨rfl, fun y hy => ?_⟩
      rcases List.mem_append.1 hy with hy | hy
      · exact h y hy
      · simp at hy; rw [hy]; exact ho
  · by_cases ho : x % 2 = 1 ∧ (m = 0 ∨ x < m)
    · rw [if_pos ho]
      refine .inr ⟨by omega, ho.1, by simp, fun y hy hy1 => ?_⟩
      rcases List.mem_append.1 hy with hy | hy
      · have := h3 y hy hy1; omega
      · simp at hy; omega
    · rw [if_neg ho]
      refine .inr ⟨h0, h1, by simp [h2], fun y hy hy1 => ?_⟩
      rcases List.mem_append.1 hy with hy | hy
      · exact h3 y hy hy1
      · simp at hy
        subst hy
        omega
theorem LowOk.fold : ∀ (l S : List Int) (m : Int), LowOk S m → (∀ x ∈ l, 0 ≤ x) → LowOk (S ++ l) (l.foldl lowS m)
  | [], S, m, h, _ => by simpa using h
  | x :: l, S, m, h, hl => by
    have := LowOk.fold l (S ++ [x]) (lowS m x) (h.step (hl x (by simp))) fun y hy => hl y (by simp [hy])
    simpa using this
theorem parts_mem {n : Int} : ∀ {l : List Sp} {e : Int}, partsFrom e l n = true → e ≤ n ∧ ∀ s ∈ l, rightB s = true ∧ e ≤ s.1 ∧ s.2 ≤ n
  | [], e, h => by
    have h : e = n := by simpa [partsFrom] using h
    exact ⟨by omega, by simp⟩
  | s :: l, e, h => by
    simp only [partsFrom, Bool.and_eq_true, beq_iff_eq] at h
    obtain ⟨h1, h2⟩ := parts_mem h.2
    have hr : 0 ≤ s.1 ∧ s.1 < s.2 := by simpa [rightB] using h.1.1
    refine ⟨by omega, fun t ht => ?_⟩
    rcases List.mem_cons.1 ht with rfl | ht
    · exact ⟨h.1.1, by omega, h1⟩
    · have := h2 t ht
      exact ⟨this.1, by omega, this.2.2⟩
/-- The places of runs as they are seen are in the order in which places are seen. -/
theorem runs_order {ls : List Int} (h : ∀ x ∈ ls, 0 ≤ x ∧ x ≤ 126) : ordI (visG (logR ls ls.length)) = (visF ls).map fun i => ((i : Nat) : Int) := by
  have ho := log_ok ls ls.length
  obtain ⟨R, hR⟩ : ∃ R, logR ls ls.length = R := ⟨_, rfl⟩
  rw [hR] at ho ⊢
  have hrt : ∀ r ∈ R, rightB (r.1, r.2.1) = true ∧ 0 ≤ r.1 ∧ r.1 < r.2.1 ∧ r.2.1 ≤ ls.length := fun r hr => by
    have := (parts_mem ho.parts).2 (r.1, r.2.1) (List.mem_map.2 ⟨r, hr, rfl⟩)
    have h2 : 0 ≤ r.1 ∧ r.1 < r.2.1 := by simpa [rightB] using this.1
    exact ⟨this.1, h2.1, h2.2, this.2.2⟩
  have hpl : ∀ r ∈ R, ∀ i ∈ plR (toRn r), ls.getD i 0 = r.2.2 := fun r hr i hi => by
    obtain ⟨k, hk, rfl⟩ := List.mem_map.1 hi
    rw [List.mem_range] at hk
    obtain ⟨_, h1, h2, _⟩ := hrt r hr
    simp only [toRn] at hk ⊢
    exact ho.lev r hr _ (by omega) (by omega)
  have hlv : ∀ r ∈ R, r.2.2 ∈ ls := fun r hr => by
    obtain ⟨_, h1, h2, h3⟩ := hrt r hr
    have e := ho.lev r hr r.1.toNat (by omega) (by omega)
    have hl : r.1.toNat < ls.length := by omega
    rw [List.getD_eq_getElem?_getD, List.getElem?_eq_getElem hl] at e
    simp only [Option.getD_some] at e
    rw [← e]
    exact List.getElem_mem hl
  have hfl := fl_parts (fun _ => false) (fun _ => rfl) R 0 ls.length ho.parts
  rw [Nat.sub_zero, ← List.range_eq_range'] at hfl
  have hbk : ∀ x ∈ ls, ∃ r ∈ R, r.2.2 = x := fun x hx => by
    obtain ⟨i, hi, rfl⟩ := List.mem_iff_getElem.1 hx
    have hm : i ∈ flR (fun _ => false) (R.map toRn) := by rw [hfl]; exact List.mem_range.2 hi
    obtain ⟨q, hq, hiq⟩ := List.mem_flatMap.1 hm
    obtain ⟨r, hr, rfl⟩ := List.mem_map.1 hq
    have e := hpl r hr i (blR_mem.1 hiq)
    rw [List.getD_eq_getElem?_getD, List.getElem?_eq_getElem hi] at e
    exact ⟨r, hr, by rw [← e]; rfl⟩
  have hlow : LowOk (R.map fun r => heldF r.2.2) (lowF R) := by
    have := LowOk.fold (R.map fun r => heldF r.2.2) [] 0 (.inl ⟨rfl, by simp⟩) (by
      intro x hx
      obtain ⟨r, _, rfl⟩ := List.mem_map.1 hx
      unfold heldF
      omega)
    rw [List.nil_append] at this
    exact this
  have hhl : ∀ r ∈ R, heldF r.2.2 = r.2.2 := fun r hr => by
    have := h _ (hlv r hr)
    unfold heldF
    omega
  rw [vis_126 h]
  rcases hlow with ⟨h0, hev⟩ | ⟨h0, h1, h2, h3⟩
  · have hev2 : ∀ x ∈ ls, x % 2 = 0 := fun x hx => by
      obtain ⟨r, hr, rfl⟩ := hbk x hx
      have := hev _ (List.mem_map.2 ⟨r, hr, rfl⟩)
      rw [hhl r hr] at this
      omega
    have hno : oddB ls ((126 : Nat) : Int) = false := by
      rw [Bool.eq_false_iff]
      intro hc
      unfold oddB at hc
      rw [List.any_eq_true] at hc
      obtain ⟨x, hx, hd⟩ := hc
      have := hev2 x hx
      have := of_decide_eq_true hd
      omega
    rw [visA_stay 126 _ hno, visG, if_neg (by omega), ← hfl]
    exact ord_fl R fun r hr => ⟨(hrt r hr).1, by
      have := hev2 _ (hlv r hr)
      simp [this]⟩
  · obtain ⟨low, hl⟩ : ∃ low : Nat, lowF R = (low : Int) := ⟨(lowF R).toNat, by omega⟩
    rw [hl] at h0 h1 h2 h3
    have hod : ∀ v : Nat, oddB ls v = true ↔ low ≤ v := fun v => by
      unfold oddB
      rw [List.any_eq_true]
      constructor
      · rintro ⟨x, hx, hd⟩
        have hd := of_decide_eq_true hd
        obtain ⟨r, hr, rfl⟩ := hbk x hx
        have := h3 _ (List.mem_map.2 ⟨r, hr, rfl⟩) (by rw [hhl r hr]; exact hd.1)
        rw [hhl r hr] at this
        omega
      · intro hv
        obtain ⟨r, hr, he⟩ := List.mem_map.1 h2
        rw [hhl r hr] at he
        exact ⟨r.2.2, hlv r hr, decide_eq_true ⟨by rw [he]; exact h1, by omega⟩⟩
    have hvb := visB_vis (ls := ls) (low := (low : Int)) (fun v => by rw [hod v]; omega) 126 R (fun r hr => h _ (hlv r hr))
    have hvr := vis_runs ls 126 (fun _ => false) (R.map toRn) (fun q hq => by
      obtain ⟨r, hr, rfl⟩ := List.mem_map.1 hq
      obtain ⟨_, a1, a2, _⟩ := hrt r hr
      exact ⟨by simp only [toRn]; omega, fun i hi => hpl r hr i hi⟩)
    rw [hfl, hvb] at hvr
    have hvg : visG R = visGA (low : Int) 126 R := by unfold visG; rw [hl, if_pos h0]
    rw [hvr, hvg]
    refine ord_fl _ fun r hr => ?_
    have hr := (visGA_perm (low : Int) 126 R).mem_iff.1 hr
    refine ⟨(hrt r hr).1, ?_⟩
    have hb := h _ (hlv r hr)
    obtain ⟨L, hL⟩ : ∃ L : Nat, r.2.2 = (L : Int) := ⟨r.2.2.toNat, by omega⟩
    rw [hL] at hb ⊢
    rcases tur_at hod L 126 (fun _ => false) with ht | ht
    · rw [ht]
      by_cases hpar : (L : Int) % 2 ≠ 0
      · have hlL : low ≤ L := by
          have := h3 _ (List.mem_map.2 ⟨r, hr, rfl⟩) (by rw [hhl r hr, hL]; omega)
          rw [hhl r hr, hL] at this
          omega
        rw [if_pos (by omega), decide_eq_true hpar]
        rfl
      · rw [if_neg (by omega), decide_eq_false hpar]
    · omega
end Go.Proofs.Ytaiefneimjdmhaa
/- Rows put together from within are the order in which places, and runs, are seen. No function of the program. -/
namespace Go.Proofs.Ytaiefneimjdmhaa
open Go.RowKit

theorem tnAll_snoc {α : Type} (lv : α → Nat) (x : α) : ∀ (l : List α) (R : List (TnR α)), tnAll lv (l ++ [x]) R = tnPut ⟨lv x, [x]⟩ (tnAll lv l R)
  | [], R => rfl
  | y :: l, R => by
    rw [List.cons_append, tnAll, tnAll]
    exact tnAll_snoc lv x l _
theorem tnPop_perm {v : Nat} : ∀ (t : TnR Nat) (R : List (TnR Nat)), ((tnPop v t R).flatMap (·.seq)).Perm ((t :: R).flatMap (·.seq))
  | t, [] => by
    rw [tnPop]
    split <;> exact .refl _
  | t, u :: R => by
    rw [tnPop]
    split
    · split
      · exact (tnPop_perm (u.join t) R).trans (tn_join_perm u t R)
      · exact .refl _
    · exact .refl _
theorem tnPop_len {v : Nat} : ∀ (t : TnR Nat) (R : List (TnR Nat)), (tnPop v t R).length ≤ (t :: R).length
  | t, [] => by rw [tnPop]; split <;> simp
  | t, u :: R => by
    rw [tnPop]
    split
    · split
      · have := tnPop_len (v := v) (u.join t) R
        simp only [List.length_cons] at this ⊢
        omega
      · simp
    · simp
theorem tnTop_perm (r : TnR Nat) (R : List (TnR Nat)) : ((tnTop r R).flatMap (·.seq)).Perm ((r :: R).flatMap (·.seq)) := by
  cases R with
  | nil => exact .refl _
  | cons u R =>
    rw [tnTop]
    split
    · exact tn_join_perm u r R
    · exact .refl _
theorem tnTop_len (r : TnR Nat) (R : List (TnR Nat)) : (tnTop r R).length ≤ R.length + 1 := by
  cases R with
  | nil => simp [tnTop]
  | cons u R => rw [tnTop]; split <;> simp
theorem tnPut_perm (r : TnR Nat) (R : List (TnR Nat)) : ((tnPut r R).flatMap (·.seq)).Perm ((r :: R).flatMap (·.seq)) := by
  cases R with
  | nil => exact .refl _
  | cons t R =>
    rw [tnPut]
    refine (tnTop_perm _ _).trans ?_
    rw [List.flatMap_cons, List.flatMap_cons]
    exact List.Perm.append_left _ (tnPop_perm t R)
theorem tnPut_len (r : TnR Nat) (R : List (TnR Nat)) : (tnPut r R).length ≤ R.length + 1 := by
  cases R with
  | nil => simp [tnPut]
  | cons t R =>
    rw [tnPut]
    have h1 := tnTop_len r (tnPop r.lev t R)
    have h2 := tnPop_len (v := r.lev) t R
    omega
/-- The rows of the first k places. -/
def tnTo (lv : Nat → Nat) (k : Nat) : List (TnR Nat) := tnAll lv (List.range k) []
theorem tnTo_next (lv : Nat → Nat) (k : Nat) : tnTo lv (k + 1) = tnPut ⟨lv k, [k]⟩ (tnTo lv k) := by
  unfold tnTo
  rw [List.range_succ, tnAll_snoc]
theorem tnTo_len (lv : Nat → Nat) : ∀ k, (tnTo lv k).length ≤ k
  | 0 => Nat.le_refl _
  | k + 1 => by
    rw [tnTo_next]
    have := tnPut_len ⟨lv k, [k]⟩ (tnTo lv k)
    have := tnTo_len lv k
    omega
theorem tnTo_lt (lv : Nat → Nat) : ∀ k, ∀ x ∈ (tnTo lv k).flatMap (·.seq), x < k
  | 0, x, h => by cases h
  | k + 1, x, h => by
    rw [tnTo_next, (tnPut_perm _ _).mem_iff, List.flatMap_cons] at h
    rcases List.mem_append.1 h with h | h
    · simp at h; omega
    · have := tnTo_lt lv k x h; omega
theorem tnTo_end {lv : Nat → Nat} {n : Nat} (h : ∀ i, lv i ≤ 126) (hn : 0 < n) : ∃ t R, tnTo lv n = t :: R ∧ (tnEnd t R).seq = wnF lv 126 0 (List.range n) := by
  rcases tn_all (lv := lv) (k := List.range n) (fun x _ => h x) with ⟨h1, _⟩ | h1
  · have := congrArg List.length h1
    simp at this
    omega
  · exact h1
theorem wn_len {α : Type} (lv : α → Nat) (d v : Nat) (o : List α) : (wnF lv d v o).length = o.length := (wn_perm lv d v o).length_eq
/-- As which level a place counts. -/
def lvO (ls : List Int) (i : Nat) : Nat := (heldF (ls.getD i 0)).toNat
theorem lvO_le (ls : List Int) (i : Nat) : lvO ls i ≤ 126 := by unfold lvO heldF; omega
theorem heldF_in (x : Int) : 0 ≤ heldF x ∧ heldF x ≤ 126 := by unfold heldF; omega
theorem visA_pas {hs : List Int} {lv : Nat → Nat} {low : Nat} (hlv : ∀ i, hs.getD i 0 = (lv i : Int)) (hlow : ∀ v : Nat, oddB hs v = true ↔ low ≤ v) : ∀ (v : Nat) (o : List Nat), visA hs v o = pasF lv low v o
  | 0, _ => rfl
  | v + 1, o => by
    by_cases ho : low ≤ v + 1
    · rw [visA, pasF, if_pos ((hlow (v + 1)).2 ho), if_pos ho, visA_pas hlv hlow v]
      congr 1
      refine revR_congr2 fun x _ => ?_
      rw [hlv]
      by_cases h1 : v + 1 ≤ lv x
      · rw [decide_eq_true h1, decide_eq_true (by omega)]
      · rw [decide_eq_false h1, decide_eq_false (by omega)]
    · rw [pasF, if_neg ho, visA_stay]
      rw [Bool.eq_false_iff]
      exact fun h => ho ((hlow (v + 1)).1 h)
theorem vis_held (ls : List Int) : visF ls = visA (ls.map heldF) 126 (List.range ls.length) := by
  have h1 := vis_126 (ls := ls.map heldF) (fun x hx => by obtain ⟨y, _, rfl⟩ := List.mem_map.1 hx; exact heldF_in y)
  rw [List.length_map] at h1
  rw [← h1]
  unfold visF
  rw [List.map_map, List.length_map]
  rw [show (heldF ∘ heldF) = heldF by funext x; simp only [Function.comp]; unfold heldF; omega]
theorem low_of (hs : List Int) (h0 : ∀ x ∈ hs, 0 ≤ x) : LowOk hs (hs.foldl lowS 0) := by
  have := LowOk.fold hs [] 0 (.inl ⟨rfl, by simp⟩) h0
  rwa [List.nil_append] at this
theorem vis_tn (ls : List Int) : visF ls = wnF (lvO ls) 126 0 (List.range ls.length) := by
  rw [vis_held, wn_pas]
  obtain ⟨hs, hhs⟩ : ∃ hs, ls.map heldF = hs := ⟨_, rfl⟩
  rw [hhs]
  have hin : ∀ x ∈ hs, 0 ≤ x ∧ x ≤ 126 := fun x hx => by rw [← hhs] at hx; obtain ⟨y, _, rfl⟩ := List.mem_map.1 hx; exact heldF_in y
  have hlv : ∀ i, hs.getD i 0 = (lvO ls i : Int) := fun i => by
    unfold lvO
    have hz := heldF_in (ls.getD i 0)
    rw [Int.toNat_of_nonneg hz.1, ← hhs, List.getD_eq_getElem?_getD, List.getD_eq_getElem?_getD, List.getElem?_map]
    cases ls[i]? with
    | none => rfl
    | some x => rfl
  have hmem : ∀ i ∈ List.range ls.length, (lvO ls i : Int) ∈ hs := fun i hi => by
    rw [List.mem_range] at hi
    rw [← hlv i, List.getD_eq_getElem?_getD, List.getElem?_eq_getElem (by rw [← hhs, List.length_map]; exact hi)]
    exact List.getElem_mem _
  rcases low_of hs fun x hx => (hin x hx).1 with ⟨h0, hev⟩ | ⟨h0, h1, h2, h3⟩
  · rw [visA_stay, show (126 : Nat) = 2 * 63 from rfl, pas_even]
    · intro x hx _
      have := hev _ (hmem x hx)
      omega
    · rw [Bool.eq_false_iff]
      intro hc
      unfold oddB at hc
      rw [List.any_eq_true] at hc
      obtain ⟨x, hx, hd⟩ := hc
      exact hev x hx (of_decide_eq_true hd).1
  · obtain ⟨low, hlow⟩ : ∃ low : Nat, hs.foldl lowS 0 = (low : Int) := ⟨(hs.foldl lowS 0).toNat, by omega⟩
    rw [hlow] at h0 h1 h2 h3
    have hl126 := (hin _ h2).2
    rw [pas_low (lvO ls) (low := low) (by omega) 126 _ (by omega) (fun x hx hodd => by
      have := h3 _ (hmem x hx) (by omega)
      omega)]
    refine visA_pas hlv (fun v => ?_) 126 _
    unfold oddB
    rw [List.any_eq_true]
    constructor
    · rintro ⟨x, hx, hd⟩
      have hd := of_decide_eq_true hd
      have := h3 x hx hd.1
      omega
    · intro hv
      exact ⟨_, h2, decide_eq_true ⟨h1, by omega⟩⟩
/-! Runs. -/
def lvG (r : Rg) : Nat := (heldF r.2.2).toNat
theorem visGA_pas (low : Nat) : ∀ (v : Nat) (R : List Rg), visGA (low : Int) v R = pasF lvG low v R
  | 0, _ => rfl
  | v + 1, R => by
    by_cases ho : low ≤ v + 1
    · rw [visGA, pasF, if_pos (by omega), if_pos ho, visGA_pas low v]
      congr 1
      refine revR_congr2 fun x _ => ?_
      have := heldF_in x.2.2
      unfold lvG
      by_cases h1 : v + 1 ≤ (heldF x.2.2).toNat
      · rw [decide_eq_true h1, decide_eq_true (by omega)]
      · rw [decide_eq_false h1, decide_eq_false (by omega)]
    · rw [visGA, pasF, if_neg (by omega), if_neg ho]
theorem visG_tn (R : List Rg) : visG R = wnF lvG 126 0 R := by
  rw [wn_pas]
  have hl := low_of (R.map fun r => heldF r.2.2) (fun x hx => by obtain ⟨y, _, rfl⟩ := List.mem_map.1 hx; exact (heldF_in _).1)
  have he : (R.map fun r => heldF r.2.2).foldl lowS 0 = lowF R := rfl
  rw [he] at hl
  rcases hl with ⟨h0, hev⟩ | ⟨h0, h1, h2, h3⟩
  · rw [visG, if_neg (by omega), show (126 : Nat) = 2 * 63 from rfl, pas_even]
    intro x hx _
    have h4 := hev _ (List.mem_map.2 ⟨x, hx, rfl⟩)
    have := heldF_in x.2.2
    unfold lvG
    omega
  · obtain ⟨low, hlow⟩ : ∃ low : Nat, lowF R = (low : Int) := ⟨(lowF R).toNat, by omega⟩
    have h126 := (lowF_in R).2
    rw [visG, if_pos h0, hlow, visGA_pas]
    rw [hlow] at h0 h1 h2 h3 h126
    rw [pas_low lvG (low := low) (by omega) 126 _ (by omega) (fun x hx hodd => by
      have := heldF_in x.2.2
      unfold lvG at hodd ⊢
      have := h3 _ (List.mem_map.2 ⟨x, hx, rfl⟩) (by omega)
      omega)]
theorem revR_map2 {α β : Type} (f : α → β) (p : β → Bool) : ∀ l acc : List α, revR p (acc.map f) (l.map f) = (revR (fun x => p (f x)) acc l).map f
  | [], acc => rfl
  | x :: l, acc => by
    rw [List.map_cons, revR, revR]
    by_cases h : p (f x) = true
    · rw [if_pos h, if_pos h]
      exact revR_map2 f p l (x :: acc)
    · rw [if_neg h, if_neg h, List.map_append, List.map_cons]
      congr 2
      exact revR_map2 f p l []
theorem wn_map {α β : Type} (f : α → β) (lv : β → Nat) : ∀ (d v : Nat) (o : List α), wnF lv d v (o.map f) = (wnF (fun x => lv (f x)) d v o).map f
  | 0, _, _ => rfl
  | d + 1, v, o => by
    rw [wnF, wnF, wn_map f lv d (v + 1) o]
    exact revR_map2 f _ _ []
theorem range_getD {α : Type} (R : List α) (z : α) : (List.range R.length).map (fun i => R.getD i z) = R := by
  apply List.ext_getElem?
  intro i
  by_cases hi : i < R.length
  · rw [List.getElem?_map, List.getElem?_range hi, List.getElem?_eq_getElem hi]
    simp [List.getD_eq_getElem?_getD, hi]
  · rw [List.getElem?_eq_none (by simp; omega), List.getElem?_eq_none (by omega)]
/-- Runs as they are seen, by their numbers. -/
theorem visG_at (R : List Rg) (z : Rg) : visG R = (wnF (fun i => lvG (R.getD i z)) 126 0 (List.range R.length)).map fun i => R.getD i z := by
  rw [visG_tn]
  have := wn_map (fun i => R.getD i z) lvG 126 0 (List.range R.length)
  rw [range_getD] at this
  exact this
end Go.Proofs.Ytaiefneimjdmhaa
/- A new line in memory. No function of the program. -/
namespace Go.Proofs.Ytaiefneimjdmhaa
open Go.RowKit
/-- No box of a caller's own. -/
def NoX : Nat → Obj → Prop := fun _ _ => False
/-- A new line. -/
theorem lnAt_new {T E : TypeId} {b n : Nat} {w w1 : World} (ho : w1.ownsRow b 3 1 (.slice (some ⟨b, 0, none⟩) n n) n ((List.replicate n (0 : Int)).map (Value.int .i64))) (hb : Below b w w1) (hbs : b ≤ w1.heap.size) : LnAt T E NoX b w1.heap.size n [] w (w1.alloc (.cells #[.slice none 0 0, .slice (some ⟨b, 0, none⟩) n n] T)) := by
  have hlt := (ho.lt b rfl).2
  refine ⟨⟨.slice none 0 0, b, List.replicate n 0, heap_alloc_new w1 _, ⟨rfl, .inl ⟨rfl, rfl⟩⟩, ho.alloc _, ?_, by simp [Value.ownBlock], by omega, by simp [Value.ownBlock], fun k o h => h.elim⟩, hb.alloc hbs _, hbs⟩
  exact ⟨by simp, by simp, by simp, by simp, by simp, by simp⟩
end Go.Proofs.Ytaiefneimjdmhaa
/- refRight_any. -/
namespace Go.Proofs.Ytaiefneimjdmhaa
open Go.RowKit

theorem refRight_any (lo hi : Int) (w : World) :
    Calls Try.prog 46 #[.agg #[.int .i64 lo, .int .i64 hi]] w fun e w' => e = .returned (.bool (rightB (lo, hi))) ∧ Below w.heap.size w w' := by
  have hc : lo < 0 ∨ (0 ≤ lo ∧ lo < hi) ∨ (0 ≤ lo ∧ hi ≤ lo) := by omega
  rcases hc with h | ⟨h, h'⟩ | ⟨h, h'⟩ <;>
    (go_enter Try.func46, Try.ntmps46
     go_wp2
     go_ret
     refine ⟨retB ?_, below_new _ _⟩
     simp [rightB]
     try omega)

end Go.Proofs.Ytaiefneimjdmhaa
/- naskhref30's Order: the places of runs, walked. -/
namespace Go.Proofs.Ytaiefneimjdmhaa
open Go.RowKit
set_option maxRecDepth 100000 in
set_option maxHeartbeats 4000000 in
theorem roOrder_any (A : Option Addr) (n c : Nat) (l : List Rg) (w : World) (hr : Rd w 3 A n (cellsG l)) (hn : n ≤ 1000) (hb : ∀ r ∈ l, rightB (r.1, r.2.1) = true → r.2.1 ≤ 1000) :
    Calls Try.prog 28 #[.slice A n c] w fun e w' => ∃ v, e = .returned v ∧ w'.ownsRow w.heap.size 3 1 v (ordI l).length ((ordI l).map (Value.int .i64)) ∧ Below w.heap.size w w' := by
  have hl := hr.lenG
  have HL := Lib.hid hl
  have HR := Lib.hid hr
  have HBD := Lib.hid hb
  clear hl hr hb
  go_enter Try.func28, Try.ntmps28
  go_wp2
  go_loopw [3, 4] (fun v t wr => ∃ i : Nat, i ≤ n ∧ t = .int .i64 (i : Int) ∧ (ordI (l.take i)).length ≤ 1000 * i ∧ wr.ownsRow w.heap.size 3 1 v (ordI (l.take i)).length ((ordI (l.take i)).map (Value.int .i64)) ∧ Below w.heap.size w wr) (fun _ t _ => n - (intOf t).toNat)
  case atStart => exact ⟨0, Nat.zero_le _, rfl, Nat.zero_le _, ⟨rfl, .inl ⟨rfl, rfl⟩⟩, Below.refl _ _⟩
  case round =>
    obtain ⟨i, hi, rfl, hle, hO, hB⟩ := hrel
    have HO := Lib.hid hO
    have HB := Lib.hid hB
    clear hO hB
    by_cases hlt : i < n
    · obtain ⟨r, hrr⟩ : ∃ r, l[i]? = some r := ⟨_, List.getElem?_eq_getElem (by rw [HL.out]; exact hlt)⟩
      obtain ⟨lo, hh, lev⟩ := r
      obtain ⟨ad, rfl, hab, d0, d1, d2⟩ := HR.out.rg hrr
      simp only at d0 d1 d2
      have c0 := cell_below HB.out d0
      have c1 := cell_below HB.out d1
      have HD2 := Lib.hid d2
      clear d0 d1 d2
      have HNX := Lib.hid (ordI_next hrr)
      have HBR := Lib.hid (HBD.out _ (List.mem_of_getElem? hrr))
      have HLE := Lib.hid (plI_len (lo, hh, lev) (HBD.out _ (List.mem_of_getElem? hrr)))
      obtain ⟨L0, hL0⟩ : ∃ L0, ordI (l.take i) = L0 := ⟨_, rfl⟩
      rw [hL0] at HO HNX hle
      have hin : (i : Int) < (n : Int) := by omega
      have hi0 : (0 : Int) ≤ (i : Int) := by omega
      have hi5 : (i : Int) ≤ 1000 := by omega
      have HRT := Lib.hid (fun W => refRight_any lo hh W)
      clear hrr hL0
      cases hrt : rightB (lo, hh) with
      | false =>
        rw [hrt] at HRT
        have HP0 := Lib.hid (show plI (lo, hh, lev) = [] by unfold plI; rw [if_neg (by rw [hrt]; decide)])
        rw [HP0.out, List.append_nil] at HNX
        clear hrt
        go_wp2_with (first
          | (go_at_call 46; refine (HRT.out _).mono ?_; rintro e w2 ⟨rfl, hb2⟩)
          | fail)
        have HBA := Lib.hid (HB.out.alloc HB.out.size (.cells #[.int .i64 lo, .int .i64 hh] 36))
        have HB2 := Lib.hid (HBA.out.trans (hb2.mono HBA.out.size))
        have HO2 := Lib.hid (own_below (HO.out.alloc (.cells #[.int .i64 lo, .int .i64 hh] 36)) hb2)
        go_roundw
        case rel => exact ⟨i + 1, by omega, by go_num, by rw [HNX.out]; omega, by rw [HNX.out]; exact HO2.out, HB2.out⟩
        case measure => simp [intOf]; omega
      | true =>
        rw [hrt] at HRT
        have hr' : 0 ≤ lo ∧ lo < hh := by simpa [rightB] using hrt
        have hh1 := HBR.out hrt
        simp only at hh1
        have HP1 := Lib.hid (show plI (lo, hh, lev) = (List.range (hh - lo).toNat).map (plK (lo, hh, lev)) by unfold plI; rw [if_pos hrt])
        clear hrt
        go_wp2_with (first
          | (go_at_call 46; refine (HRT.out _).mono ?_; rintro e w2 ⟨rfl, hb2⟩)
          | fail)
        have HBA := Lib.hid (HB.out.alloc HB.out.size (.cells #[.int .i64 lo, .int .i64 hh] 36))
        have HB2 := Lib.hid (HBA.out.trans (hb2.mono HBA.out.size))
        have HO2 := Lib.hid (own_below (HO.out.alloc (.cells #[.int .i64 lo, .int .i64 hh] 36)) hb2)
        have HX2 := Lib.hid ((hb2.block wr.heap.size (by simp)).trans (heap_alloc_new wr (.cells #[.int .i64 lo, .int .i64 hh] 36)))
        obtain ⟨bx, hbx⟩ : ∃ bx, wr.heap.size = bx := ⟨_, rfl⟩
        rw [hbx] at HX2
        rw [hbx]
        obtain ⟨m, hm⟩ : ∃ m : Nat, hh - lo = (m : Int) := ⟨(hh - lo).toNat, by omega⟩
        rw [hm, Int.toNat_natCast] at HP1
        have hL0 : (0 : Int) ≤ lo := hr'.1
        have hlo1 : lo < hh := hr'.2
        have hm5 : m ≤ 1000 := by omega
        clear hb2 hbx hr' c0 c1
        go_loopw [3, 6] (fun v t wk => ∃ k : Nat, k ≤ m ∧ t = .int .i64 (k : Int) ∧ wk.ownsRow w.heap.size 3 1 v (L0.length + k) ((L0 ++ (List.range k).map (plK (lo, hh, lev))).map (Value.int .i64)) ∧ Below w.heap.size w wk ∧ wk.heap[bx]? = some (.cells #[.int .i64 lo, .int .i64 hh] 36 (0, 0))) (fun _ t _ => m - (intOf t).toNat)
        case atStart => exact ⟨0, Nat.zero_le _, rfl, by simpa using HO2.out, HB2.out, HX2.out⟩
        case round =>
        obtain ⟨k, hk, rfl, hOk, hBk, hXk⟩ := hrel
        have e0 := hp_cell (j := 0) hXk rfl
        have e1 := hp_cell (j := 1) hXk rfl
        have c2 := cell_below hBk HD2.out
        have HOK := Lib.hid hOk
        have HBK := Lib.hid hBk
        have HXK := Lib.hid hXk
        have HNE := Lib.hid (show u3.ownBlock ≠ some bx from fun e => by
          obtain ⟨cs, h9⟩ := own_row hOk bx e
          rw [hXk] at h9
          simp at h9)
        have hsz := hBk.size
        clear hOk hBk hXk
        by_cases hkm : k < m
        · have hkm2 : (k : Int) < hh - lo := by omega
          obtain ⟨y, hy⟩ : ∃ y, Int.tmod lev 2 = y := ⟨_, rfl⟩
          have ht : y = 0 ↔ lev % 2 = 0 := by
            rw [← hy]
            constructor
            · intro h
              have := Int.dvd_of_tmod_eq_zero h
              omega
            · intro h
              exact Int.tmod_eq_zero_of_dvd (by omega)
          by_cases hp : lev % 2 = 0
          · obtain rfl : y = 0 := ht.2 hp
            have HPK := Lib.hid (show L0 ++ (List.range (k + 1)).map (plK (lo, hh, lev)) = (L0 ++ (List.range k).map (plK (lo, hh, lev))) ++ [lo + (k : Int)] by
              rw [List.range_succ, List.map_append, ← List.append_assoc]
              simp [plK, hp])
            clear ht hp
            go_wp2_with (first
              | (at_builtin; refine wpList_app rfl _ _ _ rfl intSliceM (by decide) _ (L0.length + k) _ rfl (HOK.out.alloc _) ⟨wr.heap.size, 0, none⟩ 1 1 [.int .i64 (lo + (k : Int))] rfl rfl (cells_new wr [.int .i64 (lo + (k : Int))] 3) (oneInt _ _) (by omega) (by unfold maxLen; omega) (Nat.le_trans hsz (by simp)) ?_; intro v1 w3 hown3 hg3 hat3)
              | fail)
            have HO3 : Hid (w3.ownsRow w.heap.size 3 1 v1 (L0.length + (k + 1)) ((L0 ++ (List.range (k + 1)).map (plK (lo, hh, lev))).map (Value.int .i64))) := Lib.hid (by rw [HPK.out, List.map_append]; exact hown3)
            have HB3 := Lib.hid (below_app (HBK.out.alloc hsz _) hg3 (HOK.out.alloc _) (Nat.le_trans hsz (by simp)))
            have HX3 := Lib.hid (blk_grown (blk_alloc HXK.out _) hg3 HNE.out)
            clear hown3 hg3 hat3
            go_roundw
            case rel => exact ⟨k + 1, by omega, by go_num, HO3.out, HB3.out, HX3.out⟩
            case measure => simp [intOf]; omega
          · have hy0 : ¬ y = 0 := fun e => hp (ht.1 e)
            have gy : (y != 0) = true := by simp [hy0]
            have HPK := Lib.hid (show L0 ++ (List.range (k + 1)).map (plK (lo, hh, lev)) = (L0 ++ (List.range k).map (plK (lo, hh, lev))) ++ [hh - 1 - (k : Int)] by
              rw [List.range_succ, List.map_append, ← List.append_assoc]
              simp [plK, hp])
            clear ht hp hy0
            go_wp2_with (first
              | (at_builtin; refine wpList_app rfl _ _ _ rfl intSliceM (by decide) _ (L0.length + k) _ rfl (HOK.out.alloc _) ⟨wr.heap.size, 0, none⟩ 1 1 [.int .i64 (hh - 1 - (k : Int))] rfl rfl (cells_new wr [.int .i64 (hh - 1 - (k : Int))] 3) (oneInt _ _) (by omega) (by unfold maxLen; omega) (Nat.le_trans hsz (by simp)) ?_; intro v1 w3 hown3 hg3 hat3)
              | fail)
            have HO3 : Hid (w3.ownsRow w.heap.size 3 1 v1 (L0.length + (k + 1)) ((L0 ++ (List.range (k + 1)).map (plK (lo, hh, lev))).map (Value.int .i64))) := Lib.hid (by rw [HPK.out, List.map_append]; exact hown3)
            have HB3 := Lib.hid (below_app (HBK.out.alloc hsz _) hg3 (HOK.out.alloc _) (Nat.le_trans hsz (by simp)))
            have HX3 := Lib.hid (blk_grown (blk_alloc HXK.out _) hg3 HNE.out)
            clear hown3 hg3 hat3
            go_roundw
            case rel => exact ⟨k + 1, by omega, by go_num, HO3.out, HB3.out, HX3.out⟩
            case measure => simp [intOf]; omega
        · obtain rfl : k = m := by omega
          have hkm2 : ¬ (k : Int) < hh - lo := by omega
          have HF := Lib.hid (show wr.ownsRow w.heap.size 3 1 u3 (ordI (l.take (i + 1))).length ((ordI (l.take (i + 1))).map (Value.int .i64)) by
            rw [HNX.out, HP1.out, List.length_append, List.length_map, List.length_range]
            exact HOK.out)
          have hle3 : (ordI (l.take (i + 1))).length ≤ 1000 * (i + 1) := by
            have := HLE.out
            rw [HNX.out, List.length_append]
            omega
          go_wp2
          go_roundw
          case rel => exact ⟨i + 1, by omega, by go_num, hle3, HF.out, HBK.out⟩
          case measure => simp [intOf]; omega
    · obtain rfl : i = n := by omega
      have HZ := Lib.hid (show l.take i = l from List.take_of_length_le (by rw [HL.out]; exact Nat.le_refl _))
      rw [HZ.out] at HO
      go_wp2
      go_ret
      exact ⟨_, rfl, HO.out, HB.out⟩
end Go.Proofs.Ytaiefneimjdmhaa
/- order.line's level, walked. -/
namespace Go.Proofs.Ytaiefneimjdmhaa
open Go.RowKit
set_option maxRecDepth 100000 in
set_option maxHeartbeats 1000000 in
theorem orLevel_any (X : Nat → Obj → Prop) (b g n : Nat) (R : List (TnR Nat)) (w0 w : World) (h : LnAt 46 50 X b g n R w0 w) (k : Nat) (t : TnR Nat) (hk : R[k]? = some t) (hm : R.length ≤ 100002) :
    Calls Try.prog 48 #[.pointer (some ⟨g, 0, none⟩), .int .i64 (k : Int)] w fun e w' => e = .returned (.int .i64 (t.lev : Int)) ∧ ∃ q, w' = w.drewN q := by
  obtain ⟨gR, m, c, j, hRm, hmj, hmc, hgs, c0, f0, c1, f1⟩ := h.row hk
  rw [hRm] at hm
  obtain ⟨lv, hlv⟩ : ∃ lv : Int, (t.lev : Int) = lv := ⟨_, rfl⟩
  rw [hlv] at c1 ⊢
  have i1 : (m : Int) - 1 - (k : Int) = (j : Int) := by omega
  have i2 : (0 : Int) ≤ (j : Int) := by omega
  have i3 : (j : Int) < (m : Int) := by omega
  have i4 : (m : Int) ≤ 100002 := by omega
  have i5 : (k : Int) ≤ 100002 := by omega
  clear h hk hRm hmj hlv
  go_enter Try.func48, Try.ntmps48
  go_wp2
  go_quiet (fail)
  go_wp2
  go_ret
  exact ⟨rfl, _, rfl⟩
end Go.Proofs.Ytaiefneimjdmhaa
