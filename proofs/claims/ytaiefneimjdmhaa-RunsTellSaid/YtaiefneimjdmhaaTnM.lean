/- Rows that lie in one another, in memory: each place is linked to the next one of its row. No function of the program. -/
import Derived.Test.YtaiefneimjdmhaaRoS
import Derived.Test.YtaiefneimjdmhaaTnD
import Derived.Test.YtaiefneimjdmhaaBlN
import Derived.Test.YtaiefneimjdmhaaHp
namespace Go.Proofs.Ytaiefneimjdmhaa
open Go.RowKit

/-- Each place of a row is linked to the next one. -/
def TnC (N : List Int) : List Nat → Prop
  | [] => True
  | [_] => True
  | a :: b :: l => N[a]? = some (b : Int) ∧ TnC N (b :: l)
theorem TnC.set {N : List Int} {x : Nat} {y : Int} : ∀ {s : List Nat}, TnC N s → x ∉ s → TnC (N.set x y) s
  | [], _, _ => trivial
  | [_], _, _ => trivial
  | a :: b :: l, h, hx => by
    refine ⟨?_, TnC.set h.2 (by intro e; exact hx (List.mem_cons_of_mem _ e))⟩
    rw [List.getElem?_set_ne (by intro e; apply hx; rw [e]; simp)]
    exact h.1
theorem TnC.join {N : List Int} {y : Nat} {b : List Nat} : ∀ {a : List Nat} {x : Nat}, TnC N a → TnC N (y :: b) → (a ++ y :: b).Nodup → a.getLast? = some x → x < N.length → TnC (N.set x (y : Int)) (a ++ y :: b)
  | [], _, _, _, _, h, _ => by simp at h
  | [z], x, _, hb, hn, h, hl => by
    obtain rfl : z = x := by simpa using h
    refine ⟨by rw [List.getElem?_set_self (by simpa using hl)], hb.set ?_⟩
    simpa using (List.nodup_cons.1 hn).1
  | z :: c :: l, x, ha, hb, hn, h, hl => by
    have hn' := (List.nodup_cons.1 hn)
    have h' : (c :: l).getLast? = some x := by simpa using h
    refine ⟨?_, TnC.join ha.2 hb hn'.2 h' hl⟩
    rw [List.getElem?_set_ne]
    · exact ha.1
    · rintro rfl
      exact hn'.1 (List.mem_append_left _ (List.mem_of_getLast? h'))
theorem TnC.at_ {N : List Int} : ∀ {s : List Nat} {i a b : Nat}, TnC N s → s[i]? = some a → s[i + 1]? = some b → N[a]? = some (b : Int)
  | [], _, _, _, _, h, _ => by simp at h
  | [_], i, _, _, _, _, h => by simp at h
  | x :: y :: l, 0, a, b, h, h1, h2 => by
    obtain rfl : x = a := by simpa using h1
    obtain rfl : y = b := by simpa using h2
    exact h.1
  | x :: y :: l, i + 1, a, b, h, h1, h2 => TnC.at_ h.2 (by simpa using h1) (by simpa using h2)
/-- A row as the program holds it: its level, its first place and its last one. -/
def tnG (t : TnR Nat) : Rg := ((t.lev : Int), ((t.seq.headD 0 : Nat) : Int), ((t.seq.getLastD 0 : Nat) : Int))
def tnL (R : List (TnR Nat)) : List Rg := (R.map tnG).reverse
theorem tnL_len (R : List (TnR Nat)) : (tnL R).length = R.length := by simp [tnL]
theorem tnL_cons (t : TnR Nat) (R : List (TnR Nat)) : tnL (t :: R) = tnL R ++ [tnG t] := by simp [tnL]
theorem tnL_top (t : TnR Nat) (R : List (TnR Nat)) : (tnL (t :: R))[R.length]? = some (tnG t) := by
  rw [tnL_cons, List.getElem?_append_right (by rw [tnL_len]; exact Nat.le_refl _), tnL_len, Nat.sub_self]
  rfl
theorem tnL_next (t u : TnR Nat) (R : List (TnR Nat)) : (tnL (t :: u :: R))[R.length]? = some (tnG u) := by
  rw [tnL_cons, List.getElem?_append_left (by rw [tnL_len]; simp), tnL_top]
/-- Rows whose places are linked. -/
structure TnK (n : Nat) (N : List Int) (R : List (TnR Nat)) : Prop where
  len : N.length = n
  ne : ∀ t ∈ R, t.seq ≠ []
  lev : ∀ t ∈ R, t.lev ≤ 126
  chn : ∀ t ∈ R, TnC N t.seq
  dup : (R.flatMap (·.seq)).Nodup
  lt : ∀ x ∈ R.flatMap (·.seq), x < n
theorem tn_ends {s : List Nat} (h : s ≠ []) : ∃ x y l m, s = x :: l ∧ s = m ++ [y] ∧ s.headD 0 = x ∧ s.getLastD 0 = y ∧ s.getLast? = some y ∧ x ∈ s ∧ y ∈ s := by
  obtain ⟨x, l, rfl⟩ := List.exists_cons_of_ne_nil h
  refine ⟨x, (x :: l).getLast (by simp), l, (x :: l).dropLast, rfl, (List.dropLast_concat_getLast _).symm, rfl, ?_, List.getLast?_eq_some_getLast _, by simp, List.getLast_mem _⟩
  rw [List.getLastD_eq_getLast?, List.getLast?_eq_some_getLast (by simp)]
  rfl
section
variable {n : Nat} {N : List Int} {R : List (TnR Nat)} {t u : TnR Nat}
theorem TnK.drop (h : TnK n N (t :: R)) : TnK n N R where
  len := h.len
  ne := fun x hx => h.ne x (List.mem_cons_of_mem _ hx)
  lev := fun x hx => h.lev x (List.mem_cons_of_mem _ hx)
  chn := fun x hx => h.chn x (List.mem_cons_of_mem _ hx)
  dup := by have := h.dup; rw [List.flatMap_cons] at this; exact (List.nodup_append.1 this).2.1
  lt := fun x hx => h.lt x (by rw [List.flatMap_cons]; exact List.mem_append_right _ hx)
theorem TnK.low (h : TnK n N (t :: R)) {v : Nat} (hv : v ≤ 126) : TnK n N (⟨v, t.seq⟩ :: R) where
  len := h.len
  ne := fun x hx => by
    rcases List.mem_cons.1 hx with rfl | hx
    · exact h.ne t (by simp)
    · exact h.ne x (List.mem_cons_of_mem _ hx)
  lev := fun x hx => by
    rcases List.mem_cons.1 hx with rfl | hx
    · exact hv
    · exact h.lev x (List.mem_cons_of_mem _ hx)
  chn := fun x hx => by
    rcases List.mem_cons.1 hx with rfl | hx
    · exact h.chn t (by simp)
    · exact h.chn x (List.mem_cons_of_mem _ hx)
  dup := h.dup
  lt := h.lt
theorem TnK.push (h : TnK n N R) {x v : Nat} (hx : x ∉ R.flatMap (·.seq)) (hn : x < n) (hv : v ≤ 126) : TnK n N (⟨v, [x]⟩ :: R) where
  len := h.len
  ne := fun y hy => by
    rcases List.mem_cons.1 hy with rfl | hy
    · simp
    · exact h.ne y hy
  lev := fun y hy => by
    rcases List.mem_cons.1 hy with rfl | hy
    · exact hv
    · exact h.lev y hy
  chn := fun y hy => by
    rcases List.mem_cons.1 hy with rfl | hy
    · trivial
    · exact h.chn y hy
  dup := by
    rw [List.flatMap_cons]
    exact List.nodup_cons.2 ⟨hx, h.dup⟩
  lt := fun y hy => by
    rw [List.flatMap_cons] at hy
    rcases List.mem_cons.1 hy with rfl | hy
    · exact hn
    · exact h.lt y hy
/-- Which row is seen first of two that become one. -/
def tnA (u t : TnR Nat) : TnR Nat × TnR Nat := if u.lev % 2 = 1 then (t, u) else (u, t)
theorem tnA_join (u t : TnR Nat) : (u.join t).seq = (tnA u t).1.seq ++ (tnA u t).2.seq := by
  unfold TnR.join tnA
  simp only
  split <;> rfl
theorem tn_join_perm (u t : TnR Nat) (R : List (TnR Nat)) : ((u.join t :: R).flatMap (·.seq)).Perm ((t :: u :: R).flatMap (·.seq)) := by
  rw [List.flatMap_cons, List.flatMap_cons, List.flatMap_cons, ← List.append_assoc]
  refine List.Perm.append_right _ ?_
  unfold TnR.join
  simp only
  split
  · exact .refl _
  · exact List.perm_append_comm
theorem TnK.join (h : TnK n N (t :: u :: R)) : TnK n (N.set (((tnA u t).1.seq).getLastD 0) ((((tnA u t).2.seq).headD 0 : Nat) : Int)) (u.join t :: R) := by
  have hp := tn_join_perm u t R
  have hd := hp.nodup_iff.2 h.dup
  have ha : (tnA u t).1.seq ≠ [] ∧ TnC N (tnA u t).1.seq ∧ (tnA u t).2.seq ≠ [] ∧ TnC N (tnA u t).2.seq := by
    unfold tnA
    split
    · exact ⟨h.ne t (by simp), h.chn t (by simp), h.ne u (by simp), h.chn u (by simp)⟩
    · exact ⟨h.ne u (by simp), h.chn u (by simp), h.ne t (by simp), h.chn t (by simp)⟩
  obtain ⟨h1, h2, h3, h4⟩ := ha
  obtain ⟨x, y, l, m, e1, e2, e3, e4, e5, e6, e7⟩ := tn_ends h1
  obtain ⟨x', y', l', m', f1, f2, f3, f4, f5, f6, f7⟩ := tn_ends h3
  have hj := tnA_join u t
  have hyn : y < n := h.lt y (hp.mem_iff.1 (by rw [List.flatMap_cons, hj]; exact List.mem_append_left _ (List.mem_append_left _ e7)))
  rw [e4, f3]
  refine ⟨by rw [List.length_set]; exact h.len, ?_, ?_, ?_, hd, fun z hz => h.lt z (hp.mem_iff.1 hz)⟩
  · intro z hz
    rcases List.mem_cons.1 hz with rfl | hz
    · rw [hj]; simp [h1]
    · exact h.ne z (by simp [hz])
  · intro z hz
    rcases List.mem_cons.1 hz with rfl | hz
    · exact h.lev u (by simp)
    · exact h.lev z (by simp [hz])
  · intro z hz
    rw [List.flatMap_cons] at hd
    obtain ⟨hd1, hd2, hd3⟩ := List.nodup_append.1 hd
    rcases List.mem_cons.1 hz with rfl | hz
    · rw [hj, f1] at hd1 ⊢
      exact h2.join (by rw [f1] at h4; exact h4) hd1 e5 (by rw [h.len]; exact hyn)
    · refine (h.chn z (by simp [hz])).set ?_
      intro hy
      exact hd3 y (by rw [hj]; exact List.mem_append_left _ e7) y (List.mem_flatMap.2 ⟨z, hz, hy⟩) rfl
end
/-- A line's rows and links in memory. -/
structure LnAt (T E : TypeId) (X : Nat → Obj → Prop) (b g n : Nat) (R : List (TnR Nat)) (w0 w : World) : Prop where
  ex : ∃ (v : Value) (gN : Nat) (N : List Int), w.heap[g]? = some (.cells #[v, .slice (some ⟨gN, 0, none⟩) n n] T (0, 0)) ∧ w.ownsRow b E 3 v R.length (cellsG (tnL R)) ∧ w.ownsRow b 3 1 (.slice (some ⟨gN, 0, none⟩) n n) n (intsZ N) ∧ TnK n N R ∧ v.ownBlock ≠ some g ∧ gN ≠ g ∧ v.ownBlock ≠ some gN ∧ ∀ k o, X k o → w.heap[k]? = some o ∧ k ≠ g ∧ k ≠ gN ∧ v.ownBlock ≠ some k
  low : Below b w0 w
  le : b ≤ g
section
variable {T E : TypeId} {X : Nat → Obj → Prop} {b g n : Nat} {R : List (TnR Nat)} {w0 w w' : World} {t u : TnR Nat}
theorem LnAt.below (h : LnAt T E X b g n R w0 w) (hb : Below w.heap.size w w') : LnAt T E X b g n R w0 w' := by
  obtain ⟨v, gN, N, h1, h2, h3, h4, h5, h6, h7, h8⟩ := h.ex
  exact ⟨⟨v, gN, N, (hb.block g (hp_lt h1)).trans h1, own_below h2 hb, own_below h3 hb, h4, h5, h6, h7, fun k o hx => ⟨(hb.block k (hp_lt (h8 k o hx).1)).trans (h8 k o hx).1, (h8 k o hx).2⟩⟩, h.low.trans (hb.mono (Nat.le_trans h.le (Nat.le_of_lt (hp_lt h1)))), h.le⟩
theorem LnAt.drewN (h : LnAt T E X b g n R w0 w) (q : Nat) : LnAt T E X b g n R w0 (w.drewN q) := h.below (drewBelow q)
/-- The last row but k: where it lies. -/
theorem LnAt.row (h : LnAt T E X b g n R w0 w) {k : Nat} (hk : R[k]? = some t) : ∃ gR m c j, R.length = m ∧ m = j + k + 1 ∧ m ≤ c ∧ g < w.heap.size ∧ w.cell? ⟨g, 0, none⟩ = some (.slice (some ⟨gR, 0, none⟩) m c) ∧ w.frozen? ⟨g, 0, none⟩ = false ∧
    w.cell? ⟨gR, j * 3, none⟩ = some (.int .i64 (t.lev : Int)) ∧ w.frozen? ⟨gR, j * 3, none⟩ = false := by
  obtain ⟨v, gN, N, h1, h2, h3, h4, h5, h6, h7, h8⟩ := h.ex
  have hkl := (List.getElem?_eq_some_iff.1 hk).1
  obtain ⟨gR, cap, rfl, hbg, hlt⟩ := h2.form (by omega)
  obtain ⟨_, c', e, hnc⟩ := own_form h2
  injection e with _ _ e
  subst e
  obtain ⟨j, hj⟩ : ∃ j, R.length = j + k + 1 := ⟨R.length - 1 - k, by omega⟩
  have hjt : (tnL R)[j]? = some (tnG t) := by
    unfold tnL
    rw [List.getElem?_reverse (by rw [List.length_map]; omega), List.length_map, show R.length - 1 - j = k by omega, List.getElem?_map, hk]
    rfl
  have hc := (cellsG_at hjt).1
  have hjl := (List.getElem?_eq_some_iff.1 hjt).1
  rw [tnL_len] at hjl
  exact ⟨gR, R.length, cap, j, rfl, hj, hnc, hp_lt h1, hp_cell h1 rfl, hp_froz h1 0, by rw [h2.cellAt (j * 3) (by omega)]; exact hc, h2.frozenAt _⟩
end
theorem cellsG_app (a b : List Rg) : cellsG (a ++ b) = cellsG a ++ cellsG b := by simp [cellsG]
theorem cellsG_take (a b : List Rg) {p : Nat} (h : a.length = p) : (cellsG (a ++ b)).take (p * 3) = cellsG a := by
  rw [cellsG_app, List.take_append_of_le_length (by rw [cellsG_len, h]; exact Nat.le_refl _), ← h, ← cellsG_len, List.take_length]
theorem own_away {w : World} {base : Nat} {e : TypeId} {size : Nat} {v : Value} {n : Nat} {xs : List Value} {g : Nat} (h : w.ownsRow base e size v n xs) (hne : v.ownBlock ≠ some g) (j : Nat) (u : Value) : (w.setCell ⟨g, j, none⟩ u).ownsRow base e size v n xs := by
  refine h.kept (row := some g) (grown_set (World.grownBy.refl w _) j u) ?_
  cases hv : v.ownBlock with
  | none => exact .inl rfl
  | some k => exact .inr (fun e => hne (by rw [hv]; exact e))
/-- Two boxes of rows of the call's own. -/
structure BxTwo (E : TypeId) (w w' : World) (a b : Nat) (x y : Rg) : Prop where
  ha : w'.heap[a]? = some (.cells #[.int .i64 x.1, .int .i64 x.2.1, .int .i64 x.2.2] E (0, 0))
  hb : w'.heap[b]? = some (.cells #[.int .i64 y.1, .int .i64 y.2.1, .int .i64 y.2.2] E (0, 0))
  ne : a ≠ b
  la : w.heap.size ≤ a
  lb : w.heap.size ≤ b
  low : Below w.heap.size w w'
theorem bxTwo_ab (E : TypeId) (w : World) (x y : Rg) : BxTwo E w ((w.alloc (.cells #[.int .i64 x.1, .int .i64 x.2.1, .int .i64 x.2.2] E)).alloc (.cells #[.int .i64 y.1, .int .i64 y.2.1, .int .i64 y.2.2] E)).drew w.heap.size (w.heap.size + 1) x y where
  ha := by
    rw [show ((w.alloc (.cells #[.int .i64 x.1, .int .i64 x.2.1, .int .i64 x.2.2] E)).alloc (.cells #[.int .i64 y.1, .int .i64 y.2.1, .int .i64 y.2.2] E)).drew.heap = ((w.alloc (.cells #[.int .i64 x.1, .int .i64 x.2.1, .int .i64 x.2.2] E)).alloc (.cells #[.int .i64 y.1, .int .i64 y.2.1, .int .i64 y.2.2] E)).heap from rfl, heap_alloc_old (h := by simp)]
    exact heap_alloc_new w _
  hb := by
    have h1 := heap_alloc_new (w.alloc (.cells #[.int .i64 x.1, .int .i64 x.2.1, .int .i64 x.2.2] E)) (.cells #[.int .i64 y.1, .int .i64 y.2.1, .int .i64 y.2.2] E)
    rw [World.size_alloc] at h1
    exact h1
  ne := by omega
  la := Nat.le_refl _
  lb := by omega
  low := (((Below.refl _ _).alloc (Nat.le_refl _) _).alloc (by simp) _).drew
theorem BxTwo.turn {E : TypeId} {w w' : World} {a b : Nat} {x y : Rg} (h : BxTwo E w w' a b x y) : BxTwo E w w' b a y x := ⟨h.hb, h.ha, h.ne.symm, h.lb, h.la, h.low⟩
/-- A line while two of its rows become one. -/
structure JnSt (T E : TypeId) (X : Nat → Obj → Prop) (b g n gN gR m c gl gr : Nat) (L : List Rg) (N : List Int) (x y : Rg) (w0 w : World) : Prop where
  box : w.heap[g]? = some (.cells #[.slice (some ⟨gR, 0, none⟩) m c, .slice (some ⟨gN, 0, none⟩) n n] T (0, 0))
  rows : w.ownsRow b E 3 (.slice (some ⟨gR, 0, none⟩) m c) m (cellsG L)
  next : w.ownsRow b 3 1 (.slice (some ⟨gN, 0, none⟩) n n) n (intsZ N)
  ha : w.heap[gl]? = some (.cells #[.int .i64 x.1, .int .i64 x.2.1, .int .i64 x.2.2] E (0, 0))
  hb : w.heap[gr]? = some (.cells #[.int .i64 y.1, .int .i64 y.2.1, .int .i64 y.2.2] E (0, 0))
  low : Below b w0 w
  le : b ≤ g ∧ b ≤ gN ∧ b ≤ gR ∧ b ≤ gl ∧ b ≤ gr
  ne : gR ≠ g ∧ gN ≠ g ∧ gR ≠ gN ∧ gl ≠ gr ∧ gl ≠ g ∧ gl ≠ gN ∧ gl ≠ gR ∧ gr ≠ g ∧ gr ≠ gN ∧ gr ≠ gR
  xt : ∀ k o, X k o → w.heap[k]? = some o ∧ k ≠ g ∧ k ≠ gN ∧ k ≠ gR ∧ k ≠ gl ∧ k ≠ gr
section
variable {T E : TypeId} {X : Nat → Obj → Prop} {b g n gN gR m c gl gr : Nat} {L : List Rg} {N : List Int} {x y : Rg} {w0 w : World}
theorem JnSt.drewN (h : JnSt T E X b g n gN gR m c gl gr L N x y w0 w) (q : Nat) : JnSt T E X b g n gN gR m c gl gr L N x y w0 (w.drewN q) := ⟨h.box, own_below h.rows (drewBelow q), own_below h.next (drewBelow q), h.ha, h.hb, below_drewN h.low q, h.le, h.ne, h.xt⟩
theorem JnSt.drew (h : JnSt T E X b g n gN gR m c gl gr L N x y w0 w) : JnSt T E X b g n gN gR m c gl gr L N x y w0 w.drew := h.drewN 1
theorem slice_block {g' g n c : Nat} (h : g' ≠ g) : (Value.slice (some ⟨g', 0, none⟩) n c).ownBlock ≠ some g := fun e => h (by injection e)
theorem JnSt.setN (h : JnSt T E X b g n gN gR m c gl gr L N x y w0 w) (a : Nat) (f : Int) : JnSt T E X b g n gN gR m c gl gr L (N.set a f) x y w0 (w.setCell ⟨gN, a, none⟩ (.int .i64 f)) := by
  obtain ⟨n1, n2, n3, n4, n5, n6, n7, n8, n9, n10⟩ := h.ne
  refine ⟨(hp_far (fun e => n2 e.symm) _ _).trans h.box, own_away h.rows (slice_block n3) _ _, ?_, (hp_far n6 _ _).trans h.ha, (hp_far n9 _ _).trans h.hb, h.low.setCell (p := ⟨gN, a, none⟩) h.le.2.1 _, h.le, h.ne, fun k o hx => ⟨(hp_far (h.xt k o hx).2.2.1 _ _).trans (h.xt k o hx).1, (h.xt k o hx).2⟩⟩
  rw [intsZ_set]
  exact (h.next.stored a (.int .i64 f)).1
theorem JnSt.cellR (h : JnSt T E X b g n gN gR m c gl gr L N x y w0 w) {k : Nat} {u : Value} (hu : (cellsG L)[k]? = some u) : w.cell? ⟨gR, k, none⟩ = some u ∧ w.frozen? ⟨gR, k, none⟩ = false := by
  refine ⟨?_, h.rows.frozenAt _⟩
  have hk := (List.getElem?_eq_some_iff.1 hu).1
  rw [h.rows.cellAt k (by rw [← h.rows.1]; exact hk)]
  exact hu
theorem JnSt.putR (h : JnSt T E X b g n gN gR m c gl gr L N x y w0 w) (k : Nat) (z : Rg) (hk : k < L.length) : JnSt T E X b g n gN gR m c gl gr (L.set k z) N x y w0 (putG w gR k z) := by
  obtain ⟨n1, n2, n3, n4, n5, n6, n7, n8, n9, n10⟩ := h.ne
  unfold putG
  have hf : ∀ {q : Nat} {o : Obj}, gR ≠ q → w.heap[q]? = some o → (((w.setCell ⟨gR, k * 3, none⟩ (.int .i64 z.1)).setCell ⟨gR, k * 3 + 1, none⟩ (.int .i64 z.2.1)).setCell ⟨gR, k * 3 + 2, none⟩ (.int .i64 z.2.2)).heap[q]? = some o := fun hq ho => by rw [hp_far hq.symm, hp_far hq.symm, hp_far hq.symm]; exact ho
  refine ⟨hf n1 h.box, ?_, own_away (own_away (own_away h.next (slice_block n3.symm) _ _) (slice_block n3.symm) _ _) (slice_block n3.symm) _ _, hf n7.symm h.ha, hf n10.symm h.hb, below_putG h.low h.le.2.2.1 z, h.le, h.ne, fun k o hx => ⟨hf (h.xt k o hx).2.2.2.1.symm (h.xt k o hx).1, (h.xt k o hx).2⟩⟩
  have := (((h.rows.stored (k * 3) (.int .i64 z.1)).1.stored (k * 3 + 1) (.int .i64 z.2.1)).1.stored (k * 3 + 2) (.int .i64 z.2.2)).1
  rw [cellsG_set hk] at this
  exact this
theorem box3_put {w : World} {q : Nat} {x y : Rg} (h : w.heap[q]? = some (.cells #[.int .i64 x.1, .int .i64 x.2.1, .int .i64 x.2.2] E (0, 0))) : (((w.setCell ⟨q, 0, none⟩ (.int .i64 y.1)).setCell ⟨q, 1, none⟩ (.int .i64 y.2.1)).setCell ⟨q, 2, none⟩ (.int .i64 y.2.2)).heap[q]? = some (.cells #[.int .i64 y.1, .int .i64 y.2.1, .int .i64 y.2.2] E (0, 0)) := by
  have h1 := heap_setCell_same w q 0 _ E (.int .i64 y.1) h
  have h2 := heap_setCell_same _ q 1 _ E (.int .i64 y.2.1) h1
  have h3 := heap_setCell_same _ q 2 _ E (.int .i64 y.2.2) h2
  exact h3
def put3 (w : World) (q : Nat) (y : Rg) : World := ((w.setCell ⟨q, 0, none⟩ (.int .i64 y.1)).setCell ⟨q, 1, none⟩ (.int .i64 y.2.1)).setCell ⟨q, 2, none⟩ (.int .i64 y.2.2)
theorem JnSt.swap (h : JnSt T E X b g n gN gR m c gl gr L N x y w0 w) : JnSt T E X b g n gN gR m c gl gr L N y x w0 (put3 (put3 w gl y) gr x) := by
  obtain ⟨n1, n2, n3, n4, n5, n6, n7, n8, n9, n10⟩ := h.ne
  have hf : ∀ {q k : Nat} {o : Obj} {w : World} {z : Rg}, q ≠ k → w.heap[k]? = some o → (put3 w q z).heap[k]? = some o := fun hq ho => by unfold put3; rw [hp_far hq.symm, hp_far hq.symm, hp_far hq.symm]; exact ho
  have ho : ∀ {q : Nat} {w : World} {z : Rg} {base : Nat} {e : TypeId} {size : Nat} {v : Value} {n : Nat} {xs : List Value}, v.ownBlock ≠ some q → w.ownsRow base e size v n xs → (put3 w q z).ownsRow base e size v n xs := fun hq h => own_away (own_away (own_away h hq _ _) hq _ _) hq _ _
  have hl : ∀ {q : Nat} {w : World} {z : Rg}, b ≤ q → Below b w0 w → Below b w0 (put3 w q z) := fun {q w z} hq h => ((h.setCell (p := ⟨q, 0, none⟩) hq _).setCell (p := ⟨q, 1, none⟩) hq _).setCell (p := ⟨q, 2, none⟩) hq _
  refine ⟨hf n8 (hf n5 h.box), ho (slice_block n10.symm) (ho (slice_block n7.symm) h.rows), ho (slice_block n9.symm) (ho (slice_block n6.symm) h.next), hf n4.symm (box3_put h.ha), box3_put (hf n4 h.hb), hl h.le.2.2.2.2 (hl h.le.2.2.2.1 h.low), h.le, h.ne, fun k o hx => ⟨hf (h.xt k o hx).2.2.2.2.2.symm (hf (h.xt k o hx).2.2.2.2.1.symm (h.xt k o hx).1), (h.xt k o hx).2⟩⟩
theorem JnSt.fin (h : JnSt T E X b g n gN gR m c gl gr L N x y w0 w) {R : List (TnR Nat)} {q : Nat} (hq : R.length = q) (hqm : q ≤ m) (hL : (cellsG L).take (q * 3) = cellsG (tnL R)) (hk : TnK n N R) : LnAt T E X b g n R w0 (w.setCell ⟨g, 0, none⟩ (.slice (some ⟨gR, 0, none⟩) q c)) := by
  obtain ⟨n1, n2, n3, n4, n5, n6, n7, n8, n9, n10⟩ := h.ne
  subst hq
  have h1 := headM h.rows hqm
  rw [hL] at h1
  refine ⟨⟨.slice (some ⟨gR, 0, none⟩) R.length c, gN, N, ?_, own_away h1 (slice_block n1) _ _, own_away h.next (slice_block n2) _ _, hk, slice_block n1, n2, slice_block n3, fun k o hx => ⟨(hp_far (h.xt k o hx).2.1 _ _).trans (h.xt k o hx).1, (h.xt k o hx).2.1, (h.xt k o hx).2.2.1, slice_block (h.xt k o hx).2.2.2.1.symm⟩⟩, h.low.setCell (p := ⟨g, 0, none⟩) h.le.1 _, h.le.1⟩
  exact heap_setCell_same w g 0 _ T _ h.box
end
theorem TnK.last_lt {n : Nat} {N : List Int} {R : List (TnR Nat)} (h : TnK n N R) {t : TnR Nat} (ht : t ∈ R) : t.seq.getLastD 0 < n := by
  obtain ⟨x, y, l, m, e1, e2, e3, e4, e5, e6, e7⟩ := tn_ends (h.ne t ht)
  rw [e4]
  exact h.lt y (List.mem_flatMap.2 ⟨t, ht, e7⟩)
theorem tnG_join {n : Nat} {N : List Int} {R : List (TnR Nat)} {t u : TnR Nat} (h : TnK n N (t :: u :: R)) : tnG (u.join t) = ((u.lev : Int), (((tnA u t).1.seq.headD 0 : Nat) : Int), (((tnA u t).2.seq.getLastD 0 : Nat) : Int)) := by
  have ha : (tnA u t).1.seq ≠ [] ∧ (tnA u t).2.seq ≠ [] := by
    unfold tnA
    split
    · exact ⟨h.ne t (by simp), h.ne u (by simp)⟩
    · exact ⟨h.ne u (by simp), h.ne t (by simp)⟩
  obtain ⟨x, y, l, m, e1, e2, e3, e4, e5, e6, e7⟩ := tn_ends ha.1
  obtain ⟨x', y', l', m', f1, f2, f3, f4, f5, f6, f7⟩ := tn_ends ha.2
  unfold tnG
  rw [tnA_join, e3, f4]
  have e : ((tnA u t).1.seq ++ (tnA u t).2.seq).headD 0 = x := by rw [e1]; rfl
  have f : ((tnA u t).1.seq ++ (tnA u t).2.seq).getLastD 0 = y' := by rw [f2, ← List.append_assoc]; simp
  rw [e, f]
  rfl
theorem tnL_put {t u : TnR Nat} {R : List (TnR Nat)} {z : Rg} {r p : Nat} (hr : R.length = r) (hp : r + 1 = p) : (cellsG ((tnL (t :: u :: R)).set r z)).take (p * 3) = cellsG (tnL R ++ [z]) := by
  have e : (tnL (t :: u :: R)).set r z = (tnL R ++ [z]) ++ [tnG t] := by
    rw [tnL_cons, tnL_cons, List.append_assoc, List.set_append_right _ _ (by rw [tnL_len]; omega), tnL_len, hr, Nat.sub_self]
    simp
  rw [e, cellsG_take _ _ (by rw [List.length_append, tnL_len]; simpa [hr] using hp)]
section
variable {T E : TypeId} {X : Nat → Obj → Prop} {b g n : Nat} {R : List (TnR Nat)} {w0 w w' : World} {t u : TnR Nat}
/-- The last row's level is set. -/
theorem LnAt.top (h : LnAt T E X b g n (t :: R) w0 w) : ∃ gR m c, R.length + 1 = m ∧ m ≤ c ∧ g < w.heap.size ∧ w.cell? ⟨g, 0, none⟩ = some (.slice (some ⟨gR, 0, none⟩) m c) ∧ w.frozen? ⟨g, 0, none⟩ = false ∧
    w.cell? ⟨gR, R.length * 3, none⟩ = some (.int .i64 (t.lev : Int)) ∧ w.frozen? ⟨gR, R.length * 3, none⟩ = false ∧ ∀ v : Nat, v ≤ 126 → LnAt T E X b g n (⟨v, t.seq⟩ :: R) w0 (w.setCell ⟨gR, R.length * 3, none⟩ (.int .i64 (v : Int))) := by
  obtain ⟨v, gN, N, h1, h2, h3, h4, h5, h6, h7, h8⟩ := h.ex
  obtain ⟨gR, cap, rfl, hbg, hlt⟩ := h2.form (by simp)
  obtain ⟨_, c', e, hnc⟩ := own_form h2
  injection e with _ _ e
  subst e
  have hn1 : gR ≠ g := fun e => h5 (by rw [e]; rfl)
  have hn2 : gR ≠ gN := fun e => h7 (by rw [e]; rfl)
  have hjt := tnL_top t R
  have hc := (cellsG_at hjt).1
  refine ⟨gR, R.length + 1, cap, rfl, hnc, hp_lt h1, hp_cell h1 rfl, hp_froz h1 0, by rw [h2.cellAt (R.length * 3) (by simp only [List.length_cons]; omega)]; exact hc, h2.frozenAt _, fun v hv => ?_⟩
  refine ⟨⟨_, gN, N, (hp_far hn1.symm _ _).trans h1, ?_, own_away h3 (slice_block hn2.symm) _ _, h4.low hv, h5, h6, h7, fun k o hx => ?_⟩, h.low.setCell (p := ⟨gR, R.length * 3, none⟩) hbg _, h.le⟩
  · have h9 := (h2.stored (R.length * 3) (.int .i64 (v : Int))).1
    have e : (cellsG (tnL (t :: R))).set (R.length * 3) (.int .i64 (v : Int)) = cellsG (tnL (⟨v, t.seq⟩ :: R)) := by
      rw [tnL_cons, tnL_cons, cellsG_app, cellsG_app, List.set_append_right _ _ (by rw [cellsG_len, tnL_len]; exact Nat.le_refl _), cellsG_len, tnL_len, Nat.sub_self]
      rfl
    rw [e] at h9
    exact h9
  · obtain ⟨x1, x2, x3, x4⟩ := h8 k o hx
    exact ⟨(hp_far (fun e => x4 (by rw [e]; rfl)) _ _).trans x1, x2, x3, x4⟩
/-- How many rows a line has. -/
theorem LnAt.len (h : LnAt T E X b g n R w0 w) : ∃ v c, w.cell? ⟨g, 0, none⟩ = some (.slice v R.length c) ∧ R.length ≤ c ∧ g < w.heap.size ∧ w.frozen? ⟨g, 0, none⟩ = false := by
  obtain ⟨v, gN, N, h1, h2, h3, h4, h5, h6, h7, h8⟩ := h.ex
  obtain ⟨A, c', rfl, hnc⟩ := own_form h2
  exact ⟨A, c', hp_cell h1 rfl, hnc, hp_lt h1, hp_froz h1 0⟩
theorem LnAt.extra (h : LnAt T E X b g n R w0 w) {k : Nat} {o : Obj} (hx : X k o) : w.heap[k]? = some o := by
  obtain ⟨v, gN, N, h1, h2, h3, h4, h5, h6, h7, h8⟩ := h.ex
  exact (h8 k o hx).1
/-- A box of the caller's own is kept, too. -/
theorem LnAt.more (h : LnAt T E X b g n R w0 w) {Y : Nat → Obj → Prop} (hb : Below w.heap.size w w') (hy : ∀ k o, Y k o → X k o ∨ (w.heap.size ≤ k ∧ w'.heap[k]? = some o)) : LnAt T E Y b g n R w0 w' := by
  have h' := h.below hb
  obtain ⟨v, gN, N, h1, h2, h3, h4, h5, h6, h7, h8⟩ := h.ex
  refine ⟨⟨v, gN, N, (hb.block g (hp_lt h1)).trans h1, own_below h2 hb, own_below h3 hb, h4, h5, h6, h7, fun k o hk => ?_⟩, h'.low, h.le⟩
  rcases hy k o hk with hx | ⟨hx, ho⟩
  · exact ⟨(hb.block k (hp_lt (h8 k o hx).1)).trans (h8 k o hx).1, (h8 k o hx).2⟩
  · have hg := hp_lt h1
    have hgN := (h3.lt gN rfl).2
    exact ⟨ho, by omega, by omega, fun e => by have := (h2.lt k e).2; omega⟩
theorem LnAt.less (h : LnAt T E X b g n R w0 w) {Y : Nat → Obj → Prop} (hy : ∀ k o, Y k o → X k o) : LnAt T E Y b g n R w0 w := h.more (Below.refl _ _) fun k o hk => .inl (hy k o hk)
end
/-- A row ends, or lies in one of less level. -/
def tnLow {α : Type} (v : Nat) (t : TnR α) : List (TnR α) → List (TnR α)
  | [] => [⟨v, t.seq⟩]
  | u :: R => if v ≤ u.lev then u.join t :: R else ⟨v, t.seq⟩ :: u :: R
theorem tnPop_stay {α : Type} {v : Nat} {t : TnR α} {R : List (TnR α)} (h : ¬ v < t.lev) : tnPop v t R = t :: R := by
  cases R with
  | nil => rw [tnPop, if_neg h]
  | cons u R => rw [tnPop, if_neg h]
theorem tnLow_pop {α : Type} {v : Nat} {t : TnR α} {R : List (TnR α)} (h : v < t.lev) : ∃ t2 R2, tnLow v t R = t2 :: R2 ∧ tnPop v t2 R2 = tnPop v t R ∧ R2.length ≤ R.length ∧ (R2.length < R.length ∨ ¬ v < t2.lev) := by
  cases R with
  | nil =>
    refine ⟨⟨v, t.seq⟩, [], rfl, ?_, Nat.le_refl _, .inr (by simp)⟩
    rw [tnPop, tnPop, if_pos h, if_neg (by simp)]
  | cons u R =>
    rw [tnLow]
    by_cases hu : v ≤ u.lev
    · rw [if_pos hu]
      exact ⟨_, R, rfl, by rw [tnPop, if_pos h, if_pos hu], by simp, .inl (by simp)⟩
    · rw [if_neg hu]
      exact ⟨_, _, rfl, by rw [tnPop_stay (by simp), tnPop, if_pos h, if_neg hu], Nat.le_refl _, .inr (by simp)⟩
end Go.Proofs.Ytaiefneimjdmhaa
