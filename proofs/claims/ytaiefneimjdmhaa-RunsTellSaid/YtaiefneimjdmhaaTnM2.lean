/- Rows that lie in one another, in memory: a row follows. No function of the program. -/
import Derived.Test.YtaiefneimjdmhaaTnM
namespace Go.Proofs.Ytaiefneimjdmhaa
open Go.RowKit

theorem rdNewT (w : World) (x y z : Value) (t : TypeId) : Rd (w.alloc (.cells #[x, y, z] t)) 3 (some ⟨w.heap.size, 0, none⟩) 1 [x, y, z] := ⟨rfl, fun _ => ⟨_, rfl, by simp, cells_new w [x, y, z] t⟩⟩
/-- A row follows: where the row of rows lies, and what holds behind its append and its store. -/
theorem LnAt.grow {T E : TypeId} {X : Nat → Obj → Prop} {b g n : Nat} {R : List (TnR Nat)} {w0 w : World} (h : LnAt T E X b g n R w0 w) : ∃ A c, R.length ≤ c ∧ g < w.heap.size ∧ b ≤ w.heap.size ∧ w.cell? ⟨g, 0, none⟩ = some (.slice A R.length c) ∧ w.ownsRow b E 3 (.slice A R.length c) R.length (cellsG (tnL R)) ∧
    ∀ (w1 w2 : World) (v' : Value) (x lv : Nat), Below w.heap.size w w1 → w1.grownBy w2 (Value.slice A R.length c).ownBlock → w2.ownsRow b E 3 v' (R.length + 1) (cellsG (tnL R) ++ [.int .i64 (lv : Int), .int .i64 (x : Int), .int .i64 (x : Int)]) → (v'.ownBlock = (Value.slice A R.length c).ownBlock ∨ v'.ownBlock = some w1.heap.size) → x ∉ R.flatMap (·.seq) → x < n → lv ≤ 126 →
      w2.cell? ⟨g, 0, none⟩ = some (.slice A R.length c) ∧ w2.frozen? ⟨g, 0, none⟩ = false ∧ LnAt T E X b g n (⟨lv, [x]⟩ :: R) w0 (w2.setCell ⟨g, 0, none⟩ v') := by
  obtain ⟨v, gN, N, h1, h2, h3, h4, h5, h6, h7, h8⟩ := h.ex
  obtain ⟨A, c, rfl, hnc⟩ := own_form h2
  have hgs := hp_lt h1
  have hbs : b ≤ w.heap.size := Nat.le_trans h.le (Nat.le_of_lt hgs)
  refine ⟨A, c, hnc, hgs, hbs, hp_cell h1 rfl, h2, fun w1 w2 v' x lv hb hg hown hat hx hxn hlv => ?_⟩
  have b1 : w2.heap[g]? = _ := blk_grown ((hb.block g hgs).trans h1) hg h5
  have hne : ∀ k, k < w.heap.size → (Value.slice A R.length c).ownBlock ≠ some k → v'.ownBlock ≠ some k := fun k hk hne e => by
    rcases hat with e1 | e1
    · exact hne (e1.symm.trans e)
    · rw [e1] at e
      have := hb.size
      have : w1.heap.size = k := by simpa using e
      omega
  have hgN := (h3.lt gN rfl).2
  have o1 : w1.ownsRow b E 3 (.slice A R.length c) R.length (cellsG (tnL R)) := own_below h2 hb
  refine ⟨hp_cell b1 rfl, hp_froz b1 0, ⟨⟨v', gN, N, heap_setCell_same w2 g 0 _ T _ b1, ?_, own_away ((own_below h3 hb).kept hg ?_) (slice_block h6) _ _, h4.push hx hxn hlv, hne g hgs h5, h6, hne gN hgN h7, fun k o hk => ?_⟩, ?_, h.le⟩⟩
  · have := own_away (g := g) hown (hne g hgs h5) 0 v'
    rw [tnL_cons, cellsG_snoc]
    exact this
  · exact .inr (fun e => h7 (by rw [← e]; rfl))
  · obtain ⟨x1, x2, x3, x4⟩ := h8 k o hk
    exact ⟨(hp_far x2 _ _).trans (blk_grown ((hb.block k (hp_lt x1)).trans x1) hg x4), x2, x3, hne k (hp_lt x1) x4⟩
  · exact (below_app (h.low.trans (hb.mono hbs)) hg o1 (Nat.le_trans hbs hb.size)).setCell (p := ⟨g, 0, none⟩) h.le _
theorem tnLow_perm {v : Nat} {t : TnR Nat} {R : List (TnR Nat)} : ((tnLow v t R).flatMap (·.seq)).Perm ((t :: R).flatMap (·.seq)) := by
  cases R with
  | nil => exact .refl _
  | cons u R =>
    rw [tnLow]
    split
    · exact tn_join_perm u t R
    · exact .refl _
/-- How many rounds are to come. -/
def tnCnt (v : Nat) : List (TnR Nat) → Nat
  | [] => 0
  | t :: R => R.length + if v < t.lev then 1 else 0
theorem tnCnt_low {v : Nat} {t : TnR Nat} {R : List (TnR Nat)} (h : v < t.lev) : tnCnt v (tnLow v t R) < tnCnt v (t :: R) := by
  obtain ⟨t2, R2, e, _, h1, h2⟩ := tnLow_pop (R := R) h
  rw [e, tnCnt, tnCnt, if_pos h]
  rcases h2 with h2 | h2
  · split <;> omega
  · rw [if_neg h2]; omega
theorem tnPut_low {v x : Nat} {t : TnR Nat} {R : List (TnR Nat)} (h : v < t.lev) : tnPut ⟨v, [x]⟩ (tnLow v t R) = tnPut ⟨v, [x]⟩ (t :: R) := by
  obtain ⟨t2, R2, e, h1, _⟩ := tnLow_pop (R := R) h
  rw [e, tnPut, tnPut]
  simp only
  rw [h1]
theorem tnPut_top {v x : Nat} {t : TnR Nat} {R : List (TnR Nat)} (h : ¬ v < t.lev) : tnPut ⟨v, [x]⟩ (t :: R) = tnTop ⟨v, [x]⟩ (t :: R) := by
  rw [tnPut, tnPop_stay h]
theorem tnLow_len {v : Nat} {t : TnR Nat} {R : List (TnR Nat)} : (tnLow v t R).length ≤ (t :: R).length := by
  cases R with
  | nil => simp [tnLow]
  | cons u R => rw [tnLow]; split <;> simp
/-- The links in memory, and the one row's first place. -/
theorem LnAt.links {T E : TypeId} {X : Nat → Obj → Prop} {b g n : Nat} {R : List (TnR Nat)} {w0 w : World} (h : LnAt T E X b g n R w0 w) : ∃ gN N, w.cell? ⟨g, 1, none⟩ = some (.slice (some ⟨gN, 0, none⟩) n n) ∧ TnK n N R ∧ gN < w.heap.size ∧ g < w.heap.size ∧ ∀ (k : Nat) (z : Int), N[k]? = some z → w.cell? ⟨gN, k, none⟩ = some (.int .i64 z) := by
  obtain ⟨v, gN, N, h1, h2, h3, h4, h5, h6, h7, h8⟩ := h.ex
  refine ⟨gN, N, hp_cell h1 rfl, h4, (h3.lt gN rfl).2, hp_lt h1, fun k z hz => ?_⟩
  rw [h3.cellAt k (by have := (List.getElem?_eq_some_iff.1 hz).1; rw [h4.len] at this; omega)]
  unfold intsZ
  rw [List.getElem?_map, hz]
  rfl
theorem LnAt.first {T E : TypeId} {X : Nat → Obj → Prop} {b g n : Nat} {t : TnR Nat} {w0 w : World} (h : LnAt T E X b g n [t] w0 w) : ∃ gR c, 1 ≤ c ∧ w.cell? ⟨g, 0, none⟩ = some (.slice (some ⟨gR, 0, none⟩) 1 c) ∧ gR < w.heap.size ∧ w.cell? ⟨gR, 1, none⟩ = some (.int .i64 ((t.seq.headD 0 : Nat) : Int)) := by
  obtain ⟨v, gN, N, h1, h2, h3, h4, h5, h6, h7, h8⟩ := h.ex
  obtain ⟨gR, cap, rfl, hbg, hlt⟩ := h2.form (by simp)
  obtain ⟨_, c', e, hnc⟩ := own_form h2
  injection e with _ _ e
  subst e
  have hc := (cellsG_at (tnL_top t [])).2.1
  simp only [List.length_nil, Nat.zero_mul, Nat.zero_add] at hc
  exact ⟨gR, cap, hnc, hp_cell h1 rfl, hlt, by rw [h2.cellAt 1 (by simp)]; exact hc⟩
/-- A line without rows. -/
theorem LnAt.none_ {T E : TypeId} {X : Nat → Obj → Prop} {b g n : Nat} {w0 w : World} (h : LnAt T E X b g n [] w0 w) : ∃ v c, w.cell? ⟨g, 0, none⟩ = some (.slice v 0 c) := by
  obtain ⟨v, c, h1, _⟩ := h.len
  exact ⟨v, c, h1⟩
/-- Places as they are told: so many of a row, then noughts. -/
def seenV (s : List Nat) (k n : Nat) : List Value := natV (s.take k) ++ List.replicate (n - k) (.int .i64 0)
theorem seenV_zero (s : List Nat) (n : Nat) : seenV s 0 n = List.replicate n (.int .i64 0) := by simp [seenV, natV]
theorem seenV_all {s : List Nat} {n : Nat} (h : s.length = n) : seenV s n n = natV s := by simp [seenV, ← h]
theorem seenV_set {s : List Nat} {k n a : Nat} (h : s[k]? = some a) (hk : k < n) : (seenV s k n).set k (.int .i64 (a : Int)) = seenV s (k + 1) n := by
  have hl := (List.getElem?_eq_some_iff.1 h).1
  unfold seenV
  rw [List.set_append_right _ _ (by rw [natV_len, List.length_take]; omega), natV_len, List.length_take, Nat.min_eq_left (by omega), Nat.sub_self]
  obtain ⟨d, hd⟩ : ∃ d, n - k = d + 1 := ⟨n - k - 1, by omega⟩
  rw [hd, show n - (k + 1) = d by omega, List.replicate_succ, List.set_cons_zero, List.take_add_one, h]
  simp [natV]
end Go.Proofs.Ytaiefneimjdmhaa
