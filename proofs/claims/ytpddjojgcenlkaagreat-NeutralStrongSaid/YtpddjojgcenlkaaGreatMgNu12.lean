/- Texts of one claim, one behind the other. -/
import Derived.RangeFuncNested
import Derived.Test.YtpddjojgcenlkaaGreatMgNu1
import Derived.Test.YtpddjojgcenlkaaGreatMgNu2
import Derived.Test.YtpddjojgcenlkaaGreatMgNu3
import Derived.Test.YtpddjojgcenlkaaGreatMgNu11
/- brack's ahead, walked: the side of what is ahead of a place. -/
namespace Go.Proofs.YtpddjojgcenlkaaGreat
open Go.RowKit Go.Shelf

attribute [local go_sem] Oper.semAt_some

/-- The side of what is ahead of a place, of the beginning, or of the level. -/
def ahdV (o : List Int) (a : Nat) (level sos : Int) : Int := if 0 ≤ ahdF o a then ahdF o a else if 0 ≤ sideF sos then sideF sos else ofL level
theorem ahd_skip {o : List Int} {a : Nat} : ∀ {k : Nat}, k ≤ a → (∀ j, a - k ≤ j → j < a → sideF (o.getD j 0) = -1) → ahdF o a = ahdF o (a - k)
  | 0, _, _ => rfl
  | k + 1, hk, h => by
    rw [ahd_skip (k := k) (by omega) (fun j h1 h2 => h j (by omega) h2), show a - k = (a - (k + 1)) + 1 by omega, ahdF, if_neg (by rw [h _ (by omega) (by omega)]; decide)]
theorem ahd_seen {o : List Int} {a k : Nat} (hk : k ≤ a) (_ha : a ≤ o.length) (h : ∀ p ∈ bkUpto (o.take a) a k, sideF p.2 = -1) : ∀ j, a - k ≤ j → j < a → sideF (o.getD j 0) = -1 := by
  intro j h1 h2
  have := h (a - 1 - (a - 1 - j), (o.take a).getD (a - 1 - (a - 1 - j)) 0) (by
    simp only [bkUpto, List.mem_map, List.mem_range]
    exact ⟨a - 1 - j, by omega, rfl⟩)
  rw [show a - 1 - (a - 1 - j) = j by omega] at this
  rw [List.getD_eq_getElem?_getD, List.getElem?_take_of_lt h2] at this
  rw [List.getD_eq_getElem?_getD]
  exact this
theorem ahd_none {o : List Int} {a : Nat} (ha : a ≤ o.length) (h : ∀ p ∈ bkUpto (o.take a) a a, sideF p.2 = -1) : ahdF o a = -1 := by
  rw [ahd_skip (Nat.le_refl a) (ahd_seen (Nat.le_refl _) ha h), Nat.sub_self]
  rfl
theorem ahd_hit {o : List Int} {a k : Nat} (hk : k < a) (ha : a ≤ o.length) (h : ∀ p ∈ bkUpto (o.take a) a k, sideF p.2 = -1) (hs : sideF ((o.take a).getD (a - 1 - k) 0) ≠ -1) : ahdF o a = sideF ((o.take a).getD (a - 1 - k) 0) := by
  have e : (o.take a).getD (a - 1 - k) 0 = o.getD (a - 1 - k) 0 := by rw [List.getD_eq_getElem?_getD, List.getElem?_take_of_lt (by omega), List.getD_eq_getElem?_getD]
  rw [e] at hs ⊢
  have := side_in (o.getD (a - 1 - k) 0)
  rw [ahd_skip (Nat.le_of_lt hk) (ahd_seen (Nat.le_of_lt hk) ha h), show a - k = (a - 1 - k) + 1 by omega, ahdF, if_pos (by omega)]
set_option maxRecDepth 100000 in
set_option maxHeartbeats 2000000 in
theorem bkAhead_in (sb : Nat) (ad : Addr) (D : Option Addr) (n c m d a : Nat) (o : List Int) (level sos v : Int) (w : World) (hv : ahdV o a level sos = v)
    (hbox : w.heap[sb]? = some (.cells #[.slice (some ad) n c, .slice D m d, .int .i64 level, .int .i64 sos] 88 (0, 0))) (hr : Rd w 1 (some ad) n (o.map (Value.int .i64))) (ha : a < n) (hnc : n ≤ c) (hn : n ≤ 1000000) (hab : ad.block < w.heap.size) :
    CallsIn Fence.wide 5 Tryz.prog 85 #[.pointer (some ⟨sb, 0, none⟩), .int .i64 (a : Int)] w fun e W' => e = .returned (.int .i64 v) ∧ Below w.heap.size w W' := by
  have hlen : o.length = n := by simpa using hr.len1
  obtain ⟨zs, hzs⟩ : ∃ zs, o.take a = zs := ⟨_, rfl⟩
  have hz : zs.length = a := by rw [← hzs, List.length_take]; omega
  have hcs : ∀ (j : Nat) (u : Int), zs[j]? = some u → w.cell? (ad.add j) = some (.int .i64 u) := fun j u hj => hr.news j _ (by
    have hj' := (List.getElem?_eq_some_iff.1 hj).1
    rw [← hzs, List.getElem?_take_of_lt (by omega)] at hj
    rw [List.getElem?_map, hj]; rfl)
  have c0 : w.cell? ⟨sb, 0, none⟩ = some (.slice (some ad) n c) := hp_cell (j := 0) hbox rfl
  have c2 : w.cell? ⟨sb, 2, none⟩ = some (.int .i64 level) := hp_cell (j := 2) hbox rfl
  have c3 : w.cell? ⟨sb, 3, none⟩ = some (.int .i64 sos) := hp_cell (j := 3) hbox rfl
  have hsb := hp_lt hbox
  have hb1 := below_new w (.cells #[.int .i64 0] 3)
  have c0' := cell_below hb1 c0
  refine callsIn_of_wp_marks Tryz.func85 rfl trivial ?_ rfl
  simp only [Tryz.ntmps85, List.size_toArray, List.length_cons, List.length_nil, Nat.reduceAdd, Nat.reduceSub, Array.replicate_succ, Array.replicate_zero, List.push_toArray, List.append_toArray, List.nil_append, List.cons_append]
  gi_wp2_with (first
    | (refine ⟨trivial, ?_⟩; gi_at_call 104; refine (back_in Fence.wide (5 - 1) trivial rfl _ _ _ _).mono ?_; rintro e w' ⟨rfl, rfl⟩)
    | fail)
  have bR := (Boxed.new w 3 (.int .i64 0)).alloc (.cells #[.slice (some ad) a c] 22)
  have bN := Boxed.new (w.alloc (.cells #[.int .i64 0] 3)) 22 (.slice (some ad) a c)
  rw [World.size_alloc] at bN
  have hB0 : Below w.heap.size w ((w.alloc (.cells #[.int .i64 0] 3)).alloc (.cells #[.slice (some ad) a c] 22)) := ((Below.refl _ w).alloc (Nat.le_refl _) _).alloc (by simp) _
  have hsz : ((w.alloc (.cells #[.int .i64 0] 3)).alloc (.cells #[.slice (some ad) a c] 22)).heap.size = w.heap.size + 2 := by simp
  obtain ⟨W0, hW0⟩ : ∃ W0, (w.alloc (.cells #[.int .i64 0] 3)).alloc (.cells #[.slice (some ad) a c] 22) = W0 := ⟨_, rfl⟩
  rw [hW0] at bR bN hB0 hsz ⊢
  clear hW0 hb1 c0'
  refine wpIn_rangeFunc_ownH rfl (by omega) (gf := 121) (lb := #[.pointer (some ⟨w.heap.size + 1, 0, none⟩)]) rfl trivial (enters_of Tryz.func121 (by kernel_rfl) rfl)
    (back_stops Fence.wide (5 - 1) trivial rfl (by omega) (w.heap.size + 1) (w.heap.size + 2) a c ad zs (by omega) hz (by omega) (by omega) W0 (by omega) bN.cell (fun j u hj => (hB0.cell (p := ad.add j) (by rw [blockAdd]; exact hab)).trans (hcs j u hj))) belowK_t (belowK_b (by omega)) (Below.refl _ _) (fun _ => rfl)
    (fun pre W => ((∀ p ∈ pre, sideF p.2 = -1) ∧ Boxed W w.heap.size 3 (.int .i64 0)) ∧ Below w.heap.size W0 W)
    (fun c pre W => ∃ ini last, ((c = .ret ∧ pre = ini ++ [last] ∧ (∀ p ∈ ini, sideF p.2 = -1) ∧ sideF last.2 ≠ -1) ∧ Boxed W w.heap.size 3 (.int .i64 (sideF last.2))) ∧ Below w.heap.size W0 W)
    (OwnFrom.and (OwnFrom.and (ownFrom_pure _ _) (Own.from (boxed_own _ _ _) _)) (ownFrom_below (by omega) (by omega)))
    (fun c => fun s X Y row hs hg hr => by
      obtain ⟨ini, last, ⟨h1, h2⟩, h3⟩ := hs
      exact ⟨ini, last, ⟨h1, boxed_own _ _ (fun (_ : Unit) => Value.int .i64 (sideF last.2)) () X Y row h2 hg (fun r e => (hr r e).2)⟩, ownFrom_below (β := Unit) (w₀ := W0) (by omega) (show w.heap.size ≤ W0.heap.size by omega) () X Y row h3 hg hr⟩)
    ⟨⟨by simp, bR⟩, Below.refl _ _⟩
    (fun x a' _ => a' = { tmps := #[.pointer (some ⟨sb, 0, none⟩), .int .i64 (a : Int), undef, undef, .pointer (some ⟨w.heap.size, 0, none⟩), undef, .int .i64 x.2, undef, undef, .pointer (some ⟨sb, 0, none⟩), .pointer (some ⟨sb, 0, none⟩), .pointer (some ⟨sb, 0, none⟩), .slice (some ad) n c, .int .i64 (a : Int), .slice (some ad) a c, .func (.func 121) #[] #[.pointer (some ⟨w.heap.size + 1, 0, none⟩)], .int .i64 (x.1 : Int), .int .i64 x.2, undef, undef, undef, undef, undef, undef, undef, undef, undef, undef, undef, undef, undef, undef, undef, undef, undef, undef], defers := [] })
    (fun _ _ _ _ _ _ hs _ _ => hs)
    ?assign ?body ?done ?stop
  case assign =>
    rintro l pre ⟨x1, x2⟩ W K hi hK
    gi_wp2
    exact hK _ _ (KeepsFrom.refl _ _) (Below.refl _ _) hi rfl
  case body =>
    rintro l pre ⟨x1, x2⟩ a' W hl _ ⟨⟨hp, bR1⟩, hB1⟩ rfl hlt
    have cR := bR1.cell
    have fR := bR1.frozen
    obtain ⟨s, hs⟩ : ∃ s, sideF x2 = s := ⟨_, rfl⟩
    by_cases hx : s = -1
    · subst hx
      gi_wp2_with (first
        | (refine ⟨trivial, ?_⟩; gi_at_call 103; refine (CallsIn.inRound l (callsIn_wide.2 (bkSide_any x2 _ hs W))).mono ?_; rintro e w' ⟨rfl, rfl⟩)
        | fail)
      exact ⟨KeepsFrom.refl _ _, Below.refl _ _, ⟨fun p hp' => (List.mem_append.1 hp').elim (hp p) (fun e => by simp at e; subst e; exact hs), bR1⟩, hB1⟩
    · have g1 : (s != -1) = true := by simp [hx]
      gi_wp2_with (first
        | (refine ⟨trivial, ?_⟩; gi_at_call 103; refine (CallsIn.inRound l (callsIn_wide.2 (bkSide_any x2 _ hs W))).mono ?_; rintro e w' ⟨rfl, rfl⟩)
        | fail)
      exact ⟨(KeepsOthers.setCell _ _ _).from _, pre, (x1, x2), ⟨⟨rfl, rfl, hp, by rw [hs]; exact hx⟩, by rw [hs]; exact bR1.set _⟩, hB1.setCell (p := ⟨w.heap.size, 0, none⟩) (Nat.le_refl _) _⟩
  case done =>
    rintro D ys W hD rfl ⟨⟨hne, bR1⟩, hB⟩ hK
    have cR := bR1.cell
    have fR := bR1.frozen
    have hB9 := hB0.trans hB
    have d2 := cell_below hB9 c2
    have d3 := cell_below hB9 c3
    have ha1 : ahdF o a = -1 := ahd_none (by omega) (by rw [hzs]; exact hne)
    unfold ahdV at hv
    rw [ha1, if_neg (by decide)] at hv
    obtain ⟨s, hs⟩ : ∃ s, sideF sos = s := ⟨_, rfl⟩
    have hs3 := side_in sos
    rw [hs] at hs3 hv
    by_cases hx : s = -1
    · subst hx
      rw [if_neg (by decide)] at hv
      gi_wp2_with (first
        | (refine ⟨trivial, ?_⟩; gi_at_call 103; refine (callsIn_wide.2 (bkSide_any sos _ hs W)).mono ?_; rintro e w' ⟨rfl, rfl⟩)
        | (refine ⟨trivial, ?_⟩; gi_at_call 84; refine (callsIn_wide.2 (bkSideOf_any level v hv W)).mono ?_; rintro e w' ⟨rfl, rfl⟩)
        | fail)
      have hK' := (KeepsOthers.setCell W ⟨w.heap.size, 0, none⟩ (.int .i64 v)).same D _ hK rfl
      refine ⟨by simp, .inl ⟨_, _, rfl, run_takeDeferred hK', ?_⟩⟩
      have hc5 := cell_kept (World.cell?_setCell_same' W ⟨w.heap.size, 0, none⟩ (.int .i64 v) (by rw [cR]; rfl)) (grownBy_putObj' _ D (.deferred none)) (fun r e => by cases e; exact ⟨_, hK', rfl⟩)
      refine ⟨.int .i64 v, ?_, rfl, hB0.trans ((hB.setCell (p := ⟨w.heap.size, 0, none⟩) (Nat.le_refl _) _).trans (belowK_b (w := w) (Nat.le_refl _) _ D _ _ (by omega) hK' rfl rfl))⟩
      simp [results, Tryz.f85, go_sem, hc5]
    · have g1 : (s != -1) = true := by simp [hx]
      rw [if_pos (by omega)] at hv
      subst hv
      gi_wp2_with (first
        | (refine ⟨trivial, ?_⟩; gi_at_call 103; refine (callsIn_wide.2 (bkSide_any sos _ hs W)).mono ?_; rintro e w' ⟨rfl, rfl⟩)
        | fail)
      have hK' := (KeepsOthers.setCell W ⟨w.heap.size, 0, none⟩ (.int .i64 s)).same D _ hK rfl
      refine ⟨by simp, .inl ⟨_, _, rfl, run_takeDeferred hK', ?_⟩⟩
      have hc5 := cell_kept (World.cell?_setCell_same' W ⟨w.heap.size, 0, none⟩ (.int .i64 s) (by rw [cR]; rfl)) (grownBy_putObj' _ D (.deferred none)) (fun r e => by cases e; exact ⟨_, hK', rfl⟩)
      refine ⟨.int .i64 s, ?_, rfl, hB0.trans ((hB.setCell (p := ⟨w.heap.size, 0, none⟩) (Nat.le_refl _) _).trans (belowK_b (w := w) (Nat.le_refl _) _ D _ _ (by omega) hK' rfl rfl))⟩
      simp [results, Tryz.f85, go_sem, hc5]
  case stop =>
    rintro D c pre W hD ⟨k, hk', rfl⟩ ⟨ini, last, ⟨⟨rfl, e1, e2, e3⟩, bR1⟩, hB⟩ hK
    have cR := bR1.cell
    gi_wp2
    refine ⟨by simp, .inl ⟨_, _, rfl, run_takeDeferred hK, ?_⟩⟩
    have hc5 := cell_kept cR (grownBy_putObj' _ D (.deferred none)) (fun r e => by cases e; exact ⟨_, hK, rfl⟩)
    obtain ⟨k', rfl⟩ : ∃ k', k = k' + 1 := by
      cases k with
      | zero => simp [bkUpto] at e1
      | succ k' => exact ⟨k', rfl⟩
    rw [bkUpto_succ] at e1
    obtain ⟨rfl, e5⟩ := List.append_inj' e1 rfl
    obtain rfl : (a - 1 - k', zs.getD (a - 1 - k') 0) = last := by simpa using e5
    have hv' : v = sideF (zs.getD (a - 1 - k') 0) := by
      rw [← hzs] at e2 e3 ⊢
      have h := ahd_hit (by omega) (by omega) e2 e3
      have := side_in ((o.take a).getD (a - 1 - k') 0)
      rw [← hv, ahdV, h, if_pos (by simp only at e3; omega)]
    refine ⟨.int .i64 (sideF (zs.getD (a - 1 - k') 0)), ?_, by rw [hv'], hB0.trans (hB.trans (belowK_b (w := w) (Nat.le_refl _) W D _ _ (by omega) hK rfl rfl))⟩
    simp [results, Tryz.f85, go_sem, hc5]
end Go.Proofs.YtpddjojgcenlkaaGreat
/- brack's last: which is the last one of a stack that knows a bracket. -/
namespace Go.Proofs.YtpddjojgcenlkaaGreat
open Go.RowKit Go.Shelf

attribute [local go_sem] Oper.semAt_some

theorem lastB_skip {v : Int} {r : List Sp} : ∀ {a : List Sp}, (∀ t ∈ a, t.2 ≠ v) → lastB v (a ++ r) = lastB v r
  | [], _ => rfl
  | t :: a, h => by
    rw [List.cons_append, lastB, if_neg (h t (by simp))]
    exact lastB_skip fun u hu => h u (by simp [hu])
theorem bg_seen {zs : List Sp} {len k : Nat} {v : Int} (hz : zs.length = len) (hk : k ≤ len) (h : ∀ p ∈ bgUpto zs len k, p.2.2 ≠ v) : ∀ t ∈ zs.reverse.take k, t.2 ≠ v := by
  intro t ht
  obtain ⟨i, hi⟩ := List.getElem?_of_mem ht
  have hik : i < k := by
    have := (List.getElem?_eq_some_iff.1 hi).1
    rw [List.length_take, List.length_reverse] at this
    omega
  rw [List.getElem?_take_of_lt hik, List.getElem?_reverse (by omega), hz] at hi
  have := h (len - 1 - i, zs.getD (len - 1 - i) (0, 0)) (List.mem_map.2 ⟨i, by simpa using hik, rfl⟩)
  simp only [List.getD_eq_getElem?_getD, hi] at this
  exact this
theorem bg_none {zs : List Sp} {len : Nat} {v : Int} (hz : zs.length = len) (h : ∀ p ∈ bgUpto zs len len, p.2.2 ≠ v) : lastB v zs.reverse = -1 := by
  have := lastB_skip (r := []) (bg_seen hz (Nat.le_refl _) h)
  rw [List.append_nil, List.take_of_length_le (by rw [List.length_reverse]; omega)] at this
  rw [this]
  rfl
theorem bg_hit {zs : List Sp} {len k : Nat} {v : Int} (hz : zs.length = len) (hk : k < len) (h : ∀ p ∈ bgUpto zs len k, p.2.2 ≠ v) (hv : (zs.getD (len - 1 - k) (0, 0)).2 = v) : lastB v zs.reverse = ((len - 1 - k : Nat) : Int) := by
  rw [← List.take_append_drop k zs.reverse, lastB_skip (bg_seen hz (Nat.le_of_lt hk) h), List.drop_eq_getElem_cons (by rw [List.length_reverse]; omega), lastB, if_pos, List.length_drop, List.length_reverse, hz]
  · congr 1
    omega
  · rw [List.getElem_reverse]
    rw [List.getD_eq_getElem?_getD, List.getElem?_eq_getElem (by omega)] at hv
    simp only [hz]
    exact hv
set_option maxRecDepth 100000 in
set_option maxHeartbeats 2000000 in
theorem bkLast_in (A : Option Addr) (m c : Nat) (zs : List Sp) (v r : Int) (w : World) (hv : lastB v zs.reverse = r) (hr : Rd w 2 A m (cellsS zs)) (hm : m ≤ 1000000) :
    CallsIn Fence.wide 5 Tryz.prog 79 #[.slice A m c, .int .i64 v] w fun e W' => e = .returned (.int .i64 r) ∧ Below w.heap.size w W' := by
  have hlen : zs.length = m := by have := hr.1; rw [cellsS_len] at this; omega
  refine callsIn_of_wp_marks Tryz.func79 rfl trivial ?_ rfl
  simp only [Tryz.ntmps79, List.size_toArray, List.length_cons, List.length_nil, Nat.reduceAdd, Nat.reduceSub, Array.replicate_succ, Array.replicate_zero, List.push_toArray, List.append_toArray, List.nil_append, List.cons_append]
  gi_wp2_with (first
    | (refine ⟨trivial, ?_⟩; gi_at_call 98; refine (bgck_in Fence.wide (5 - 1) trivial rfl _ _ _ _).mono ?_; rintro e w' ⟨rfl, rfl⟩)
    | fail)
  have bC := ((Boxed.new w 3 (.int .i64 v)).alloc (.cells #[.int .i64 0] 3)).alloc (.cells #[.slice A m c] 105)
  have bR := (Boxed.new (w.alloc (.cells #[.int .i64 v] 3)) 3 (.int .i64 0)).alloc (.cells #[.slice A m c] 105)
  have bN := Boxed.new ((w.alloc (.cells #[.int .i64 v] 3)).alloc (.cells #[.int .i64 0] 3)) 105 (.slice A m c)
  simp only [World.size_alloc] at bR bN
  have hB0 : Below w.heap.size w (((w.alloc (.cells #[.int .i64 v] 3)).alloc (.cells #[.int .i64 0] 3)).alloc (.cells #[.slice A m c] 105)) := (((Below.refl _ w).alloc (Nat.le_refl _) _).alloc (by simp) _).alloc (by simp; omega) _
  have hsz : (((w.alloc (.cells #[.int .i64 v] 3)).alloc (.cells #[.int .i64 0] 3)).alloc (.cells #[.slice A m c] 105)).heap.size = w.heap.size + 3 := by simp
  obtain ⟨W0, hW0⟩ : ∃ W0, ((w.alloc (.cells #[.int .i64 v] 3)).alloc (.cells #[.int .i64 0] 3)).alloc (.cells #[.slice A m c] 105) = W0 := ⟨_, rfl⟩
  rw [hW0] at bC bR bN hB0 hsz ⊢
  clear hW0
  have hcs : ∀ j u, zs[j]? = some u → ∃ ad, A = some ad ∧ ad.block < w.heap.size ∧ W0.cell? (ad.add (j * 2)) = some (.int .i64 u.1) ∧ W0.cell? ⟨(ad.add (j * 2)).block, (ad.add (j * 2)).off + 1, none⟩ = some (.int .i64 u.2) := by
    intro j u hj
    obtain ⟨ad, e, hb, d1, d2⟩ := hr.span hj
    exact ⟨ad, e, hb, cell_below hB0 d1, cell_below hB0 d2⟩
  refine wpIn_rangeFunc_ownH rfl (by omega) (gf := 110) (lb := #[.pointer (some ⟨w.heap.size + 1 + 1, 0, none⟩)]) rfl trivial (enters_of Tryz.func110 (by kernel_rfl) rfl)
    (bgck_stops Fence.wide (5 - 1) trivial rfl (by omega) (w.heap.size + 1 + 1) (w.heap.size + 3) m c A zs hm hlen (by omega) W0 (by omega) bN.cell (fun j u hj => by obtain ⟨ad, e, hb, d⟩ := hcs j u hj; exact ⟨ad, e, by omega, d⟩)) belowK_t (belowK_b (by omega)) (Below.refl _ _) (fun _ => rfl)
    (fun pre W => (((∀ p ∈ pre, p.2.2 ≠ v) ∧ Boxed W (w.heap.size + 1) 3 (.int .i64 0)) ∧ Boxed W w.heap.size 3 (.int .i64 v)) ∧ Below w.heap.size W0 W)
    (fun c pre W => ∃ ini last, ((c = .ret ∧ pre = ini ++ [last] ∧ (∀ p ∈ ini, p.2.2 ≠ v) ∧ last.2.2 = v) ∧ Boxed W (w.heap.size + 1) 3 (.int .i64 (last.1 : Int))) ∧ Below w.heap.size W0 W)
    (OwnFrom.and (OwnFrom.and (OwnFrom.and (ownFrom_pure _ _) (Own.from (boxed_own _ _ _) _)) (Own.from (boxed_own _ _ _) _)) (ownFrom_below (by omega) (by omega)))
    (fun c => fun s X Y row hs hg hr => by
      obtain ⟨ini, last, ⟨h1, h2⟩, h3⟩ := hs
      exact ⟨ini, last, ⟨h1, boxed_own _ _ (fun (_ : Unit) => Value.int .i64 (last.1 : Int)) () X Y row h2 hg (fun r e => (hr r e).2)⟩, ownFrom_below (β := Unit) (w₀ := W0) (by omega) (show w.heap.size ≤ W0.heap.size by omega) () X Y row h3 hg hr⟩)
    ⟨⟨⟨by simp, bR⟩, bC⟩, Below.refl _ _⟩
    (fun x a' W => ∃ Bx, w.heap.size + 1 < Bx ∧ W.cell? ⟨Bx, 1, none⟩ = some (.int .i64 x.2.2) ∧ a' = { tmps := #[.slice A m c, .int .i64 v, undef, .pointer (some ⟨w.heap.size, 0, none⟩), .pointer (some ⟨w.heap.size + 1, 0, none⟩), .int .i64 (x.1 : Int), .pointer (some ⟨Bx, 0, none⟩), .slice A m c, .func (.func 110) #[] #[.pointer (some ⟨w.heap.size + 1 + 1, 0, none⟩)], .int .i64 (x.1 : Int), .agg #[.int .i64 x.2.1, .int .i64 x.2.2], undef, undef, undef, undef, undef], defers := [] })
    (fun x a' _ X Y row hs hg hr => by obtain ⟨Bx, e1, e2, e3⟩ := hs; exact ⟨Bx, e1, cell_kept e2 hg (fun r e => (hr r e).2), e3⟩)
    ?assign ?body ?done ?stop
  case assign =>
    rintro l pre ⟨x1, x2, x3⟩ W K ⟨⟨⟨hp, bR1⟩, bB1⟩, hB1⟩ hK
    gi_wp2
    have hsW := hB1.size
    have hnew : (W.alloc (.cells #[.int .i64 x2, .int .i64 x3] 107)).cell? ⟨W.heap.size, 1, none⟩ = some (.int .i64 x3) := by go_simp
    exact hK _ _ ((KeepsOthers.alloc _ _).from _) ((Below.refl _ W).alloc (by omega) _) ⟨⟨⟨hp, bR1.alloc _⟩, bB1.alloc _⟩, hB1.alloc (by omega) _⟩ ⟨W.heap.size, by omega, hnew, rfl⟩
  case body =>
    rintro l pre ⟨x1, x2, x3⟩ a' W hl ⟨r, hr⟩ ⟨⟨⟨hp, bR1⟩, bB1⟩, hB1⟩ ⟨Bx, hBx, bX, rfl⟩ hlt
    have cB := bB1.cell
    have cR := bR1.cell
    have fR := bR1.frozen
    simp only at bX
    by_cases hx : x3 = v
    · have g1 : (x3 == v) = true := by simp [hx]
      gi_wp2
      exact ⟨(KeepsOthers.setCell _ _ _).from _, pre, (x1, x2, x3), ⟨⟨rfl, rfl, hp, hx⟩, bR1.set _⟩, hB1.setCell (p := ⟨w.heap.size + 1, 0, none⟩) (by simp) _⟩
    · have g1 : (x3 == v) = false := by simp [hx]
      gi_wp2
      exact ⟨KeepsFrom.refl _ _, Below.refl _ _, ⟨⟨fun p hp' => (List.mem_append.1 hp').elim (hp p) (fun e => by simp at e; subst e; exact hx), bR1⟩, bB1⟩, hB1⟩
  case done =>
    rintro D ys W hD rfl ⟨⟨⟨hne, bR1⟩, bB1⟩, hB⟩ hK
    have cR := bR1.cell
    have fR := bR1.frozen
    gi_wp2
    have hK' := (KeepsOthers.setCell W ⟨w.heap.size + 1, 0, none⟩ (.int .i64 (-1))).same D _ hK rfl
    refine ⟨by simp, .inl ⟨_, _, rfl, run_takeDeferred hK', ?_⟩⟩
    have hc5 := cell_kept (World.cell?_setCell_same' W ⟨w.heap.size + 1, 0, none⟩ (.int .i64 (-1)) (by rw [cR]; rfl)) (grownBy_putObj' _ D (.deferred none)) (fun r e => by cases e; exact ⟨_, hK', rfl⟩)
    have hv' : r = -1 := by rw [← hv, bg_none hlen hne]
    refine ⟨.int .i64 (-1), ?_, by rw [hv'], hB0.trans ((hB.setCell (p := ⟨w.heap.size + 1, 0, none⟩) (by simp) _).trans (belowK_b (w := w) (Nat.le_refl _) _ D _ _ (by omega) hK' rfl rfl))⟩
    simp [results, Tryz.f79, go_sem, hc5]
  case stop =>
    rintro D c pre W hD ⟨k, hk', rfl⟩ ⟨ini, last, ⟨⟨rfl, e1, e2, e3⟩, bR1⟩, hB⟩ hK
    have cR := bR1.cell
    gi_wp2
    refine ⟨by simp, .inl ⟨_, _, rfl, run_takeDeferred hK, ?_⟩⟩
    have hc5 := cell_kept cR (grownBy_putObj' _ D (.deferred none)) (fun r e => by cases e; exact ⟨_, hK, rfl⟩)
    obtain ⟨k', rfl⟩ : ∃ k', k = k' + 1 := by
      cases k with
      | zero => simp [bgUpto] at e1
      | succ k' => exact ⟨k', rfl⟩
    rw [bgUpto_succ] at e1
    obtain ⟨rfl, e5⟩ := List.append_inj' e1 rfl
    obtain rfl : (m - 1 - k', zs.getD (m - 1 - k') (0, 0)) = last := by simpa using e5
    have hv' : r = ((m - 1 - k' : Nat) : Int) := by rw [← hv, bg_hit hlen (by omega) e2 e3]
    refine ⟨.int .i64 ((m - 1 - k' : Nat) : Int), ?_, by rw [hv'], hB0.trans (hB.trans (belowK_b (w := w) (Nat.le_refl _) W D _ _ (by omega) hK rfl rfl))⟩
    simp [results, Tryz.f79, go_sem, hc5]
theorem bkLast_any (A : Option Addr) (m c : Nat) (zs : List Sp) (v r : Int) (hv : lastB v zs.reverse = r) (hm : m ≤ 1000000) (w : World) (hr : Rd w 2 A m (cellsS zs)) :
    Calls Tryz.prog 79 #[.slice A m c, .int .i64 v] w fun e W' => e = .returned (.int .i64 r) ∧ Below w.heap.size w W' := callsIn_wide.1 (bkLast_in A m c zs v r w hv hr hm)
end Go.Proofs.YtpddjojgcenlkaaGreat
