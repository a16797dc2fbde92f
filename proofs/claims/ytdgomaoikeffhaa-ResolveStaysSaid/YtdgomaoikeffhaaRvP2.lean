/- resolve.Line, walked. -/
import Derived.RangeFuncNested
import Derived.Test.YtdgomaoikeffhaaBwV
import Derived.Test.YtdgomaoikeffhaaRvP1
import Derived.Test.YtdgomaoikeffhaaCloneI
import Derived.Test.YtdgomaoikeffhaaRnL
import Derived.Test.YtdgomaoikeffhaaHp
namespace Go.Proofs.Ytdgomaoikeffhaa
open Go.RowKit Go.Shelf

attribute [local go_sem] Oper.semAt_some

theorem rd_partF {w : World} {ad : Addr} {n lo hi : Nat} {xs : List Int} (h : Rd w 1 (some ad) n (xs.map (Value.int .i64))) (hlh : lo < hi) (hhn : hi ≤ n) : Rd w 1 (some (ad.add lo)) (hi - lo) ((partF xs lo hi).map (Value.int .i64)) := by
  have hl : xs.length = n := by simpa using h.len1
  refine ⟨by rw [List.length_map, partF_len _ _ _ (by omega)]; omega, fun _ => ?_⟩
  obtain ⟨ad', e, hb, hc⟩ := h.2 (by omega)
  obtain rfl := Option.some.inj e
  refine ⟨_, rfl, by rw [blockAdd]; exact hb, fun j u hu => ?_⟩
  unfold partF at hu
  rw [List.getElem?_map, List.getElem?_take] at hu
  split at hu
  · rw [List.getElem?_drop] at hu
    have := hc (lo + j) u (by rw [List.getElem?_map]; exact hu)
    rwa [addAdd]
  · simp at hu
theorem own_turn {w w' : World} {base : Nat} {e : TypeId} {size : Nat} {v : Value} {n : Nat} {xs : List Value} (h : w.ownsRow base e size v n xs) {row : Option Nat} (hg : w.grownBy w' row) (hr : ∀ r, row = some r → ∃ o : Obj, w.heap[r]? = some o ∧ o.isCells = false) : w'.ownsRow base e size v n xs := by
  refine h.kept hg ?_
  rcases row with _ | r
  · rcases hv : v.ownBlock with _ | g
    · exact .inl rfl
    · exact .inr (fun e => by cases e)
  · obtain ⟨o, ho, hc⟩ := hr r rfl
    rcases h.2 with ⟨rfl, _⟩ | ⟨g, cap, cur, rfl, _, hg', _⟩
    · exact .inl rfl
    · refine .inr fun e => ?_
      obtain rfl : g = r := by injection e
      rw [hg'] at ho
      cases ho
      cases hc
/-- What lies in memory between two rounds. -/
structure IvV (w : World) (b6 g n c B9 : Nat) (base : Int) (W : World) (L : List Int) (e : Bool) : Prop where
  b7 : Boxed W (b6 + 1) 3 (.int .i64 base)
  b9 : Boxed W B9 22 (.slice (some ⟨g, 0, none⟩) n c)
  b10 : Boxed W (B9 + 1) 4 (.bool e)
  row : W.ownsRow b6 3 1 (.slice (some ⟨g, 0, none⟩) n c) n (L.map (Value.int .i64))
  bel : Below b6 w W
theorem ivV_own (w : World) (b6 g n c B9 B : Nat) (base : Int) (cs ls : List Int) (len : Nat) (hB : b6 ≤ w.heap.size) (hbB : b6 ≤ B) :
    OwnFrom B (fun (pre : List (Plc len)) W => IvV w b6 g n c B9 base W (foldV base cs ls (pre.map (·.1))).1 (foldV base cs ls (pre.map (·.1))).2) := by
  rintro s X Y row G hg hr
  have hr' : ∀ r, row = some r → ∃ o : Obj, X.heap[r]? = some o ∧ o.isCells = false := fun r e => (hr r e).2
  have hne : ∀ {k : Nat} {t : TypeId} {u : Value}, Boxed X k t u → some k ≠ row := fun {k t u} hk e => by
    obtain ⟨o, ho, hc⟩ := hr' k e.symm
    rw [show X.heap[k]? = _ from hk] at ho; cases ho; cases hc
  exact ⟨G.b7.kept hg (hne G.b7), G.b9.kept hg (hne G.b9), G.b10.kept hg (hne G.b10), own_turn G.row hg hr', G.bel.grown hg (Nat.le_trans hB G.bel.size) (fun k e => by have := (hr k e).1; omega)⟩
theorem IvV.put {w : World} {b6 g n c B9 : Nat} {base : Int} {W : World} {L : List Int} {e : Bool} (h : IvV w b6 g n c B9 base W L e) (h1 : b6 + 1 < g) (h2 : g < B9) (h3 : b6 ≤ w.heap.size) (k : Nat) (x : Int) : IvV w b6 g n c B9 base (W.setCell ⟨g, k, none⟩ (.int .i64 x)) (L.set k x) e where
  b7 := (hp_far (by omega) k _).trans h.b7
  b9 := (hp_far (by omega) k _).trans h.b9
  b10 := (hp_far (by omega) k _).trans h.b10
  row := by rw [List.map_set]; exact (h.row.stored k _).1
  bel := h.bel.setCell (p := ⟨g, k, none⟩) (by simp; omega) _
theorem IvV.say {w : World} {b6 g n c B9 : Nat} {base : Int} {W : World} {L : List Int} {e : Bool} (h : IvV w b6 g n c B9 base W L e) (h1 : b6 + 1 < g) (h2 : g < B9) (h3 : b6 ≤ w.heap.size) (e' : Bool) : IvV w b6 g n c B9 base (W.setCell ⟨B9 + 1, 0, none⟩ (.bool e')) L e' where
  b7 := (hp_far (by omega) 0 _).trans h.b7
  b9 := (hp_far (by omega) 0 _).trans h.b9
  b10 := h.b10.set _
  row := own_set_far h.row (by simp [Value.ownBlock]; omega)
  bel := h.bel.setCell (p := ⟨B9 + 1, 0, none⟩) (by simp; omega) _
set_option maxRecDepth 100000 in
set_option maxHeartbeats 2000000 in
theorem rvLine_in (A B : Option Addr) (n c d : Nat) (cs ls : List Int) (lo hi : Nat) (base : Int) (w : World) (hr : Rd w 1 A n (cs.map (Value.int .i64))) (hs : Rd w 1 B n (ls.map (Value.int .i64))) (hn : n ≤ 100000) (hnc : n ≤ c) (hnd : n ≤ d) (hlh : lo < hi) (hhn : hi ≤ n) :
    CallsIn Fence.wide 5 Try.prog 9 #[.slice A n c, .slice B n d, .agg #[.int .i64 (lo : Int), .int .i64 (hi : Int)], .int .i64 base] w fun e w' => ∃ v, e = .returned v ∧ w'.ownsRow w.heap.size 3 1 v (lineF base (partF cs lo hi) (partF ls lo hi)).length ((lineF base (partF cs lo hi) (partF ls lo hi)).map (Value.int .i64)) ∧ Below w.heap.size w w' := by
  have hl : cs.length = n := by simpa using hr.len1
  have hl2 : ls.length = n := by simpa using hs.len1
  have HW := Lib.hid (rvWithin_any lo hi n)
  rw [show withB lo hi n = true by unfold withB; simp; omega] at HW
  obtain ⟨ad, rfl, hab, -⟩ := hr.2 (by omega)
  obtain ⟨bd, rfl, hbb, -⟩ := hs.2 (by omega)
  obtain ⟨cs', hcs'⟩ : ∃ cs', partF cs lo hi = cs' := ⟨_, rfl⟩
  obtain ⟨ls', hls'⟩ : ∃ ls', partF ls lo hi = ls' := ⟨_, rfl⟩
  have hc1 : cs'.length = hi - lo := by rw [← hcs', partF_len _ _ _ (by omega)]
  have hl1 : ls'.length = hi - lo := by rw [← hls', partF_len _ _ _ (by omega)]
  have HRC := Lib.hid (rd_partF hr hlh hhn)
  have HRL := Lib.hid (rd_partF hs hlh hhn)
  rw [hcs'] at HRC ⊢
  rw [hls'] at HRL ⊢
  obtain ⟨b6, hb6⟩ : ∃ b6, w.heap.size = b6 := ⟨_, rfl⟩
  obtain ⟨W7, hW7⟩ : ∃ W7, (w.alloc (.cells #[.int .i64 (lo : Int), .int .i64 (hi : Int)] 24)).alloc (.cells #[.int .i64 base] 3) = W7 := ⟨_, rfl⟩
  have HX := Lib.hid (show Below w.heap.size w W7 by rw [← hW7]; exact (below_new w _).alloc (by simp) _)
  have hs7 : W7.heap.size = b6 + 2 := by rw [← hW7, ← hb6]; simp
  have b60 : W7.cell? ⟨b6, 0, none⟩ = some (.int .i64 (lo : Int)) := by rw [← hW7, ← hb6]; exact cell_below (below_new _ _) (cells_new w [.int .i64 (lo : Int), .int .i64 (hi : Int)] _ 0 _ rfl)
  have b61 : W7.cell? ⟨b6, 1, none⟩ = some (.int .i64 (hi : Int)) := by rw [← hW7, ← hb6]; exact cell_below (below_new _ _) (cells_new w [.int .i64 (lo : Int), .int .i64 (hi : Int)] _ 1 _ rfl)
  have b7 : Boxed W7 (b6 + 1) 3 (.int .i64 base) := by
    have := Boxed.new (w.alloc (.cells #[.int .i64 (lo : Int), .int .i64 (hi : Int)] 24)) 3 (.int .i64 base)
    rw [hW7] at this
    simpa [← hb6] using this
  have HCL := Lib.hid (fun W (hB : Below w.heap.size w W) => cloneInt_any (some (bd.add lo)) (hi - lo) (d - lo) (ls'.map (Value.int .i64)) W (HRL.out.below hB) (oneInts _ _) (by omega))
  rw [hb6] at HX HCL ⊢
  refine callsIn_of_wp_marks Try.func9 rfl trivial ?_ rfl
  simp only [Try.ntmps9, List.size_toArray, List.length_cons, List.length_nil, Nat.reduceAdd, Nat.reduceSub, Array.replicate_succ, Array.replicate_zero, List.push_toArray, List.append_toArray, List.nil_append, List.cons_append]
  gi_wp2_with (first
    | (refine ⟨trivial, ?_⟩; gi_at_call 20; refine (callsIn_wide.2 (HW.out _ (by omega))).mono ?_; rintro e w1 ⟨rfl, hb1⟩; have c1 := cell_below hb1 b60; have c2 := cell_below hb1 b61)
    | (refine ⟨trivial, ?_⟩; gi_at_call 21; refine (callsIn_wide.2 (HCL.out _ (HX.out.trans (hb1.mono (by omega))))).mono ?_; rintro e w2 ⟨v2, rfl, hown2, hb2⟩; obtain ⟨g, cg, rfl, hgc, hgl, hgb, -⟩ := own_at hown2 (by omega); have c3 := cell_below (hb2.trans (((below_new w2 (.cells #[.slice (some ⟨g, 0, none⟩) (hi - lo) cg] 22)).alloc (by simp) (.cells #[.bool true] 4)).mono hb2.size)) c1; have c4 := cell_below (hb2.trans (((below_new w2 (.cells #[.slice (some ⟨g, 0, none⟩) (hi - lo) cg] 22)).alloc (by simp) (.cells #[.bool true] 4)).mono hb2.size)) c2)
    | (refine ⟨trivial, ?_⟩; gi_at_call 22; refine (bvBack_in Fence.wide (5 - 1) trivial rfl _ _ _ _).mono ?_; rintro e w' ⟨rfl, rfl⟩)
    | fail)
  have hb12 := hb1.trans (hb2.mono hb1.size)
  have hs1 := hb1.size
  have hs2 := hb2.size
  obtain ⟨B9, hB9⟩ : ∃ B9, w2.heap.size = B9 := ⟨_, rfl⟩
  obtain ⟨W9, hW9⟩ : ∃ W9, (w2.alloc (.cells #[.slice (some ⟨g, 0, none⟩) (hi - lo) cg] 22)).alloc (.cells #[.bool true] 4) = W9 := ⟨_, rfl⟩
  have hw9 : Below w2.heap.size w2 W9 := by rw [← hW9]; exact (below_new w2 _).alloc (by simp) _
  have n9 : Boxed W9 B9 22 (.slice (some ⟨g, 0, none⟩) (hi - lo) cg) := by rw [← hW9, ← hB9]; exact (Boxed.new w2 _ _).alloc _
  have n10 : Boxed W9 (B9 + 1) 4 (.bool true) := by
    have := Boxed.new (w2.alloc (.cells #[.slice (some ⟨g, 0, none⟩) (hi - lo) cg] 22)) 4 (.bool true)
    rw [hW9] at this
    simpa [hB9] using this
  have hs9 : W9.heap.size = B9 + 2 := by rw [← hW9, ← hB9]; simp
  have hW7X := HX.out.trans ((hb12.trans (hw9.mono (by omega))).mono (by omega))
  have n7 : Boxed W9 (b6 + 1) 3 (.int .i64 base) := ((hb12.trans (hw9.mono (by omega))).block _ (by omega)).trans b7
  have hrow9 : W9.ownsRow b6 3 1 (.slice (some ⟨g, 0, none⟩) (hi - lo) cg) (hi - lo) (ls'.map (Value.int .i64)) := own_base (own_below hown2 hw9) (by omega)
  have nS := Boxed.new W9 22 (.slice (some (ad.add lo)) (hi - lo) (c - lo))
  obtain ⟨W0, hW0⟩ : ∃ W0, W9.alloc (.cells #[.slice (some (ad.add lo)) (hi - lo) (c - lo)] 22) = W0 := ⟨_, rfl⟩
  have hs0 : W0.heap.size = B9 + 3 := by rw [← hW0]; simp [hs9]
  have hB0 : Below b6 w W0 := by rw [← hW0]; exact hW7X.alloc (by omega) _
  have hI0 : IvV w b6 g (hi - lo) cg B9 base W0 ls' true := by
    rw [← hW0]
    exact ⟨n7.alloc _, n9.alloc _, n10.alloc _, hrow9.alloc _, hW7X.alloc (by omega) _⟩
  rw [hW0, hs9] at nS
  have hb6w : b6 ≤ w.heap.size := by omega
  have hgb2 : b6 + 1 < g := by omega
  have hgl2 : g < B9 := by omega
  simp only [hB9, hW9, hW0, hs9]
  have hcs0 : ∀ (j : Nat) (u : Int), cs'[j]? = some u → ∃ a, (some (ad.add lo)) = some a ∧ W0.cell? (a.add j) = some (.int .i64 u) := fun j u hj => by
    have hj' := (List.getElem?_eq_some_iff.1 hj).1
    obtain ⟨a, e, hlt, hcell⟩ := HRC.out.2 (by omega)
    exact ⟨a, e, (hB0.cell (p := a.add j) (by rw [blockAdd, ← hb6]; exact hlt)).trans (hcell j _ (by rw [List.getElem?_map, hj]; rfl))⟩
  refine wpIn_rangeFunc_ownG rfl (by omega) (gf := 32) (lb := #[.pointer (some ⟨B9 + 2, 0, none⟩)]) rfl trivial (enters_of Try.func32 (by kernel_rfl) rfl)
    (backV_stops Fence.wide (5 - 1) trivial rfl (by omega) (B9 + 2) (fun k => k < b6) (hi - lo) (c - lo) (some (ad.add lo)) cs' (by omega) hc1 (fun a e _ => by cases e; rw [blockAdd]; omega) W0 (by omega) (fun k hk => by omega) nS.cell hcs0) KpV.trans (KpV.put (by omega) (fun k hk => by omega)) (Below.refl _ _) (fun _ => rfl)
    (fun pre W => IvV w b6 g (hi - lo) cg B9 base W (foldV base cs' ls' (pre.map (·.1))).1 (foldV base cs' ls' (pre.map (·.1))).2)
    (fun _ _ _ => False)
    (ivV_own w b6 g (hi - lo) cg B9 _ base cs' ls' (hi - lo) hb6w (by omega))
    (fun _ _ _ _ _ hs _ _ => hs)
    hI0
    (fun x => { tmps := #[.slice (some ad) n c, .slice (some bd) n d, .agg #[.int .i64 lo, .int .i64 hi], .int .i64 base, undef, undef, .pointer (some ⟨b6, 0, none⟩), .pointer (some ⟨b6 + 1, 0, none⟩), .slice none 0 0, .pointer (some ⟨B9, 0, none⟩), .pointer (some ⟨B9 + 1, 0, none⟩), .int .i64 (x.1 : Int), .int .i64 (cs'.getD x.1 0), .slice (some ad) n c, .int .i64 n, .slice (some bd) n d, .int .i64 n, .bool false, .bool false, .agg #[.int .i64 lo, .int .i64 hi], .slice (some bd) n d, .int .i64 n, .bool true, .bool false, .bool false, .slice (some bd) n d, .pointer (some ⟨b6, 0, none⟩), .int .i64 lo, .pointer (some ⟨b6, 1, none⟩), .int .i64 hi, .slice (some (bd.add lo)) (hi - lo) (d - lo), .slice (some ⟨g, 0, none⟩) (hi - lo) cg, .slice (some ad) n c, .pointer (some ⟨b6, 0, none⟩), .int .i64 lo, .pointer (some ⟨b6, 1, none⟩), .int .i64 hi, .slice (some (ad.add lo)) (hi - lo) (c - lo), .func (.func 32) #[] #[.pointer (some ⟨B9 + 2, 0, none⟩)], .int .i64 (x.1 : Int), .int .i64 (cs'.getD x.1 0), undef, undef, undef, undef, undef, undef, undef, undef, undef, undef, undef, undef], defers := [] }) ?assign ?body ?done ?stop
  case assign =>
    intro l x W K hK
    gi_wp2
    exact hK
  case body =>
    rintro l pre ⟨k, hk⟩ W G hpl
    obtain ⟨z, hz⟩ : ∃ z, cs'.getD k 0 = z := ⟨_, rfl⟩
    have HF := Lib.hid (show foldV base cs' ls' ((pre ++ [(⟨k, hk⟩ : Plc (hi - lo))]).map (·.1)) = (if nowE z (foldV base cs' ls' (pre.map (·.1))).2 = true then (foldV base cs' ls' (pre.map (·.1))).1.set k base else (foldV base cs' ls' (pre.map (·.1))).1, nowE z (foldV base cs' ls' (pre.map (·.1))).2) by
      rw [List.map_append]
      show foldV base cs' ls' (pre.map (·.1) ++ [k]) = _
      rw [foldV_snoc, stepV, hz])
    have hLl : (foldV base cs' ls' (pre.map (·.1))).1.length = hi - lo := by rw [foldV_len, hl1]
    obtain ⟨L, hL⟩ : ∃ L, (foldV base cs' ls' (pre.map (·.1))).1 = L := ⟨_, rfl⟩
    obtain ⟨e0, he0⟩ : ∃ e0, (foldV base cs' ls' (pre.map (·.1))).2 = e0 := ⟨_, rfl⟩
    simp only [hL, he0] at G HF hLl
    have HG := Lib.hid G
    have HFIN : Hid (∀ W', IvV w b6 g (hi - lo) cg B9 base W' (if nowE z e0 = true then L.set k base else L) (nowE z e0) → IvV w b6 g (hi - lo) cg B9 base W' (foldV base cs' ls' ((pre ++ [(⟨k, hk⟩ : Plc (hi - lo))]).map (·.1))).1 (foldV base cs' ls' ((pre ++ [(⟨k, hk⟩ : Plc (hi - lo))]).map (·.1))).2) := Lib.hid fun W' h => by rw [HF.out]; exact h
    dsimp only
    rw [hz]
    have c7 := G.b7.cell
    have c9 := G.b9.cell
    have c10 := G.b10.cell
    have f10 := G.b10.frozen
    obtain ⟨⟨u, hu⟩, hfu⟩ := own_slot G.row (j := k) (by omega)
    clear hL he0 HF hz G
    obtain ⟨q, hq⟩ : ∃ q, endK z = q := ⟨_, rfl⟩
    have HE := Lib.hid (rvEnd_any z)
    rw [hq] at HE
    have HQ := Lib.hid hq
    have hki : (k : Int) < ((hi - lo : Nat) : Int) := by omega
    by_cases q2 : q = 2
    · have g2 : (q == 2) = true := by simp [q2]
      have HN := Lib.hid (show nowE z e0 = true by unfold nowE; rw [HQ.out, if_pos q2])
      clear hq q2
      have HS := HG.out.say hgb2 hgl2 hb6w true
      have d7 := HS.b7.cell
      have d9 := HS.b9.cell
      have d10 := HS.b10.cell
      obtain ⟨⟨u2, hu2⟩, hfu2⟩ := own_slot HS.row (j := k) (by omega)
      have G2 := Lib.hid (HS.put hgb2 hgl2 hb6w k base)
      clear HS
      gi_wp2_with (first
        | (refine ⟨trivial, ?_⟩; gi_at_call 23; refine (CallsIn.inRound l (callsIn_wide.2 (HE.out _))).mono ?_; rintro e w' ⟨rfl, rfl⟩)
        | fail)
      refine ⟨((KeepsOthers.setCell _ _ _).trans (KeepsOthers.setCell _ _ _)).from _, (KpV.cell (by simp <;> omega) (by simp <;> omega) _ _).trans (KpV.cell (by simp <;> omega) (by simp <;> omega) _ _), HFIN.out _ ?_⟩
      rw [HN.out, if_pos rfl]
      exact G2.out
    · by_cases q0 : q = 0
      · have g2 : (q == 2) = false := by simp [q2]
        have g0 : (q == 0) = true := by simp [q0]
        have HN := Lib.hid (show nowE z e0 = false by unfold nowE; rw [HQ.out, if_neg q2, if_pos q0])
        clear hq q2 q0
        have HS := HG.out.say hgb2 hgl2 hb6w false
        have d10 := HS.b10.cell
        have G2 := Lib.hid HS
        clear HS
        gi_wp2_with (first
          | (refine ⟨trivial, ?_⟩; gi_at_call 23; refine (CallsIn.inRound l (callsIn_wide.2 (HE.out _))).mono ?_; rintro e w' ⟨rfl, rfl⟩)
          | fail)
        refine ⟨(KeepsOthers.setCell _ _ _).from _, KpV.cell (by simp <;> omega) (by simp <;> omega) _ _, HFIN.out _ ?_⟩
        rw [HN.out, if_neg (by decide)]
        exact G2.out
      · have g2 : (q == 2) = false := by simp [q2]
        have g0 : (q == 0) = false := by simp [q0]
        have HN := Lib.hid (show nowE z e0 = e0 by unfold nowE; rw [HQ.out, if_neg q2, if_neg q0])
        clear hq q2 q0
        cases e0 with
        | true =>
          have G2 := Lib.hid (HG.out.put hgb2 hgl2 hb6w k base)
          gi_wp2_with (first
            | (refine ⟨trivial, ?_⟩; gi_at_call 23; refine (CallsIn.inRound l (callsIn_wide.2 (HE.out _))).mono ?_; rintro e w' ⟨rfl, rfl⟩)
            | fail)
          refine ⟨(KeepsOthers.setCell _ _ _).from _, KpV.cell (by simp <;> omega) (by simp <;> omega) _ _, HFIN.out _ ?_⟩
          rw [HN.out, if_pos rfl]
          exact G2.out
        | false =>
          gi_wp2_with (first
            | (refine ⟨trivial, ?_⟩; gi_at_call 23; refine (CallsIn.inRound l (callsIn_wide.2 (HE.out _))).mono ?_; rintro e w' ⟨rfl, rfl⟩)
            | fail)
          refine ⟨KeepsFrom.refl _ _, KpV.refl _ _ _, HFIN.out _ ?_⟩
          rw [HN.out, if_neg (by decide)]
          exact HG.out
  case done =>
    rintro D ys W hD hys G hK
    rw [hys, foldV_all base hc1 hl1] at G
    have HG := Lib.hid G
    have c9 := G.b9.cell
    clear G
    gi_wp2
    have hgD := grownBy_putObj' W D (.deferred none)
    refine ⟨by simp, .inl ⟨_, _, rfl, run_takeDeferred hK, ?_⟩⟩
    refine ⟨_, results_tmp rfl _ _ _, _, rfl, ?_, ?_⟩
    · rw [lineF_len _ _ _ (by omega), hl1]
      exact own_turn HG.out.row hgD (fun r e => by cases e; exact ⟨_, hK, rfl⟩)
    · exact HG.out.bel.grown hgD (Nat.le_trans (by omega) HG.out.bel.size) (fun k e => by cases e; omega)
  case stop =>
    rintro D c pre W _ _ h _
    exact h.elim
set_option maxRecDepth 100000 in
set_option maxHeartbeats 2000000 in
theorem rvLine_any (A B : Option Addr) (n c m d : Nat) (cs ls : List Int) (x y base : Int) (w : World) (hr : Rd w 1 A n (cs.map (Value.int .i64))) (hs : Rd w 1 B m (ls.map (Value.int .i64))) (hn : n ≤ 100000) (hm : m ≤ 100000) (hnc : n ≤ c) (hmd : m ≤ d) :
    Calls Try.prog 9 #[.slice A n c, .slice B m d, .agg #[.int .i64 x, .int .i64 y], .int .i64 base] w fun e w' => ∃ v, e = .returned v ∧ w'.ownsRow w.heap.size 3 1 v (lineA cs ls (x, y) base).length ((lineA cs ls (x, y) base).map (Value.int .i64)) ∧ Below w.heap.size w w' := by
  have hl : cs.length = n := by simpa using hr.len1
  have hl2 : ls.length = m := by simpa using hs.len1
  by_cases hok : n = m ∧ 0 ≤ x ∧ x < y ∧ y ≤ m
  · obtain ⟨rfl, hx0, hxy, hyn⟩ := hok
    obtain ⟨lo, rfl⟩ : ∃ lo : Nat, x = (lo : Int) := ⟨x.toNat, by omega⟩
    obtain ⟨hi, rfl⟩ : ∃ hi : Nat, y = (hi : Int) := ⟨y.toNat, by omega⟩
    have HA : lineA cs ls ((lo : Int), (hi : Int)) base = lineF base (partF cs lo hi) (partF ls lo hi) := by unfold lineA; rw [if_pos (by rw [hl, hl2]; exact ⟨rfl, hx0, hxy, hyn⟩)]; simp
    rw [HA]
    exact callsIn_wide.1 (rvLine_in A B n c d cs ls lo hi base w hr hs hn hnc hmd (by omega) (by omega))
  · rw [lineA_no (by rw [hl, hl2]; exact hok)]
    have HB : Hid (Below w.heap.size w ((w.alloc (.cells #[.int .i64 x, .int .i64 y] 24)).alloc (.cells #[.int .i64 base] 3))) := Lib.hid ((below_new w _).alloc (by simp) _)
    have hbx : ((w.alloc (.cells #[.int .i64 x, .int .i64 y] 24)).alloc (.cells #[.int .i64 base] 3)).cell? ⟨w.heap.size, 0, none⟩ = some (.int .i64 x) := cell_below (below_new _ _) (cells_new w [.int .i64 x, .int .i64 y] _ 0 _ rfl)
    have hby : ((w.alloc (.cells #[.int .i64 x, .int .i64 y] 24)).alloc (.cells #[.int .i64 base] 3)).cell? ⟨w.heap.size, 1, none⟩ = some (.int .i64 y) := cell_below (below_new _ _) (cells_new w [.int .i64 x, .int .i64 y] _ 1 _ rfl)
    by_cases hnm : n = m
    · subst hnm
      have HW := Lib.hid (rvWithin_any x y n)
      rw [show withB x y n = false by
        unfold withB
        simp only [Bool.and_eq_false_iff, decide_eq_false_iff_not]
        omega] at HW
      clear hok hl hl2 hr hs
      go_enter Try.func9, Try.ntmps9
      go_wp2_with (first
        | (go_at_call 20; refine (HW.out _ (by omega)).mono ?_; rintro e w1 ⟨rfl, hb1⟩; have HB1 := Lib.hid (below_self HB.out hb1); clear hb1)
        | fail)
      go_ret
      exact ⟨_, rfl, ⟨rfl, .inl ⟨rfl, rfl⟩⟩, HB1.out⟩
    · have g1 : ((n : Int) != (m : Int)) = true := by simp; omega
      have g1' : (n != m) = true := by simp [hnm]
      clear hok hl hl2 hr hs hnm
      go_enter Try.func9, Try.ntmps9
      go_wp2_with fail
      go_ret
      exact ⟨_, rfl, ⟨rfl, .inl ⟨rfl, rfl⟩⟩, HB.out⟩
end Go.Proofs.Ytdgomaoikeffhaa
