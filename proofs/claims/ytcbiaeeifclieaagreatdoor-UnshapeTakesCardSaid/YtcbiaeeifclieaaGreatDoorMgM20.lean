/- Texts of one claim, one behind the other. -/
import Derived.Deep.DeepCutAuto
import Derived.Deep.CutBlock
import Derived.Deep.RegionLaw
import Derived.Deep.RegionHeld3
import Derived.Test.YtcbiaeeifclieaaGreatDoorMgM1
import Derived.Test.YtcbiaeeifclieaaGreatDoorMgM2
import Derived.Test.YtcbiaeeifclieaaGreatDoorMgM3
import Derived.Test.YtcbiaeeifclieaaGreatDoorMgM4
import Derived.Test.YtcbiaeeifclieaaGreatDoorMgM13
import Derived.Test.YtcbiaeeifclieaaGreatDoorMgM19
/- The reference's cells: Join. -/
namespace Go.Proofs.YtcbiaeeifclieaaGreatDoor
open Go.RowKit

section
variable {w w' : World} {base b gl n : Nat} {Q : List Value} {L : List (List Int)} {J : Value}
/-- What was joined is stored anew. -/
theorem RCAt.putJ (h : RCAt w base b gl n Q L J) (J' : Value) : RCAt (w.setCell ⟨b, 1, none⟩ J') base b gl n Q L J' :=
  ⟨by rw [heap_setCell_same w b 1 _ _ _ h.hb]; rfl, (hp_far (Ne.symm h.far.2.2.1) _ _).trans h.hl, h.lenQ, h.len, fun i v l hi hl => own_set_far (h.rows i v l hi hl) (own_not (h.rows i v l hi hl) h.far.1), ⟨h.far.1, h.far.2.1, h.far.2.2.1, by simpa [World.setCell] using h.far.2.2.2⟩⟩
end
def RcJoinAns (w w' : World) (base b gl n : Nat) (Q : List Value) (L : List (List Int)) (J : Value) (Js : List Sp) (lo hi : Int) (e : Ending) : Prop :=
  (¬ (0 ≤ lo ∧ lo < hi ∧ hi ≤ n) ∧ e = .returned (.int .i64 1) ∧ RCAt w' base b gl n Q L J ∧ w'.ownsRow base 39 2 J Js.length (cellsS Js) ∨
   (0 ≤ lo ∧ lo < hi ∧ hi ≤ n) ∧ e = .returned (.int .i64 0) ∧ ∃ J', RCAt w' base b gl n Q L J' ∧ w'.ownsRow base 39 2 J' (Js ++ [(lo, hi)]).length (cellsS (Js ++ [(lo, hi)]))) ∧ Kept w w' [b]
set_option maxRecDepth 100000 in
set_option maxHeartbeats 2000000 in
theorem rcJoin_any (base b gl n : Nat) (Q : List Value) (L : List (List Int)) (J : Value) (Js : List Sp) (lo hi : Int) (w : World) (hC : RCAt w base b gl n Q L J) (hJ : w.ownsRow base 39 2 J Js.length (cellsS Js)) (hjl : Js.length ≤ 100000) :
    Calls Tryz.prog 52 #[.pointer (some ⟨b, 0, none⟩), .agg #[.int .i64 lo, .int .i64 hi]] w fun e w' => RcJoinAns w w' base b gl n Q L J Js lo hi e := by
  have hbn := below_new w (.cells #[.int .i64 lo, .int .i64 hi] 39)
  have s1 := SpanBlk.new_ w lo hi 39
  have h1 := hC.low hbn
  have hJ1 := own_below hJ hbn
  obtain ⟨W1, hW1⟩ : ∃ W1, w.alloc (.cells #[.int .i64 lo, .int .i64 hi] 39) = W1 := ⟨_, rfl⟩
  rw [hW1] at hbn s1 h1 hJ1
  obtain ⟨d0, d1, f0, f1⟩ := s1
  simp only at d0 d1
  obtain ⟨bs, hbs⟩ : ∃ bs, w.heap.size = bs := ⟨_, rfl⟩
  rw [hbs] at d0 d1
  have c0 := hp_cell (j := 0) h1.hb rfl
  have HB := Lib.hid hbn
  have HC := Lib.hid h1
  have HJ1 := Lib.hid hJ1
  have HD := Lib.hid (And.intro d0 d1)
  have HSZ := Lib.hid hbs
  clear hC h1 hbn f0 f1 hJ hJ1
  go_enter Tryz.func52, Tryz.ntmps52
  go_upto_region 1 with fail
  try simp only [hW1, hbs]
  go_cut [17] (fun s wx => s = .bool (!(rightB (lo, hi)) || decide ((n : Int) < hi)) ∧ Below W1.heap.size W1 wx)
  case first =>
    cases hrb : rightB (lo, hi) with
    | false =>
      first
        | (go_region_law (first
            | (go_simp; go_at_call 83; refine (refRight_any lo hi _).mono ?_; rintro e' w4 ⟨rfl, hb4⟩; rw [hrb]; have hz4 : Below W1.heap.size W1 w4 := (by first | exact below_self (Below.refl _ _).drew hb4 | exact hb4); have y0 := cell_below hz4 d0; have y1 := cell_below hz4 d1; have y2 := cell_below hz4 c0)
            | fail))
        | fail
      all_goals (
        have HZ := Lib.hid hz4
        clear hz4 hb4 y0 y1 y2
        go_wp2_with fail
        rename_i hJ
        refine Met.intro (hJ _ _ ?_)
        (repeat apply Exists.intro)
        refine ⟨?_, rfl⟩)
      all_goals exact ⟨by simp [hrb], HZ.out⟩
    | true =>
      go_region_held3 (fun w' => w'.cell? ⟨bs, 0, none⟩ = some (.int .i64 lo) ∧ w'.cell? ⟨bs, 1, none⟩ = some (.int .i64 hi) ∧ w'.cell? ⟨b, 0, none⟩ = some (.slice (some ⟨gl, 0, none⟩) n n) ∧ Below W1.heap.size W1 w')
        (first
          | exact ⟨d0, d1, c0, Below.refl _ _⟩
          | exact ⟨d0, d1, c0, (Below.refl _ _).drew⟩
          | exact ⟨cell_below hz4 d0, cell_below hz4 d1, cell_below hz4 c0, hz4⟩
          | fail)
        (first
          | (go_at_call 83; refine (refRight_any lo hi _).mono ?_; rintro e' w4 ⟨rfl, hb4⟩; rw [hrb]; have hz4 : Below W1.heap.size W1 w4 := (by first | exact below_self (Below.refl _ _).drew hb4 | exact hb4))
          | fail)
      have HZ := Lib.hid hz4
      clear hz4 hb4
      go_wp2_with fail
      go_meet
      case rel => exact ⟨by simp [hrb], HZ.out⟩
  case rest =>
    obtain ⟨rfl, hb⟩ := hcut
    clear hbs hW1
    have hd0 := cell_below hb d0
    have hd1 := cell_below hb d1
    have HC2 := Lib.hid (HC.out.low hb)
    have HJ2 := Lib.hid (own_below HJ1.out hb)
    have HBW := Lib.hid (below_self HB.out hb)
    clear hb d0 d1 c0
    by_cases hgo : 0 ≤ lo ∧ lo < hi ∧ hi ≤ n
    · rw [show (!(rightB (lo, hi)) || decide ((n : Int) < hi)) = false by unfold rightB; simp; omega]
      have HG := Lib.hid hgo
      clear hgo
      obtain ⟨AJ, cJ, rfl, _⟩ := own_form HJ2.out
      have c1 := hp_cell (j := 1) HC2.out.hb rfl
      have HRJ := Lib.hid (Rd.of_own HJ2.out)
      have hone : ∀ u ∈ cellsS Js, u.oneCell' = true := cellsS_one Js
      have HONE := Lib.hid hone
      clear hone
      obtain ⟨jn, hjn⟩ : ∃ jn, Js.length = jn := ⟨_, rfl⟩
      have HJN := Lib.hid hjn
      rw [hjn] at c1 HRJ hjl
      clear hjn
      have hfz : ∀ W, Below wc.heap.size wc W → W.frozen? ⟨b, 1, none⟩ = false := fun W h => hp_froz ((h.block _ (hp_lt HC2.out.hb)).trans HC2.out.hb) 1
      have HFZ := Lib.hid hfz
      have hnew : Rd (wc.alloc (.cells #[.int .i64 lo, .int .i64 hi] 39)).drew 2 (some ⟨wc.heap.size, 0, none⟩) 1 [.int .i64 lo, .int .i64 hi] := Rd.below (w := wc.alloc (.cells #[.int .i64 lo, .int .i64 hi] 39)) ⟨rfl, fun _ => ⟨_, rfl, (by rw [World.size_alloc]; exact Nat.lt_succ_self _), cells_new wc [_, _] _⟩⟩ (Below.refl _ _).drew
      have HNEW := Lib.hid hnew
      have c1' := cell_below (below_new wc (.cells #[.int .i64 lo, .int .i64 hi] 39)) c1
      clear hnew
      clear hfz
      go_wp2_with fail
      go_region_law (first
        | (refine step_appR rfl _ _ _ rfl spanSlice (by decide) (.slice none 0 0) 0 [] rfl (World.ownsRow_nil wc.drew wc.heap.size _ _) AJ jn cJ (cellsS Js) rfl (HRJ.out.below (Below.refl _ _).drew) HONE.out (by omega) (by unfold maxLen; omega) (Nat.le_refl _) _ rfl ?_; intro v5 w5 hown5 hg5 hat5; simp only [Nat.zero_add, List.nil_append] at hown5; have hbA : Below wc.heap.size wc w5 := (Below.refl _ _).drew.grown hg5 (Nat.le_refl _) (fun k h => by cases h); clear hat5 hg5; have hf := own_form hown5; obtain ⟨A5, k5, rfl, hk5⟩ := hf; have hownA := hown5; have y0 := cell_below hbA hd0; have y1 := cell_below hbA hd1)
        | (refine step_appR rfl _ _ _ rfl spanSlice (by decide) (.slice none 0 0) 0 [] rfl (World.ownsRow_nil ((wc.alloc (.cells #[.int .i64 lo, .int .i64 hi] 39)).drew) wc.heap.size _ _) AJ jn cJ (cellsS Js) rfl (HRJ.out.below ((Below.refl _ _).alloc (Nat.le_refl _) _).drew) HONE.out (by omega) (by unfold maxLen; omega) (show wc.heap.size ≤ (wc.alloc _).heap.size by rw [World.size_alloc]; exact Nat.le_succ _) _ rfl ?_; intro v5 w5 hown5 hg5 hat5; simp only [Nat.zero_add, List.nil_append] at hown5; have hbB : Below wc.heap.size wc w5 := ((Below.refl _ _).alloc (Nat.le_refl _) _).drew.grown hg5 (show wc.heap.size ≤ (wc.alloc _).heap.size by rw [World.size_alloc]; exact Nat.le_succ _) (fun k h => by cases h); have hbB2 : Below ((wc.alloc (.cells #[.int .i64 lo, .int .i64 hi] 39)).drew).heap.size ((wc.alloc (.cells #[.int .i64 lo, .int .i64 hi] 39)).drew) w5 := (Below.refl _ _).grown hg5 (Nat.le_refl _) (fun k h => by cases h); clear hat5 hg5; have hf := own_form hown5; obtain ⟨A5, k5, rfl, hk5⟩ := hf; have hownB := hown5; have y0 := cell_below hbB hd0; have y1 := cell_below hbB hd1)
        | (refine step_appR rfl _ _ _ rfl spanSlice (by decide) (.slice A5 jn k5) jn _ rfl (hownA.alloc _) (some ⟨w5.heap.size, 0, none⟩) 1 1 [.int .i64 lo, .int .i64 hi] rfl ⟨rfl, fun _ => ⟨_, rfl, by simp, cells_new w5 [_, _] _⟩⟩ (oneInt2 _ _ _) (by omega) (by unfold maxLen; omega) (Nat.le_trans hbA.size (by simp)) _ rfl ?_; intro v6 w6 hown6 hg6 hat6; have hb6 : Below wc.heap.size wc w6 := (hbA.alloc hbA.size _).grown hg6 (Nat.le_trans hbA.size (by simp)) (fun k h => (hownA.lt k h).1); clear hat6 hg6; have hf6 := own_form hown6; obtain ⟨A6, k6, rfl, hk6⟩ := hf6; have z1 := cell_below hb6 c1; have z2 := HFZ.out _ hb6)
        | (refine step_appR rfl _ _ _ rfl spanSlice (by decide) (.slice A5 jn k5) jn _ rfl hownB (some ⟨wc.heap.size, 0, none⟩) 1 1 [.int .i64 lo, .int .i64 hi] rfl (HNEW.out.below hbB2) (oneInt2 _ _ _) (by omega) (by unfold maxLen; omega) hbB.size _ rfl ?_; intro v6 w6 hown6 hg6 hat6; have hb6 : Below wc.heap.size wc w6 := hbB.grown hg6 hbB.size (fun k h => (hownB.lt k h).1); clear hat6 hg6; have hf6 := own_form hown6; obtain ⟨A6, k6, rfl, hk6⟩ := hf6; have z1 := cell_below hb6 c1; have z2 := HFZ.out _ hb6)
        | fail)
      all_goals
        have hfar := HC2.out.far
        have HP := Lib.hid ((HC2.out.low hb6).putJ (.slice A6 (jn + 1) k6))
        have HO := Lib.hid (show (w6.setCell ⟨b, 1, none⟩ (.slice A6 (jn + 1) k6)).ownsRow base 39 2 (.slice A6 (jn + 1) k6) (Js ++ [(lo, hi)]).length (cellsS (Js ++ [(lo, hi)])) by
          rw [List.length_append, HJN.out, cellsS_snoc]
          exact own_set_far (own_base hown6 hfar.2.2.2) (fun e => by have := (hown6.lt b e).1; omega))
        have HK := Lib.hid ((Kept.of_below (below_self HBW.out hb6) [b]).set (.inl (List.mem_singleton_self _)) 1 (.slice A6 (jn + 1) k6))
        clear z1 z2 hown6 hb6 hfar
        go_wp2_with fail
        go_ret
        exact ⟨.inr ⟨HG.out, rfl, _, HP.out, HO.out⟩, HK.out⟩
    · rw [show (!(rightB (lo, hi)) || decide ((n : Int) < hi)) = true by unfold rightB; simp; omega]
      have HG := Lib.hid hgo
      clear hgo
      go_wp2_with fail
      go_ret
      exact ⟨.inl ⟨HG.out, rfl, HC2.out, HJ2.out⟩, Kept.of_below HBW.out _⟩
end Go.Proofs.YtcbiaeeifclieaaGreatDoor
/- The reference's finest map as labels of places: what its steps do to labels, and what holds when nothing changes. No program in this text. -/
namespace Go.Proofs.YtcbiaeeifclieaaGreatDoor

theorem setTo_get {xs : List Int} {lo hi : Nat} (v : Int) (h : lo ≤ hi) (hk : hi ≤ xs.length) (i : Nat) : (setTo xs lo hi v)[i]? = if lo ≤ i ∧ i < hi then some v else xs[i]? := by
  unfold setTo
  rcases Nat.lt_or_ge i lo with h1 | h1
  · rw [if_neg (by omega), List.append_assoc, List.getElem?_append_left (by simp; omega), List.getElem?_take, if_pos h1]
  · rcases Nat.lt_or_ge i hi with h2 | h2
    · rw [if_pos ⟨h1, h2⟩, List.getElem?_append_left (by simp; omega), List.getElem?_append_right (by simp; omega), List.getElem?_replicate, if_pos (by simp; omega)]
    · rw [if_neg (by omega), List.getElem?_append_right (by simp; omega), List.getElem?_drop]
      congr 1
      simp; omega
theorem least_fold : ∀ (l : List Int) (a : Int), l.foldl leastStep a ≤ a ∧ (∀ x ∈ l, l.foldl leastStep a ≤ x) ∧ (l.foldl leastStep a = a ∨ l.foldl leastStep a ∈ l)
  | [], a => ⟨Int.le_refl _, by simp, .inl rfl⟩
  | y :: l, a => by
    obtain ⟨h1, h2, h3⟩ := least_fold l (leastStep a y)
    rw [List.foldl_cons]
    have h4 : leastStep a y ≤ a ∧ leastStep a y ≤ y ∧ (leastStep a y = a ∨ leastStep a y = y) := by unfold leastStep; split <;> omega
    refine ⟨by omega, fun x hx => ?_, ?_⟩
    · rcases List.mem_cons.1 hx with rfl | hx
      · omega
      · exact h2 x hx
    · rcases h3 with h3 | h3
      · rcases h4.2.2 with h5 | h5
        · exact .inl (h3.trans h5)
        · exact .inr (by rw [h3, h5]; exact List.mem_cons_self ..)
      · exact .inr (List.mem_cons_of_mem _ h3)
theorem least_le {xs : List Int} {lo hi i : Nat} {x : Int} (h1 : lo ≤ i) (h2 : i < hi) (h : xs[i]? = some x) : leastS xs lo hi ≤ x := by
  refine (least_fold _ _).2.1 x (List.mem_of_getElem? (i := i - lo) ?_)
  rw [List.getElem?_take, if_pos (by omega), List.getElem?_drop, show lo + (i - lo) = i by omega, h]
theorem least_is {xs : List Int} {lo hi : Nat} (h1 : lo < hi) (h2 : hi ≤ xs.length) : ∃ i, lo ≤ i ∧ i < hi ∧ xs[i]? = some (leastS xs lo hi) := by
  rcases (least_fold ((xs.drop lo).take (hi - lo)) (xs.getD lo 0)).2.2 with h | h
  · refine ⟨lo, Nat.le_refl _, h1, ?_⟩
    rw [leastS, h, List.getD_eq_getElem?_getD, List.getElem?_eq_getElem (by omega)]
    rfl
  · obtain ⟨j, hj⟩ := List.getElem?_of_mem h
    rw [List.getElem?_take] at hj
    split at hj
    · rw [List.getElem?_drop] at hj
      exact ⟨lo + j, by omega, by omega, hj⟩
    · cases hj
theorem changed_no {xs : List Int} {lo hi : Nat} {v : Int} (h : changedB xs lo hi v = false) {i : Nat} (h1 : lo ≤ i) (h2 : i < hi) (h3 : i < xs.length) : xs[i]? = some v := by
  unfold changedB at h
  rw [List.any_eq_false] at h
  have hm : xs[i] ∈ (xs.drop lo).take (hi - lo) := by
    refine List.mem_of_getElem? (i := i - lo) ?_
    rw [List.getElem?_take, if_pos (by omega), List.getElem?_drop, show lo + (i - lo) = i by omega, List.getElem?_eq_getElem h3]
  have := h _ hm
  rw [List.getElem?_eq_getElem h3]
  simpa using this
theorem setTo_no {xs : List Int} {lo hi : Nat} {v : Int} (h : lo ≤ hi) (hk : hi ≤ xs.length) (hc : changedB xs lo hi v = false) : setTo xs lo hi v = xs := by
  apply List.ext_getElem?
  intro i
  rw [setTo_get v h hk]
  split
  · rename_i h9
    exact (changed_no hc h9.1 h9.2 (by omega)).symm
  · rfl
/-- The span of a label: from the first place that has it to the last one. -/
def HullInv (xs : List Int) (v : Int) (k a b : Nat) : Prop :=
  (b = 0 ∧ ∀ i, i < k → xs[i]? ≠ some v) ∨ (a < b ∧ b ≤ k ∧ xs[a]? = some v ∧ xs[b - 1]? = some v ∧ ∀ i, i < k → xs[i]? = some v → a ≤ i ∧ i < b)
theorem hull_inv {xs : List Int} {v : Int} : ∀ (l : List Int) (k a b : Nat), xs.drop k = l → HullInv xs v k a b → ∃ a' b' : Nat, hullFrom v l k ((a : Int), (b : Int)) = ((a' : Int), (b' : Int)) ∧ HullInv xs v xs.length a' b'
  | [], k, a, b, hd, h => by
    refine ⟨a, b, rfl, ?_⟩
    have hk : xs.length ≤ k := List.drop_eq_nil_iff.1 hd
    rcases h with ⟨h1, h2⟩ | ⟨h1, hb, h2, h3, h4⟩
    · exact .inl ⟨h1, fun i hi => h2 i (by omega)⟩
    · exact .inr ⟨h1, by have := (List.getElem?_eq_some_iff.1 h3).1; omega, h2, h3, fun i hi => h4 i (by omega)⟩
  | x :: l, k, a, b, hd, h => by
    have hx : xs[k]? = some x := by
      have : (xs.drop k)[0]? = some x := by rw [hd]; rfl
      rwa [List.getElem?_drop, Nat.add_zero] at this
    have hd' : xs.drop (k + 1) = l := by rw [← List.drop_drop, hd]; rfl
    cases hv : x == v with
    | false =>
      rw [hullFrom_no hv]
      have hne : x ≠ v := by simpa using hv
      refine hull_inv l (k + 1) a b hd' ?_
      have key : ∀ i, i < k + 1 → xs[i]? = some v → i < k := fun i hi h9 => by
        by_cases c : i = k
        · rw [c, hx] at h9; exact absurd (Option.some.inj h9) hne
        · omega
      rcases h with ⟨h1, h2⟩ | ⟨h1, hb, h2, h3, h4⟩
      · exact .inl ⟨h1, fun i hi h9 => h2 i (key i hi h9) h9⟩
      · exact .inr ⟨h1, by omega, h2, h3, fun i hi h9 => h4 i (key i hi h9) h9⟩
    | true =>
      have he : x = v := by simpa using hv
      rw [he] at hx
      rcases h with ⟨h1, h2⟩ | ⟨h1, hb, h2, h3, h4⟩
      · subst h1
        rw [hullFrom_first hv rfl, show ((k : Int) + 1) = ((k + 1 : Nat) : Int) by omega]
        refine hull_inv l (k + 1) k (k + 1) hd' (.inr ⟨by omega, Nat.le_refl _, hx, by simpa using hx, fun i hi h9 => ?_⟩)
        by_cases c : i = k
        · omega
        · exact absurd h9 (h2 i (by omega))
      · rw [hullFrom_more hv (by simp; omega), show ((k : Int) + 1) = ((k + 1 : Nat) : Int) by omega]
        refine hull_inv l (k + 1) a (k + 1) hd' (.inr ⟨by omega, Nat.le_refl _, h2, by simpa using hx, fun i hi h9 => ⟨?_, hi⟩⟩)
        by_cases c : i = k
        · omega
        · exact (h4 i (by omega) h9).1
theorem hull_is {xs : List Int} {k : Nat} {v : Int} (h : xs[k]? = some v) : ∃ a b : Nat, hullN xs v = ((a : Int), (b : Int)) ∧ a < b ∧ b ≤ xs.length ∧ xs[a]? = some v ∧ xs[b - 1]? = some v ∧ ∀ i, xs[i]? = some v → a ≤ i ∧ i < b := by
  obtain ⟨a, b, e, hi⟩ := hull_inv (xs := xs) (v := v) xs 0 0 0 rfl (.inl ⟨rfl, fun i hi => absurd hi (Nat.not_lt_zero _)⟩)
  have hk := (List.getElem?_eq_some_iff.1 h).1
  rcases hi with ⟨_, h2⟩ | ⟨h1, h2, h3, h4, h5⟩
  · exact absurd h (h2 k hk)
  · exact ⟨a, b, e, h1, h2, h3, h4, fun i hi => h5 i (List.getElem?_eq_some_iff.1 hi).1 hi⟩

/-- The labels of both sides. -/
def labs (xs ys : List Int) : Bool → List Int
  | false => xs
  | true => ys
def lamOf (lab : Bool → List Int) (p : Pl) : Option Int := (lab p.1)[p.2]?
def put (lab : Bool → List Int) (s : Bool) (zs : List Int) : Bool → List Int := fun t => if t = s then zs else lab t
theorem put_false (xs ys zs : List Int) : put (labs xs ys) false zs = labs zs ys := by funext t; cases t <;> rfl
theorem put_true (xs ys zs : List Int) : put (labs xs ys) true zs = labs xs zs := by funext t; cases t <;> rfl
theorem put_at (lab : Bool → List Int) (s : Bool) (zs : List Int) : put lab s zs s = zs := if_pos rfl
theorem put_self (lab : Bool → List Int) (s : Bool) : put lab s (lab s) = lab := by
  funext t
  unfold put
  split
  · rename_i h; rw [h]
  · rfl
theorem put_put (lab : Bool → List Int) (s : Bool) (a b : List Int) : put (put lab s a) s b = put lab s b := by
  funext t
  unfold put
  split <;> rfl
theorem lam_put {lab : Bool → List Int} {s : Bool} {lo hi : Nat} (v : Int) (h : lo ≤ hi) (hk : hi ≤ (lab s).length) (p : Pl) : lamOf (put lab s (setTo (lab s) lo hi v)) p = if p.1 = s ∧ lo ≤ p.2 ∧ p.2 < hi then some v else lamOf lab p := by
  obtain ⟨t, i⟩ := p
  unfold lamOf put
  by_cases c : t = s
  · subst c
    simp only [if_true, true_and]
    exact setTo_get v h hk i
  · simp only [c, if_false, false_and]
/-- Places of one label belong together. -/
def SoundLab (L : List NC) (lab : Bool → List Int) : Prop := ∀ p q v, lamOf lab p = some v → lamOf lab q = some v → Tog L p q
def PosLab (lab : Bool → List Int) : Prop := ∀ p v, lamOf lab p = some v → 0 ≤ v
def totLab (lab : Bool → List Int) : Int := (lab false).sum + (lab true).sum
/-- Labels fall, if they change. -/
structure Went (a b : Bool → List Int) (ch : Bool) : Prop where
  no : ch = false → b = a
  le : totLab b ≤ totLab a
  lt : ch = true → totLab b < totLab a
theorem Went.refl (a : Bool → List Int) : Went a a false := ⟨fun _ => rfl, Int.le_refl _, fun h => by cases h⟩
theorem Went.trans {a b c : Bool → List Int} {p q : Bool} (h : Went a b p) (k : Went b c q) : Went a c (q || p) := by
  refine ⟨fun e => ?_, Int.le_trans k.le h.le, fun e => ?_⟩
  · rw [Bool.or_eq_false_iff] at e
    rw [k.no e.1, h.no e.2]
  · rw [Bool.or_eq_true_iff] at e
    have := h.le
    have := k.le
    rcases e with e | e
    · have := k.lt e; omega
    · have := h.lt e; omega
theorem sum_rep : ∀ (l : List Int) (v : Int), (∀ x ∈ l, v ≤ x) → (List.replicate l.length v).sum ≤ l.sum ∧ ((l.any fun x => x != v) = true → (List.replicate l.length v).sum < l.sum)
  | [], _, _ => ⟨Int.le_refl _, by simp⟩
  | y :: l, v, h => by
    obtain ⟨h1, h2⟩ := sum_rep l v (fun x hx => h x (List.mem_cons_of_mem _ hx))
    have h3 := h y (List.mem_cons_self ..)
    rw [List.length_cons, List.replicate_succ, List.sum_cons, List.sum_cons]
    refine ⟨by omega, fun h4 => ?_⟩
    rw [List.any_cons, Bool.or_eq_true_iff] at h4
    rcases h4 with h4 | h4
    · have : y ≠ v := by simpa using h4
      omega
    · have := h2 h4
      omega
theorem sum_setTo {xs : List Int} {lo hi : Nat} {v : Int} (h : lo ≤ hi) (hk : hi ≤ xs.length) (hv : ∀ i x, lo ≤ i → i < hi → xs[i]? = some x → v ≤ x) : (setTo xs lo hi v).sum ≤ xs.sum ∧ (changedB xs lo hi v = true → (setTo xs lo hi v).sum < xs.sum) := by
  have hm : ((xs.drop lo).take (hi - lo)).length = hi - lo := by simp; omega
  have hr := sum_rep ((xs.drop lo).take (hi - lo)) v (fun x hx => by
    obtain ⟨j, hj⟩ := List.getElem?_of_mem hx
    rw [List.getElem?_take] at hj
    split at hj
    · rw [List.getElem?_drop] at hj
      exact hv (lo + j) x (by omega) (by omega) hj
    · cases hj)
  rw [hm] at hr
  have hs : xs.sum = (xs.take lo).sum + ((xs.drop lo).take (hi - lo)).sum + (xs.drop hi).sum := by
    have e : xs = xs.take lo ++ ((xs.drop lo).take (hi - lo) ++ xs.drop hi) := by
      have e1 : xs.drop hi = (xs.drop lo).drop (hi - lo) := by rw [List.drop_drop, show lo + (hi - lo) = hi by omega]
      rw [e1, List.take_append_drop, List.take_append_drop]
    conv => lhs; rw [e]
    rw [List.sum_append, List.sum_append]
    omega
  unfold setTo changedB
  rw [List.sum_append, List.sum_append, hs]
  refine ⟨by omega, fun hc => ?_⟩
  have := hr.2 hc
  omega
theorem tot_put (lab : Bool → List Int) (s : Bool) (zs : List Int) : totLab (put lab s zs) = totLab lab - (lab s).sum + zs.sum := by
  cases s
  · show zs.sum + (lab true).sum = (lab false).sum + (lab true).sum - (lab false).sum + zs.sum
    omega
  · show (lab false).sum + zs.sum = (lab false).sum + (lab true).sum - (lab true).sum + zs.sum
    omega
/-- A span of places that belong to one place, given its label. -/
theorem lab_set {L : List NC} {lab : Bool → List Int} {s : Bool} {lo hi : Nat} {v : Int} {p0 : Pl} (hs : SoundLab L lab) (hp : PosLab lab) (h : lo ≤ hi) (hk : hi ≤ (lab s).length) (h0 : lamOf lab p0 = some v) (ht : ∀ k, lo ≤ k → k < hi → Tog L (s, k) p0)
    (hv : ∀ i x, lo ≤ i → i < hi → (lab s)[i]? = some x → v ≤ x) :
    SoundLab L (put lab s (setTo (lab s) lo hi v)) ∧ PosLab (put lab s (setTo (lab s) lo hi v)) ∧ Went lab (put lab s (setTo (lab s) lo hi v)) (changedB (lab s) lo hi v) := by
  refine ⟨fun p q u h1 h2 => ?_, fun p u h1 => ?_, ⟨fun hc => ?_, ?_, fun hc => ?_⟩⟩
  · rw [lam_put v h hk] at h1 h2
    have key : ∀ p : Pl, (p.1 = s ∧ lo ≤ p.2 ∧ p.2 < hi) → Tog L p p0 := fun p hp => by
      have := ht p.2 hp.2.1 hp.2.2
      rwa [← hp.1] at this
    split at h1
    · rename_i c1
      injection h1 with h1
      subst h1
      split at h2
      · rename_i c2
        exact .trans _ _ _ (key p c1) (.symm _ _ (key q c2))
      · exact .trans _ _ _ (key p c1) (hs _ _ _ h0 h2)
    · split at h2
      · rename_i c2
        injection h2 with h2
        subst h2
        exact .trans _ _ _ (hs _ _ _ h1 h0) (.symm _ _ (key q c2))
      · exact hs _ _ _ h1 h2
  · rw [lam_put v h hk] at h1
    split at h1
    · injection h1 with h1
      rw [← h1]
      exact hp _ _ h0
    · exact hp _ _ h1
  · rw [setTo_no h hk hc, put_self]
  · rw [tot_put]
    have := (sum_setTo h hk hv).1
    omega
  · rw [tot_put]
    have := (sum_setTo h hk hv).2 hc
    omega
/-- The span of the label of a place has that label alone. -/
def HullCl (xs : List Int) (i : Nat) : Prop := ∀ v, xs[i]? = some v → ∀ a b : Nat, hullN xs v = ((a : Int), (b : Int)) → ∀ j, a ≤ j → j < b → xs[j]? = some v
theorem whole_from {L : List NC} {s : Bool} {m : Nat} : ∀ (d k : Nat) (lab : Bool → List Int) (b : Bool), m - k = d → k ≤ m → (lab s).length = m → SoundLab L lab → PosLab lab →
    ∃ ch, (wholeFrom m k (lab s, b)).2 = (ch || b) ∧ (wholeFrom m k (lab s, b)).1.length = m ∧ SoundLab L (put lab s (wholeFrom m k (lab s, b)).1) ∧ PosLab (put lab s (wholeFrom m k (lab s, b)).1) ∧ Went lab (put lab s (wholeFrom m k (lab s, b)).1) ch ∧ (ch = false → ∀ i, k ≤ i → i < m → HullCl (lab s) i)
  | 0, k, lab, b, hd, hk, hl, hs, hp => by
    have e : k = m := by omega
    subst e
    rw [wholeFrom_end]
    refine ⟨false, by simp, hl, ?_, ?_, ?_, fun _ i h1 h2 => by omega⟩
    · rw [put_self]; exact hs
    · rw [put_self]; exact hp
    · rw [put_self]; exact Went.refl _
  | d + 1, k, lab, b, hd, hk, hl, hs, hp => by
    have hlt : k < m := by omega
    obtain ⟨v, hv⟩ : ∃ v, (lab s)[k]? = some v := ⟨_, List.getElem?_eq_getElem (by omega)⟩
    obtain ⟨lo, hi, e, h1, h2, h3, h4, h5⟩ := hull_is hv
    have hkin := h5 k hv
    rw [wholeFrom_succ _ hlt, wholeStep_at hv e]
    obtain ⟨i0, g1, g2, g3⟩ := least_is h1 h2
    generalize hy : leastS (lab s) lo hi = y at *
    have htog : ∀ j, lo ≤ j → j < hi → Tog L (s, j) (s, i0) := fun j j1 j2 => by
      have hends : Tog L (s, lo) (s, hi - 1) := hs _ _ _ h3 h4
      have a1 : Tog L (s, lo) (s, j) := .between s lo j (hi - 1) j1 (by omega) hends
      have a2 : Tog L (s, lo) (s, i0) := .between s lo i0 (hi - 1) g1 (by omega) hends
      exact .trans _ _ _ (.symm _ _ a1) a2
    obtain ⟨q1, q2, q3⟩ := lab_set (p0 := (s, i0)) hs hp (Nat.le_of_lt h1) h2 g3 htog (fun i x i1 i2 i3 => by rw [← hy]; exact least_le i1 i2 i3)
    have hl2 : (put lab s (setTo (lab s) lo hi y) s).length = m := by rw [put_at, setTo_len _ (Nat.le_of_lt h1) h2]; exact hl
    obtain ⟨ch, r1, r2, r3, r4, r5, r6⟩ := whole_from d (k + 1) (put lab s (setTo (lab s) lo hi y)) (changedB (lab s) lo hi y || b) (by omega) (by omega) hl2 q1 q2
    rw [put_at] at r1 r2 r3 r4 r5 r6
    rw [put_put] at r3 r4 r5
    refine ⟨ch || changedB (lab s) lo hi y, by rw [r1, Bool.or_assoc], r2, r3, r4, q3.trans r5, fun hc i i1 i2 => ?_⟩
    rw [Bool.or_eq_false_iff] at hc
    by_cases ci : i = k
    · subst ci
      intro v' hv' a' b' e' j j1 j2
      rw [hv] at hv'
      obtain rfl := Option.some.inj hv'
      rw [e] at e'
      injection e' with e1 e2
      have hin := changed_no hc.2 hkin.1 hkin.2 (by omega)
      rw [hv] at hin
      have hjn := changed_no hc.2 (i := j) (by omega) (by omega) (by omega)
      rw [hjn, hin]
    · have := r6 hc.1 i (by omega) i2
      rwa [setTo_no (Nat.le_of_lt h1) h2 hc.2] at this
/-- What lies between two places of a label has it. -/
theorem hull_between {xs : List Int} (h : ∀ i, i < xs.length → HullCl xs i) {i k j : Nat} {v : Int} (h1 : i ≤ k) (h2 : k ≤ j) (hi : xs[i]? = some v) (hj : xs[j]? = some v) : xs[k]? = some v := by
  obtain ⟨a, b, e, a1, a2, a3, a4, a5⟩ := hull_is hi
  have b1 := a5 i hi
  have b2 := a5 j hj
  exact h i (List.getElem?_eq_some_iff.1 hi).1 v hi a b e k (by omega) (by omega)
end Go.Proofs.YtcbiaeeifclieaaGreatDoor
/- The reference's finest map as labels: one turn, labels that nothing changes, and the list of clusters that they tell. No program in this text. -/
namespace Go.Proofs.YtcbiaeeifclieaaGreatDoor

/-- Labels behind the first k links of a turn. -/
structure LinkSt (L : List NC) (n m k : Nat) (lab0 lab : Bool → List Int) (ch : Bool) : Prop where
  lx : (lab false).length = n
  ly : (lab true).length = m
  sound : SoundLab L lab
  pos : PosLab lab
  went : Went lab0 lab ch
  done : ch = false → ∀ j x, j < k → L[j]? = some x → ∀ p q, x.has p → x.has q → lamOf lab0 p = lamOf lab0 q
def minI (a b : Int) : Int := if b < a then b else a
theorem minI_le (a b : Int) : minI a b ≤ a ∧ minI a b ≤ b ∧ (minI a b = a ∨ minI a b = b) := by unfold minI; split <;> omega
theorem put_other (lab : Bool → List Int) {s t : Bool} (h : t ≠ s) (zs : List Int) : put lab s zs t = lab t := if_neg h
theorem link_both {L : List NC} {n m k : Nat} {lab0 lab : Bool → List Int} {ch : Bool} {x : NC} (h : LinkSt L n m k lab0 lab ch) (hx : L[k]? = some x) (h1 : x.a < x.b) (h2 : x.b ≤ n) (h3 : x.c < x.d) (h4 : x.d ≤ m) (v : Int) (hv : v = minI (leastS (lab false) x.a x.b) (leastS (lab true) x.c x.d)) :
    LinkSt L n m (k + 1) lab0 (put (put lab true (setTo (lab true) x.c x.d v)) false (setTo (lab false) x.a x.b v)) (changedB (lab false) x.a x.b v || (changedB (lab true) x.c x.d v || ch)) := by
  obtain ⟨m1, m2, m3⟩ := minI_le (leastS (lab false) x.a x.b) (leastS (lab true) x.c x.d)
  rw [← hv] at m1 m2 m3
  have hmem : x ∈ L := List.mem_of_getElem? hx
  have b1 : x.b ≤ (lab false).length := by rw [h.lx]; exact h2
  have b2 : x.d ≤ (lab true).length := by rw [h.ly]; exact h4
  obtain ⟨p0, g1, g2⟩ : ∃ p0 : Pl, x.has p0 ∧ lamOf lab p0 = some v := by
    rcases m3 with e | e
    · obtain ⟨i, i1, i2, i3⟩ := least_is h1 b1
      exact ⟨(false, i), ⟨i1, i2⟩, by rw [e]; exact i3⟩
    · obtain ⟨i, i1, i2, i3⟩ := least_is h3 b2
      exact ⟨(true, i), ⟨i1, i2⟩, by rw [e]; exact i3⟩
  obtain ⟨q1, q2, q3⟩ := lab_set (s := true) h.sound h.pos (Nat.le_of_lt h3) b2 g2 (fun j j1 j2 => .link x _ _ hmem ⟨j1, j2⟩ g1) (fun i y i1 i2 i3 => Int.le_trans m2 (least_le i1 i2 i3))
  have g3 : lamOf (put lab true (setTo (lab true) x.c x.d v)) p0 = some v := by
    rw [lam_put v (Nat.le_of_lt h3) b2]
    split
    · rfl
    · exact g2
  have e1 : put lab true (setTo (lab true) x.c x.d v) false = lab false := put_other lab (by decide) _
  obtain ⟨r1, r2, r3⟩ := lab_set (s := false) q1 q2 (Nat.le_of_lt h1) (by rw [e1]; exact b1) g3 (fun j j1 j2 => .link x _ _ hmem ⟨j1, j2⟩ g1) (fun i y i1 i2 i3 => by rw [e1] at i3; exact Int.le_trans m1 (least_le i1 i2 i3))
  rw [e1] at r1 r2 r3
  refine ⟨?_, ?_, r1, r2, ?_, fun hc j y hj hy p q hp hq => ?_⟩
  · rw [put_at, setTo_len _ (Nat.le_of_lt h1) b1]; exact h.lx
  · rw [put_other _ (by decide), put_at, setTo_len _ (Nat.le_of_lt h3) b2]; exact h.ly
  · have := (h.went.trans q3).trans r3
    exact this
  · rw [Bool.or_eq_false_iff, Bool.or_eq_false_iff] at hc
    obtain ⟨c1, c2, c3⟩ := hc
    by_cases e : j = k
    · subst e
      rw [hx] at hy
      obtain rfl := Option.some.inj hy
      have e0 := h.went.no c3
      have key : ∀ p : Pl, x.has p → lamOf lab0 p = some v := fun p hp => by
        rw [← e0]
        obtain ⟨t, i⟩ := p
        cases t with
        | false => exact changed_no c1 (show x.a ≤ i ∧ i < x.b from hp).1 (show x.a ≤ i ∧ i < x.b from hp).2 (by have := (show x.a ≤ i ∧ i < x.b from hp).2; omega)
        | true => exact changed_no c2 (show x.c ≤ i ∧ i < x.d from hp).1 (show x.c ≤ i ∧ i < x.d from hp).2 (by have := (show x.c ≤ i ∧ i < x.d from hp).2; omega)
      rw [key p hp, key q hq]
    · exact h.done c3 j y (by omega) hy p q hp hq
theorem link_in {L : List NC} {n m k : Nat} {lab0 lab : Bool → List Int} {ch : Bool} {x : NC} (h : LinkSt L n m k lab0 lab ch) (hx : L[k]? = some x) (h1 : x.a < x.b) (h2 : x.b ≤ n) (h3 : x.d ≤ x.c) (v : Int) (hv : v = leastS (lab false) x.a x.b) :
    LinkSt L n m (k + 1) lab0 (put lab false (setTo (lab false) x.a x.b v)) (changedB (lab false) x.a x.b v || ch) := by
  have hmem : x ∈ L := List.mem_of_getElem? hx
  have b1 : x.b ≤ (lab false).length := by rw [h.lx]; exact h2
  obtain ⟨i0, i1, i2, i3⟩ := least_is h1 b1
  rw [← hv] at i3
  obtain ⟨r1, r2, r3⟩ := lab_set (s := false) (p0 := (false, i0)) h.sound h.pos (Nat.le_of_lt h1) b1 i3 (fun j j1 j2 => .link x _ _ hmem ⟨j1, j2⟩ ⟨i1, i2⟩) (fun i y j1 j2 j3 => by rw [hv]; exact least_le j1 j2 j3)
  refine ⟨?_, ?_, r1, r2, h.went.trans r3, fun hc j y hj hy p q hp hq => ?_⟩
  · rw [put_at, setTo_len _ (Nat.le_of_lt h1) b1]; exact h.lx
  · rw [put_other _ (by decide)]; exact h.ly
  · rw [Bool.or_eq_false_iff] at hc
    obtain ⟨c1, c3⟩ := hc
    by_cases e : j = k
    · subst e
      rw [hx] at hy
      obtain rfl := Option.some.inj hy
      have e0 := h.went.no c3
      have key : ∀ p : Pl, x.has p → lamOf lab0 p = some v := fun p hp => by
        rw [← e0]
        obtain ⟨t, i⟩ := p
        cases t with
        | false => exact changed_no c1 (show x.a ≤ i ∧ i < x.b from hp).1 (show x.a ≤ i ∧ i < x.b from hp).2 (by have := (show x.a ≤ i ∧ i < x.b from hp).2; omega)
        | true => have := (show x.c ≤ i ∧ i < x.d from hp); omega
      rw [key p hp, key q hq]
    · exact h.done c3 j y (by omega) hy p q hp hq
/-- Labels behind one turn. -/
structure TurnOk (L : List NC) (n m : Nat) (lab0 lab : Bool → List Int) (ch : Bool) : Prop where
  lx : (lab false).length = n
  ly : (lab true).length = m
  sound : SoundLab L lab
  pos : PosLab lab
  went : Went lab0 lab ch
  links : ch = false → ∀ x ∈ L, ∀ p q, x.has p → x.has q → lamOf lab0 p = lamOf lab0 q
  holes : ch = false → ∀ s i k j v, i ≤ k → k ≤ j → lamOf lab0 (s, i) = some v → lamOf lab0 (s, j) = some v → lamOf lab0 (s, k) = some v
theorem turn_end {L : List NC} {n m : Nat} {lab0 lab : Bool → List Int} {ch : Bool} (h : LinkSt L n m L.length lab0 lab ch) :
    ∃ c1 c2, (wholeFrom n 0 (lab false, false)).2 = c1 ∧ (wholeFrom m 0 (lab true, false)).2 = c2 ∧ TurnOk L n m lab0 (labs (wholeFrom n 0 (lab false, false)).1 (wholeFrom m 0 (lab true, false)).1) (c2 || (c1 || ch)) := by
  obtain ⟨c1, a1, a2, a3, a4, a5, a6⟩ := whole_from (L := L) (s := false) (m := n) n 0 lab false (by omega) (Nat.zero_le _) h.lx h.sound h.pos
  have e1 : put lab false (wholeFrom n 0 (lab false, false)).1 true = lab true := put_other lab (by decide) _
  obtain ⟨c2, b1, b2, b3, b4, b5, b6⟩ := whole_from (L := L) (s := true) (m := m) m 0 (put lab false (wholeFrom n 0 (lab false, false)).1) false (by omega) (Nat.zero_le _) (by rw [e1]; exact h.ly) a3 a4
  rw [e1] at b1 b2 b3 b4 b5 b6
  have e2 : put (put lab false (wholeFrom n 0 (lab false, false)).1) true (wholeFrom m 0 (lab true, false)).1 = labs (wholeFrom n 0 (lab false, false)).1 (wholeFrom m 0 (lab true, false)).1 := by
    funext t; cases t <;> rfl
  rw [e2] at b3 b4 b5
  refine ⟨c1, c2, by rw [a1, Bool.or_false], by rw [b1, Bool.or_false], a2, b2, b3, b4, (h.went.trans a5).trans b5, fun hc x hx p q hp hq => ?_, fun hc s i k j v h1 h2 h3 h4 => ?_⟩
  · rw [Bool.or_eq_false_iff, Bool.or_eq_false_iff] at hc
    obtain ⟨j, hj⟩ := List.getElem?_of_mem hx
    exact h.done hc.2.2 j x (List.getElem?_eq_some_iff.1 hj).1 hj p q hp hq
  · rw [Bool.or_eq_false_iff, Bool.or_eq_false_iff] at hc
    have e0 := h.went.no hc.2.2
    rw [← e0] at h3 h4 ⊢
    cases s with
    | false => exact hull_between (fun i hi => a6 hc.2.1 i (Nat.zero_le _) (by rw [h.lx] at hi; exact hi)) h1 h2 h3 h4
    | true => exact hull_between (fun i hi => b6 hc.1 i (Nat.zero_le _) (by rw [h.ly] at hi; exact hi)) h1 h2 h3 h4
/-- Where a turn changes nothing, one label says: together. -/
theorem lab_tog {L : List NC} {n m : Nat} {lab0 lab : Bool → List Int} (h : TurnOk L n m lab0 lab false) {p : Pl} {v : Int} (hp : lamOf lab0 p = some v) (q : Pl) : lamOf lab0 q = some v ↔ Tog L p q := by
  have e0 := h.went.no rfl
  constructor
  · intro hq
    have := h.sound
    rw [e0] at this
    exact this _ _ _ hp hq
  · intro ht
    have hS := Tog.least (S := fun p q => lamOf lab0 p = lamOf lab0 q) (fun _ => rfl) (fun _ _ h => h.symm) (fun _ _ _ h k => h.trans k) (fun x hx p q hp hq => h.links rfl x hx p q hp hq) (fun s i k j h1 h2 h3 => by
      show lamOf lab0 (s, i) = lamOf lab0 (s, k)
      have h3' : lamOf lab0 (s, i) = lamOf lab0 (s, j) := h3
      rcases hi : lamOf lab0 (s, i) with _ | u
      · symm
        have : (lab0 s).length ≤ i := by
          unfold lamOf at hi
          exact List.getElem?_eq_none_iff.1 hi
        exact List.getElem?_eq_none_iff.2 (Nat.le_trans this h1)
      · rw [hi] at h3'
        exact (h.holes rfl s i k j u h1 h2 hi h3'.symm).symm) ht
    rw [← hS, hp]
theorem Tog.iff {L M : List NC} (h : ∀ x, x ∈ L ↔ x ∈ M) (p q : Pl) : Tog L p q ↔ Tog M p q := ⟨fun t => t.sub fun x hx => (h x).1 hx, fun t => t.sub fun x hx => (h x).2 hx⟩
theorem Finest.same {L M : List NC} {s n m : Nat} {l : List NC} (h : Finest L s n m l) (hm : ∀ x, x ∈ L ↔ x ∈ M) : Finest M s n m l := ⟨h.tiles, h.out, fun i h1 h2 q hq => (Tog.iff hm _ _).symm.trans (h.tog i h1 h2 q hq)⟩
/-- The clusters that begin below a place. -/
def below_ (l : List NC) (i : Nat) : List NC := l.filter fun x => decide (x.a < i)
theorem below_none : ∀ {l : List NC} {s n : Nat} (i : Nat), Tiles s l n → i ≤ s → below_ l i = []
  | [], _, _, _, _, _ => rfl
  | x :: l, s, n, i, ⟨h1, h2, h3⟩, hi => by
    unfold below_
    rw [List.filter_cons, if_neg (by simp; omega)]
    exact below_none i h3 (by omega)
theorem below_all {l : List NC} {s n : Nat} (h : Tiles s l n) : below_ l n = l := by
  unfold below_
  rw [List.filter_eq_self]
  intro x hx
  have := h.from_ x hx
  simp; omega
theorem below_step : ∀ {l : List NC} {s n : Nat} {x : NC}, Tiles s l n → x ∈ l → below_ l (x.a + 1) = below_ l x.a ++ [x]
  | y :: l, s, n, x, ⟨h1, h2, h3⟩, hx => by
    unfold below_
    rw [List.filter_cons, List.filter_cons]
    rcases List.mem_cons.1 hx with e | hx
    · subst e
      rw [if_pos (by simp), if_neg (by simp)]
      have e1 := below_none (x.a + 1) h3 (by omega)
      have e2 := below_none x.a h3 (by omega)
      unfold below_ at e1 e2
      rw [e1, e2]; rfl
    · have h4 := h3.from_ x hx
      have := below_step h3 hx
      unfold below_ at this
      rw [if_pos (by simp; omega), if_pos (by simp; omega), this]
      rfl
theorem below_skip {l : List NC} {i : Nat} (h : ∀ x ∈ l, x.a ≠ i) : below_ l (i + 1) = below_ l i := by
  unfold below_
  apply List.filter_congr
  intro x hx
  have := h x hx
  congr 1
  apply propext
  omega
theorem hull_eq {xs : List Int} {k c d : Nat} {v : Int} (hk : xs[k]? = some v) (h : c < d) (hc : d ≤ xs.length) (hi : ∀ i, i < xs.length → (xs[i]? = some v ↔ c ≤ i ∧ i < d)) : hullN xs v = ((c : Int), (d : Int)) := by
  obtain ⟨a, b, e, h1, h2, h3, h4, h5⟩ := hull_is hk
  have a1 := (hi a (by omega)).1 h3
  have a2 := (hi (b - 1) (by omega)).1 h4
  have a3 := h5 c ((hi c (by omega)).2 ⟨Nat.le_refl _, h⟩)
  have a4 := h5 (d - 1) ((hi (d - 1) (by omega)).2 ⟨by omega, by omega⟩)
  rw [e]
  have : a = c ∧ b = d := by omega
  rw [this.1, this.2]
/-- The labels tell the finest map: where a cluster begins, and its spans. -/
theorem fin_begin {L : List NC} {n m : Nat} {xs ys : List Int} {lab : Bool → List Int} {l : List NC} (h : TurnOk L n m (labs xs ys) lab false) (hf : Finest L 0 n m l) (hx : xs.length = n) (hy : ys.length = m) {i : Nat} {v : Int} (hi : xs[i]? = some v) (hb : i = 0 ∨ ∃ u, xs[i - 1]? = some u ∧ u ≠ v) :
    ∃ x ∈ l, x.a = i ∧ hullN xs v = ((x.a : Int), (x.b : Int)) ∧ hullN ys v = ((x.c : Int), (x.d : Int)) := by
  have hin : i < n := by rw [← hx]; exact (List.getElem?_eq_some_iff.1 hi).1
  obtain ⟨x, hxl, g1, g2⟩ := hf.tiles.cover i (Nat.zero_le _) hin
  have hxn := hf.tiles.from_ x hxl
  have ht := fun q => lab_tog h (p := (false, i)) (v := v) hi q
  have same : ∀ q : Pl, (if q.1 = true then q.2 < m else 0 ≤ q.2 ∧ q.2 < n) → (lamOf (labs xs ys) q = some v ↔ x.has q) := fun q hq => by
    rw [ht q, hf.tog i (Nat.zero_le _) hin q hq]
    constructor
    · rintro ⟨y, hyl, k1, k2⟩
      rw [hf.tiles.one x hxl y hyl i g1 g2 k1.1 k1.2]
      exact k2
    · intro k
      exact ⟨x, hxl, ⟨g1, g2⟩, k⟩
  have hxa : x.a = i := by
    rcases Nat.lt_or_ge x.a i with hlt | hge
    · exfalso
      rcases hb with hb | ⟨u, hu, hne⟩
      · omega
      · have := (same (false, i - 1) (show 0 ≤ i - 1 ∧ i - 1 < n by omega)).2 (show x.a ≤ i - 1 ∧ i - 1 < x.b by omega)
        have h9 : xs[i - 1]? = some v := this
        rw [hu] at h9
        exact hne (Option.some.inj h9)
    · omega
  have ho := hf.out x hxl
  refine ⟨x, hxl, hxa, hull_eq hi hxn.2.1 (by omega) fun k hk => ?_, hull_eq (k := x.c) (((same (true, x.c) (show x.c < m by omega)).2 (show x.c ≤ x.c ∧ x.c < x.d by omega))) ho.1 (by omega) fun k hk => ?_⟩
  · exact same (false, k) (show 0 ≤ k ∧ k < n by omega)
  · exact same (true, k) (show k < m by omega)
theorem fin_skip {L : List NC} {n m : Nat} {xs ys : List Int} {lab : Bool → List Int} {l : List NC} (h : TurnOk L n m (labs xs ys) lab false) (hf : Finest L 0 n m l) (hx : xs.length = n) {i : Nat} {v : Int} (hi : xs[i]? = some v) (h0 : 0 < i) (hb : xs[i - 1]? = some v) : ∀ x ∈ l, x.a ≠ i := by
  have hin : i < n := by rw [← hx]; exact (List.getElem?_eq_some_iff.1 hi).1
  intro x hxl e
  have hxn := hf.tiles.from_ x hxl
  have ht := (lab_tog h (p := (false, i)) (v := v) hi (false, i - 1)).1 hb
  obtain ⟨y, hyl, k1, k2⟩ := (hf.tog i (Nat.zero_le _) hin (false, i - 1) (show 0 ≤ i - 1 ∧ i - 1 < n by omega)).1 ht
  have := hf.tiles.one x hxl y hyl i (by omega) (by omega) k1.1 k1.2
  subst this
  have k2' : x.a ≤ i - 1 ∧ i - 1 < x.b := k2
  omega
end Go.Proofs.YtcbiaeeifclieaaGreatDoor
/- Cells that there are none of: Set, At, Text, Clusters, Join. -/
namespace Go.Proofs.YtcbiaeeifclieaaGreatDoor
open Go.RowKit
/-- Cells of which there is none. -/
def NoCells (w0 : World) (p : Value) : Prop := ∀ W, Below w0.heap.size w0 W → Calls Tryz.prog 41 #[p] W fun e w' => e = .returned (.agg #[.int .i64 0, .int .i64 0]) ∧ Below W.heap.size W w'
theorem NoCells.low {w0 w : World} {p : Value} (h : NoCells w0 p) (hb : Below w0.heap.size w0 w) : NoCells w p := fun W hW => h W (below_self hb hW)
theorem none_blk {w0 : World} {b : Nat} (hc : w0.cell? ⟨b, 0, none⟩ = some (.slice none 0 0)) : NoCells w0 (.pointer (some ⟨b, 0, none⟩)) := fun W hW => all_any b none 0 0 W (cell_below hW hc)
set_option maxRecDepth 100000 in
set_option maxHeartbeats 1000000 in
theorem none_nil (w0 : World) : NoCells w0 (.pointer none) := fun w _ => by
  have s1 := SpanBlk.new_ w 0 0 39
  obtain ⟨c0, c1, f0, f1⟩ := s1
  go_enter Tryz.func41, Tryz.ntmps41
  go_wp2_with fail
  refine bodyPost_ret (v := .agg #[.int .i64 0, .int .i64 0]) (results_cell_row rfl _ _ w.heap.size 39 #[.int .i64 0, .int .i64 0] (0, 0) _ rfl (heap_alloc_new w _) Tryz.underlying39 rfl (by kernel_rfl)) rfl ?_
  exact ⟨rfl, below_new w _⟩
theorem right00 : rightB ((0 : Int), (0 : Int)) = false := rfl
set_option maxRecDepth 100000 in
set_option maxHeartbeats 1000000 in
theorem set_none (p : Value) (i : Int) (A : Option Addr) (q c : Nat) (w : World) (h : NoCells w p) :
    Calls Tryz.prog 32 #[p, .int .i64 i, .slice A q c] w fun e w' => e = .returned (.int .i64 1) ∧ Below w.heap.size w w' := by
  have H := Lib.hid (h w (Below.refl _ _))
  clear h
  go_enter Tryz.func32, Tryz.ntmps32
  go_wp2_with fail
  refine H.out.mono ?_
  rintro e w1 ⟨rfl, hb1⟩
  go_wp2_with fail
  refine (prHas_any 0 0 i w1).mono ?_
  rintro e w2 ⟨rfl, hb2⟩
  rw [show hasB ((0 : Int), (0 : Int)) i = false by unfold hasB; exact decide_eq_false (by simp only; omega)]
  have hb3 := below_self hb1 hb2
  go_wp2_with fail
  go_ret
  exact ⟨rfl, hb3⟩
set_option maxRecDepth 100000 in
set_option maxHeartbeats 1000000 in
theorem text_none (p : Value) (w : World) (h : NoCells w p) :
    Calls Tryz.prog 19 #[p] w fun e w' => e = .returned (.slice none 0 0) ∧ Below w.heap.size w w' := by
  have H := Lib.hid (h w (Below.refl _ _))
  clear h
  go_enter Tryz.func19, Tryz.ntmps19
  go_wp2_with fail
  refine H.out.mono ?_
  rintro e w1 ⟨rfl, hb1⟩
  have hb2 := below_new w1 (.cells #[.int .i64 0, .int .i64 0] 39)
  have s2 := SpanBlk.new_ w1 0 0 39
  obtain ⟨p0, p1, f0, f1⟩ := s2
  have hbw := below_self hb1 hb2
  clear f0 f1 hb1 hb2
  go_wp2_with fail
  refine (prRight_any 0 0 _).mono ?_
  rintro e w3 ⟨rfl, hb3⟩
  rw [right00]
  have hb4 := below_self hbw hb3
  clear p0 p1
  go_wp2_with fail
  go_ret
  exact ⟨rfl, hb4⟩
set_option maxRecDepth 100000 in
set_option maxHeartbeats 1000000 in
theorem clusters_none (p : Value) (w : World) (h : NoCells w p) :
    Calls Tryz.prog 18 #[p] w fun e w' => e = .returned (.tuple #[.slice none 0 0, .int .i64 0]) ∧ Below w.heap.size w w' := by
  have H := Lib.hid (h w (Below.refl _ _))
  clear h
  go_enter Tryz.func18, Tryz.ntmps18
  go_wp2_with fail
  refine H.out.mono ?_
  rintro e w1 ⟨rfl, hb1⟩
  have hb2 := below_new w1 (.cells #[.int .i64 0, .int .i64 0] 39)
  have s2 := SpanBlk.new_ w1 0 0 39
  obtain ⟨p0, p1, f0, f1⟩ := s2
  have hbw := below_self hb1 hb2
  clear f0 f1 hb1 hb2
  go_wp2_with fail
  refine (prRight_any 0 0 _).mono ?_
  rintro e w3 ⟨rfl, hb3⟩
  rw [right00]
  have hb4 := below_self hbw hb3
  clear p0 p1
  go_wp2_with fail
  exact bodyPost_ret (v := .tuple #[.slice none 0 0, .int .i64 0]) (by simp [results, go_sem]) rfl ⟨rfl, hb4⟩
set_option maxRecDepth 100000 in
set_option maxHeartbeats 2000000 in
theorem join_none (p : Value) (lo hi : Int) (w : World) (h : NoCells w p) :
    Calls Tryz.prog 65 #[p, .agg #[.int .i64 lo, .int .i64 hi]] w fun e w' => e = .returned (.int .i64 1) ∧ Below w.heap.size w w' := by
  have hbn := below_new w (.cells #[.int .i64 lo, .int .i64 hi] 39)
  have s1 := SpanBlk.new_ w lo hi 39
  have h1 := h.low hbn
  obtain ⟨W1, hW1⟩ : ∃ W1, w.alloc (.cells #[.int .i64 lo, .int .i64 hi] 39) = W1 := ⟨_, rfl⟩
  rw [hW1] at hbn s1 h1
  obtain ⟨d0, d1, f0, f1⟩ := s1
  simp only at d0 d1
  obtain ⟨bs, hbs⟩ : ∃ bs, w.heap.size = bs := ⟨_, rfl⟩
  rw [hbs] at d0 d1
  have HB := Lib.hid hbn
  have HA := Lib.hid (fun W (k : Below W1.heap.size W1 W) => h1 W k)
  have hfd : ∀ w : World, (Instr.field 39 (.agg #[.int .i64 0, .int .i64 0]) 1).run Tryz.prog w = .ok (.int .i64 0) w := fun _ => by kernel_rfl
  clear h h1 hbn f0 f1
  go_enter Tryz.func65, Tryz.ntmps65
  go_upto_region 1 with fail
  try simp only [hW1, hbs]
  go_cut [16] (fun s wx => s = .bool true ∧ Below W1.heap.size W1 wx)
  case first =>
    cases hrb : rightB (lo, hi) with
    | false =>
      first
        | (go_region_law (first
            | (go_simp; go_at_call 42; refine (prRight_any lo hi _).mono ?_; rintro e' w4 ⟨rfl, hb4⟩; rw [hrb]; have hz4 : Below W1.heap.size W1 w4 := (by first | exact below_self (Below.refl _ _).drew hb4 | exact hb4); have y0 := cell_below hz4 d0; have y1 := cell_below hz4 d1)
            | fail))
        | fail
      all_goals (
        have HZ := Lib.hid hz4
        clear hz4 hb4 y0 y1
        go_wp2_with fail
        rename_i hJ
        refine Met.intro (hJ _ _ ?_)
        (repeat apply Exists.intro)
        refine ⟨?_, rfl⟩)
      all_goals exact ⟨rfl, HZ.out⟩
    | true =>
      have hpos : 0 < hi := by have := of_decide_eq_true hrb; simp only at this; omega
      go_region_held3 (fun w' => w'.cell? ⟨bs, 0, none⟩ = some (.int .i64 lo) ∧ w'.cell? ⟨bs, 1, none⟩ = some (.int .i64 hi) ∧ Below W1.heap.size W1 w')
        (first
          | exact ⟨d0, d1, Below.refl _ _⟩
          | exact ⟨d0, d1, (Below.refl _ _).drew⟩
          | exact ⟨cell_below hz4 d0, cell_below hz4 d1, hz4⟩
          | exact ⟨cell_below hz5 d0, cell_below hz5 d1, hz5⟩
          | fail)
        (first
          | (go_at_call 42; refine (prRight_any lo hi _).mono ?_; rintro e' w4 ⟨rfl, hb4⟩; rw [hrb]; have hz4 : Below W1.heap.size W1 w4 := (by first | exact below_self (Below.refl _ _).drew hb4 | exact hb4))
          | (go_at_call 41; refine (HA.out _ hz4).mono ?_; rintro e' w5 ⟨rfl, hb5⟩; have hz5 : Below W1.heap.size W1 w5 := below_self hz4 hb5)
          | fail)
      have HZ := Lib.hid hz5
      clear hz4 hb4 hz5 hb5
      go_wp2_with fail
      go_meet
      case rel => exact ⟨rfl, HZ.out⟩
  case rest =>
    obtain ⟨rfl, hb⟩ := hcut
    clear hbs hW1
    have hb2 := below_self HB.out hb
    go_wp2_with fail
    go_ret
    exact ⟨rfl, hb2⟩
end Go.Proofs.YtcbiaeeifclieaaGreatDoor
