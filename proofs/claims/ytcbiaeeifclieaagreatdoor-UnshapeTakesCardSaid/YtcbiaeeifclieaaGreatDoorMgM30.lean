/- Texts of one claim, one behind the other. -/
import Derived.RegionTactic
import Derived.Deep.RegionHeld3
import Derived.Test.YtcbiaeeifclieaaGreatDoorMgM2
import Derived.Test.YtcbiaeeifclieaaGreatDoorMgM3
import Derived.Test.YtcbiaeeifclieaaGreatDoorMgM9
import Derived.Test.YtcbiaeeifclieaaGreatDoorMgM29
/- The project's merged of spans. -/
namespace Go.Proofs.YtcbiaeeifclieaaGreatDoor
open Go.RowKit Go.Shelf

/-- append of one span within the room of a longer row of the call's own. -/
theorem wpList_appRoom {P : Program} {w : World} {ops : Array Oper} {rest : List Oper} {o : Oper} {a : Act} {Q : Exit → Act → World → Prop} (hgd : o.guard = none) (s x : Operand) (t : TypeId)
    (ho : o.op = .call { callee := .builtin .append, args := #[s, x], argTypes := #[t, t] })
    {base : Nat} {e : TypeId} {bytes : Nat} (S : SliceOf P t e 2 bytes)
    (g h n cap : Nat) (xs : List Value) (hs : a.eval s = .slice (some ⟨g, 0, none⟩) h cap) (hown : w.ownsRow base e 2 (.slice (some ⟨g, 0, none⟩) n cap) n xs) (hn : h < n) (hnc : n ≤ cap)
    (ad : Addr) (c : Nat) (u v : Value) (hx : a.eval x = .slice (some ad) 1 c) (hnews : ∀ j z, [u, v][j]? = some z → w.cell? (ad.add j) = some z) (h1 : ∀ z ∈ [u, v], z.oneCell' = true)
    (hk : wpList P ops Q rest (a.put o.dst (.slice (some ⟨g, 0, none⟩) (h + 1) cap)) ((w.setCell ⟨g, h * 2, none⟩ u).setCell ⟨g, h * 2 + 1, none⟩ v)) :
    wpList P ops Q (o :: rest) a w := by
  obtain ⟨ht, i, z, hi, hz, hs1, hb1, hzs⟩ := S
  have hrun := run_append_room_cells (P := P) w t o.type e i ht hi g 0 h cap ad 1 c [u, v] (by rw [hs1]; rfl) hnews h1 (by omega)
    (fun j hj => by
      simp at hj
      obtain ⟨⟨y, hy⟩, _⟩ := own_slot hown (j := 0 + h * i.size + j) (by rw [hs1]; omega)
      rw [hy]; rfl)
    (fun j hj => by
      simp at hj
      exact (own_slot hown (j := 0 + h * i.size + j) (by rw [hs1]; omega)).2)
  rw [hs1, Nat.zero_add] at hrun
  refine wpList_plain hgd fun K hK => ?_
  unfold Oper.wp execOp
  simp only [ho, resolve, invoke, builtin, Sem.run_bind, Sem.run_pure, Result.andThen_ok, List.map_toArray, List.map_cons, List.map_nil, hs, hx, hrun]
  exact hK _ _ hk

set_option maxRecDepth 100000 in
set_option maxHeartbeats 1000000 in
theorem deleteNoneS (f : FuncId) (lb : Array Value) (cap : Nat) (w : World) : Calls Tryz.prog 124 #[.slice none 0 cap, .func (.func f) #[] lb] w fun e w' => e = .returned (.slice none 0 cap) ∧ Below w.heap.size w w' := by
  have hi : Calls Tryz.prog 134 #[.slice none 0 cap, .func (.func f) #[] lb] w fun e w' => e = .returned (.int .i64 (-1)) ∧ w = w' := by
    go_enter Tryz.func134, Tryz.ntmps134
    go_wp2
    refine wp_loop_rounds 1 ?_
    rw [rounds_succ]
    go_wp2
    go_ret
    exact ⟨rfl, rfl⟩
  go_enter Tryz.func124, Tryz.ntmps124
  go_wp2_with fail
  refine hi.mono ?_
  rintro e w' ⟨rfl, rfl⟩
  go_wp2
  go_ret
  exact ⟨rfl, Below.refl _ _⟩
theorem sortNoneS (f : FuncId) (cap : Nat) (w : World) : Calls Tryz.prog 118 #[.slice none 0 cap, .func (.func f) #[] #[]] w fun e w' => e = .returned (.tuple #[]) ∧ w' = w :=
  AnyF.slices_SortFunc_none sortS_lays none cap _ w

set_option maxRecDepth 100000 in
theorem mergedCmp_any : CmpLoAt 127 := by
  intro x y w
  obtain ⟨a, b⟩ := x
  obtain ⟨c, d⟩ := y
  go_enter Tryz.func127, Tryz.ntmps127
  go_wp2_with (go_at_call 120; refine (cmpI_any _ _ _).mono ?_; rintro e w' ⟨rfl, rfl⟩)
  go_ret
  exact ⟨rfl, _, by rw [Sort.alloc_eq_grow, Sort.alloc_eq_grow, Sort.grow_grow]⟩
set_option maxRecDepth 100000 in
set_option maxHeartbeats 1000000 in
theorem mergedDel_any (lo hi m : Int) (b : Nat) (w : World) (hc : w.cell? ⟨b, 0, none⟩ = some (.int .i64 m)) :
    Calls Tryz.prog 126 #[.agg #[.int .i64 lo, .int .i64 hi], .pointer (some ⟨b, 0, none⟩)] w fun e w' => e = .returned (.bool (!validB m (lo, hi))) ∧ Below w.heap.size w w' := by
  have hc' := cell_below (below_new w (.cells #[.int .i64 lo, .int .i64 hi] 39)) hc
  have e1 : (w.alloc (.cells #[.int .i64 lo, .int .i64 hi] 39)).cell? ⟨w.heap.size, 1, none⟩ = some (.int .i64 hi) := by go_simp
  cases hr : rightB (lo, hi) with
  | false =>
    have HV := Lib.hid (show (!validB m (lo, hi)) = true by unfold validB; rw [hr]; rfl)
    have C := prRight_any lo hi (w.alloc (.cells #[.int .i64 lo, .int .i64 hi] 39))
    rw [hr] at C
    have HC := Lib.hid C
    clear C hr
    go_enter Tryz.func126, Tryz.ntmps126
    go_wp2_with fail
    refine HC.out.mono ?_
    rintro e w1 ⟨rfl, hb⟩
    have hb1 := below_self (below_new w _) hb
    go_wp2
    go_ret
    exact ⟨retB (by simp [HV.out]), hb1⟩
  | true =>
    have C := prRight_any lo hi (w.alloc (.cells #[.int .i64 lo, .int .i64 hi] 39))
    rw [hr] at C
    have HC := Lib.hid C
    have HR := Lib.hid hr
    clear C hr
    by_cases hm : m < hi
    · have HV := Lib.hid (show (!validB m (lo, hi)) = true by unfold validB; rw [HR.out]; simp; omega)
      go_enter Tryz.func126, Tryz.ntmps126
      go_wp2_with fail
      refine HC.out.mono ?_
      rintro e w1 ⟨rfl, hb⟩
      have hb1 := below_self (below_new w _) hb
      have f0 := cell_below hb hc'
      have f1 := cell_below hb e1
      go_wp2
      go_ret
      exact ⟨retB (by simp [HV.out]), hb1⟩
    · have HV := Lib.hid (show (!validB m (lo, hi)) = false by unfold validB; rw [HR.out]; simp; omega)
      go_enter Tryz.func126, Tryz.ntmps126
      go_wp2_with fail
      refine HC.out.mono ?_
      rintro e w1 ⟨rfl, hb⟩
      have hb1 := below_self (below_new w _) hb
      have f0 := cell_below hb hc'
      have f1 := cell_below hb e1
      go_wp2
      go_ret
      exact ⟨retB (by simp [HV.out]; try omega), hb1⟩

theorem cellsS_set1 {l : List Sp} {k : Nat} {s : Sp} (hs : l[k]? = some s) (z : Int) : (cellsS l).set (k * 2 + 1) (.int .i64 z) = cellsS (l.set k (s.1, z)) := by
  induction l generalizing k with
  | nil => simp at hs
  | cons t l ih =>
    have hc : cellsS (t :: l) = .int .i64 t.1 :: .int .i64 t.2 :: cellsS l := rfl
    cases k with
    | zero =>
      simp at hs
      subst hs
      rw [hc]; rfl
    | succ k =>
      have := ih (k := k) (by simpa using hs)
      rw [hc, show (k + 1) * 2 + 1 = k * 2 + 1 + 1 + 1 by omega, List.set_cons_succ, List.set_cons_succ, this]
      rfl
theorem last_set {a0 junk S : List Sp} {last s z : Sp} {k h : Nat} (hs : S[k]? = some s) (hh : a0.length + 1 = h) : (a0 ++ [last] ++ junk ++ S.drop k).set (h - 1) z = a0 ++ [z] ++ (junk ++ [s]) ++ S.drop (k + 1) := by
  rw [dropCons hs, show h - 1 = a0.length by omega]
  simp
/-- How far the putting together has come: k spans taken. -/
def MRel (S acc : List Sp) (k : Nat) : Prop := (k = 0 ∧ acc = []) ∨ ∃ a0 last, acc = a0 ++ [last] ∧ mergeS S = a0 ++ mergeGo last (S.drop k)
theorem MRel.done {S acc : List Sp} (h : MRel S acc S.length) : mergeS S = acc := by
  rcases h with ⟨h, rfl⟩ | ⟨a0, last, rfl, h⟩
  · rw [List.eq_nil_of_length_eq_zero h]; rfl
  · rw [h, List.drop_eq_nil_of_le (Nat.le_refl _)]; rfl
theorem MRel.first {S : List Sp} {s : Sp} (hs : S[0]? = some s) : MRel S [s] 1 := by
  cases S with
  | nil => simp at hs
  | cons t S =>
    simp at hs
    subst hs
    exact .inr ⟨[], t, rfl, rfl⟩
theorem MRel.more {S a0 : List Sp} {last s : Sp} {k : Nat} (h : mergeS S = a0 ++ mergeGo last (S.drop k)) (hs : S[k]? = some s) (hlt : s.1 < last.2) : MRel S (a0 ++ [(last.1, if last.2 < s.2 then s.2 else last.2)]) (k + 1) := by
  refine .inr ⟨a0, _, rfl, ?_⟩
  rw [h, dropCons hs, mergeGo, if_pos hlt]
theorem MRel.next {S a0 : List Sp} {last s : Sp} {k : Nat} (h : mergeS S = a0 ++ mergeGo last (S.drop k)) (hs : S[k]? = some s) (hlt : ¬ s.1 < last.2) : MRel S (a0 ++ [last] ++ [s]) (k + 1) := by
  refine .inr ⟨a0 ++ [last], s, rfl, ?_⟩
  rw [h, dropCons hs, mergeGo, if_neg hlt]
  simp
/-- The row with one more span at the end of what has been put together. -/
theorem room_set {acc junk S : List Sp} {s : Sp} {k : Nat} (hs : S[k]? = some s) (hl : acc.length + junk.length = k) : ∃ junk', (acc ++ junk ++ S.drop k).set acc.length s = acc ++ [s] ++ junk' ++ S.drop (k + 1) ∧ (acc ++ [s]).length + junk'.length = k + 1 := by
  rw [dropCons hs]
  cases junk with
  | nil => exact ⟨[], by simp, by simp at hl ⊢; omega⟩
  | cons q qs => exact ⟨qs ++ [s], by simp, by simp at hl ⊢; omega⟩

/-- What merged hands back. -/
def MergedGives (w : World) (m : Int) (l : List Sp) (e : Ending) (w' : World) : Prop :=
  ∃ l' v, List.Perm l' (l.filter (validB m)) ∧ LoSorted l' ∧ e = .returned v ∧ w'.ownsRow w.heap.size 39 2 v (mergeS l').length (cellsS (mergeS l')) ∧ (mergeS l').length ≤ l.length ∧ Below w.heap.size w w'

set_option maxRecDepth 100000 in
set_option maxHeartbeats 4000000 in
theorem prMerged_any (m : Int) (A : Option Addr) (q c : Nat) (l : List Sp) (w : World) (hr : Rd w 2 A q (cellsS l)) (hq : q ≤ 100000) :
    Calls Tryz.prog 104 #[.int .i64 m, .slice A q c] w (MergedGives w m l) := by
  have hlen : l.length = q := by have := hr.1; rw [cellsS_len] at this; omega
  have HL := Lib.hid hlen
  clear hlen
  have eg1 : ∀ args w, (callFunc 126 args).run Tryz.prog w = .ok (.enter 126 args) w := enters_of Tryz.func126 (by kernel_rfl) rfl
  have eg2 : ∀ args w, (callFunc 127 args).run Tryz.prog w = .ok (.enter 127 args) w := enters_of Tryz.func127 (by kernel_rfl) rfl
  have hbx := below_new w (.cells #[.int .i64 m] 3)
  have cm : (w.alloc (.cells #[.int .i64 m] 3)).cell? ⟨w.heap.size, 0, none⟩ = some (.int .i64 m) := by go_simp
  go_enter Tryz.func104, Tryz.ntmps104
  go_wp2_with fail
  refine (cloneS_any A q c (cellsS l) _ (hr.below hbx) (cellsS_one _) (by omega)).mono ?_
  rintro e w1 ⟨v, rfl, hown, hb1⟩
  have hb2 := below_self hbx hb1
  have cm1 := cell_below hb1 cm
  obtain ⟨V, cv, rfl, hcv⟩ := own_form hown
  have hcap : cv ≤ maxLen := by
    rcases hown.2 with ⟨e, _⟩ | ⟨g, cap, cur, e, _, _, _, hcm, _⟩
    · injection e with _ _ e; subst e; exact Nat.zero_le _
    · injection e with _ _ e; subst e; exact hcm
  rcases V with _ | av
  · obtain rfl : q = 0 := by
      rcases hown.2 with ⟨_, h⟩ | ⟨g, cap, cur, e, _⟩
      · exact h
      · cases e
    have hl0 : l = [] := List.eq_nil_of_length_eq_zero HL.out
    have HNIL := Lib.hid hl0
    have hcv0 : cv = 0 := by
      rcases hown.2 with ⟨e, _⟩ | ⟨g, cap, cur, e, _⟩
      · injection e with _ _ e
      · cases e
    subst hcv0
    have hdel := deleteNoneS 126 #[.pointer (some ⟨w.heap.size, 0, none⟩)] 0 w1
    clear hown cm cm1 hl0
    go_wp2_with fail
    refine hdel.mono ?_
    rintro e w2 ⟨rfl, hb3⟩
    have hb4 := below_self hb2 hb3
    go_wp2_with fail
    refine (sortNoneS 127 0 w2).mono ?_
    rintro e w3 ⟨rfl, rfl⟩
    go_wp2_with fail
    refine wp_loop_rounds 1 ?_
    rw [rounds_succ]
    go_wp2
    go_ret
    exact ⟨[], _, by rw [HNIL.out]; exact List.Perm.refl _, List.Pairwise.nil, rfl, World.ownsRow_nil _ _ _ _, Nat.zero_le _, hb4⟩
  · obtain ⟨g, hgv, hge, hgl⟩ : ∃ g, av = ⟨g, 0, none⟩ ∧ w.heap.size + 1 ≤ g ∧ g < w1.heap.size := by
      rcases hown.2 with ⟨e, _⟩ | ⟨g, cap, cur, e, hbg, hgg, _⟩
      · cases e
      · injection e with e _ _
        injection e with e
        exact ⟨g, e, by simpa using hbg, (Array.getElem?_eq_some_iff.1 hgg).1⟩
    subst hgv
    go_wp2_with fail
    refine (deleteFuncS_any (fun s => !validB m s) 126 #[.pointer (some ⟨w.heap.size, 0, none⟩)] eg1 _ g q cv l w1 hown (by omega) hcap (fun lo hi W hW => mergedDel_any lo hi m w.heap.size W (hW.cell cm1 (by simp; omega)))).mono ?_
    rintro e w2 ⟨p, hpq, hpl, rfl, hown2, hg2⟩
    have hb3 : Below w.heap.size w w2 := hb2.grown hg2 hb2.size (fun k hk => by injection hk with hk; omega)
    go_wp2_with fail
    refine (sortS_any 127 eg2 mergedCmp_any hown2 (by omega)).mono ?_
    rintro e w3 ⟨rfl, S, hperm, hsort, hown3, hg3⟩
    have hb4 : Below w.heap.size w w3 := hb3.grown hg3 hb3.size (fun k hk => by injection hk with hk; omega)
    have HP := Lib.hid (show List.Perm S (l.filter (validB m)) by simpa using hperm)
    have HS := Lib.hid hsort
    have hSl : S.length = p := by have := hown3.1; rw [cellsS_len] at this; omega
    have HSL := Lib.hid hSl
    have hpc : p ≤ cv := by omega
    unfold maxLen at hcap
    clear hown hown2 hg2 hg3 hperm hsort hSl hb1 hb2 hb3 hpl cm cm1 eg1 eg2 hbx
    have hlt3 : g < w3.heap.size := (hown3.lt g rfl).2
    go_wp2_with fail
    go_loopw [6, 20] (fun v i wr => ∃ (k : Nat) (acc junk : List Sp), k ≤ p ∧ i = .int .i64 k ∧ v = .slice (some ⟨g, 0, none⟩) acc.length cv ∧ acc.length + junk.length = k ∧ MRel S acc k ∧ wr.ownsRow (w.alloc (.cells #[.int .i64 m] 3)).heap.size 39 2 (.slice (some ⟨g, 0, none⟩) p cv) p (cellsS (acc ++ junk ++ S.drop k)) ∧ Below w.heap.size w wr) (fun _ i _ => p - (intOf i).toNat)
    case atStart => exact ⟨0, [], [], Nat.zero_le _, rfl, rfl, rfl, .inl ⟨rfl, rfl⟩, hown3, hb4⟩
    case round =>
      obtain ⟨k, acc, junk, hk, rfl, rfl, hsum, hrl, ho, hb⟩ := hrel
      obtain ⟨h, hh⟩ : ∃ h : Nat, acc.length = h := ⟨_, rfl⟩
      have HH := Lib.hid hh
      rw [hh] at hsum ⊢
      clear hh
      by_cases hlt : k < p
      · obtain ⟨s, hsk⟩ : ∃ s, S[k]? = some s := ⟨_, List.getElem?_eq_getElem (by rw [HSL.out]; exact hlt)⟩
        have hx : (acc ++ junk ++ S.drop k)[k]? = some s := by
          rw [List.getElem?_append_right (by rw [List.length_append, HH.out]; omega), List.length_append, HH.out, show k - (h + junk.length) = 0 by omega, List.getElem?_drop]
          exact hsk
        obtain ⟨e1, e2⟩ := cellsS_at hx
        have hc := ho.cells (g := g) rfl
        have c1 := hc _ _ e1
        have c2 := hc _ _ e2
        rw [addNew] at c1 c2
        have HSK := Lib.hid hsk
        clear hsk hx e1 e2
        obtain ⟨x, y⟩ := s
        simp only at c1 c2
        obtain ⟨hgw, hgl2⟩ := ho.lt g rfl
        have hga := hb.alloc hb.size (.cells #[.int .i64 x, .int .i64 y] 39)
        have hoa := ho.alloc (.cells #[.int .i64 x, .int .i64 y] 39)
        have d0 : (wr.alloc (.cells #[.int .i64 x, .int .i64 y] 39)).cell? ⟨wr.heap.size, 0, none⟩ = some (.int .i64 x) := by go_simp
        have d1 : (wr.alloc (.cells #[.int .i64 x, .int .i64 y] 39)).cell? ⟨wr.heap.size, 1, none⟩ = some (.int .i64 y) := by go_simp
        have HNEW := Lib.hid (cells_new ((wr.alloc (.cells #[.int .i64 x, .int .i64 y] 39)).drew) [.int .i64 x, .int .i64 y] 39)
        have HXL := Lib.hid (show h < (acc ++ junk ++ S.drop k).length by simp; rw [HSL.out, HH.out]; omega)
        have hhk : h ≤ k := by omega
        have HSUM := Lib.hid hsum
        have HRL := Lib.hid hrl
        clear hsum hrl
        by_cases h0 : h = 0
        · have HK0 := Lib.hid (show k = 0 ∧ acc = [] by
            rcases HRL.out with h | ⟨a0, last, he, _⟩
            · exact h
            · have := HH.out
              rw [he] at this
              simp at this
              omega)
          have hl1 : (h : Int) - 1 < 0 := by omega
          have hl2 : decide (0 ≤ (h : Int) - 1) = false := decide_eq_false (by omega)
          have hl3 : decide (1 ≤ (h : Int)) = false := decide_eq_false (by omega)
          have hl4 : decide (0 < h) = false := decide_eq_false (by omega)
          have hl5 : decide (1 ≤ h) = false := decide_eq_false (by omega)
          have H0 := Lib.hid h0
          clear h0
          go_wp2
          go_quiet (fail)
          have hoq : ((wr.alloc (.cells #[.int .i64 x, .int .i64 y] 39)).drewN nq).ownsRow (w.alloc (.cells #[.int .i64 m] 3)).heap.size 39 2 (.slice (some ⟨g, 0, none⟩) p cv) p (cellsS (acc ++ junk ++ S.drop k)) := hoa
          have q0 : ((wr.alloc (.cells #[.int .i64 x, .int .i64 y] 39)).drewN nq).cell? ⟨wr.heap.size, 0, none⟩ = some (.int .i64 x) := d0
          have q1 : ((wr.alloc (.cells #[.int .i64 x, .int .i64 y] 39)).drewN nq).cell? ⟨wr.heap.size, 1, none⟩ = some (.int .i64 y) := d1
          have hgq : Below w.heap.size w ((wr.alloc (.cells #[.int .i64 x, .int .i64 y] 39)).drewN nq) := below_drewN hga nq
          have hgs : g < ((wr.alloc (.cells #[.int .i64 x, .int .i64 y] 39)).drewN nq).heap.size := (hoq.lt g rfl).2
          generalize ((wr.alloc (.cells #[.int .i64 x, .int .i64 y] 39)).drewN nq) = wq at *
          clear hoa hga d0 d1 ho hb c1 c2
          have hoq2 := hoq.alloc (.cells #[.int .i64 x, .int .i64 y] 39)
          have hbq2 := hgq.alloc hgq.size (.cells #[.int .i64 x, .int .i64 y] 39)
          go_wp2_with (at_builtin; refine wpList_appRoom rfl _ _ _ rfl spanSlice g h p cv _ rfl hoq2 (by omega) hpc ⟨wq.heap.size, 0, none⟩ 1 _ _ rfl (cells_new wq [.int .i64 x, .int .i64 y] _) (oneInt2 _ _ _) ?_)
          have hs2 := own_store2 hoq (h * 2) (.int .i64 x) (.int .i64 y)
          rw [cellsS_set (s := (x, y)) HXL.out] at hs2
          obtain ⟨junk', hj1, hj2⟩ := room_set (acc := acc) (junk := junk) HSK.out (by rw [HH.out]; exact HSUM.out)
          rw [HH.out] at hj1
          rw [hj1] at hs2
          have hbe := ((hgq.setCell (p := ⟨g, h * 2, none⟩) (by simp; omega) (.int .i64 x)).setCell (p := ⟨g, h * 2 + 1, none⟩) (by simp; omega) (.int .i64 y)).alloc (by simpa [World.setCell] using hgq.size) (.cells #[.int .i64 x, .int .i64 y] 39)
          have HREL := Lib.hid (show MRel S (acc ++ [(x, y)]) (k + 1) by
            obtain ⟨rfl, rfl⟩ := HK0.out
            exact MRel.first HSK.out)
          have HJ2 := Lib.hid hj2
          clear hj1 hj2
          go_roundw
          case rel => exact ⟨k + 1, acc ++ [(x, y)], junk', by omega, by go_num, by simp; rw [HH.out], HJ2.out, HREL.out, hs2.alloc _, hbe⟩
          case measure => simp [intOf]; omega
        · obtain ⟨a0, last, hacc, hms⟩ : ∃ a0 last, acc = a0 ++ [last] ∧ mergeS S = a0 ++ mergeGo last (S.drop k) := by
            rcases HRL.out with ⟨_, h⟩ | h
            · exact absurd (by rw [← HH.out, h]; rfl) h0
            · exact h
          have HACC := Lib.hid hacc
          have HMS := Lib.hid hms
          have ha0 : a0.length + 1 = h := by rw [← HH.out, hacc]; simp
          have hlast : (acc ++ junk ++ S.drop k)[h - 1]? = some last := by
            rw [hacc, List.append_assoc, List.append_assoc, List.getElem?_append_right (by omega), show h - 1 - a0.length = 0 by omega]
            rfl
          obtain ⟨e1, e2⟩ := cellsS_at hlast
          have hc2 := ho.cells (g := g) rfl
          have l2 := hc2 _ _ e2
          rw [addNew] at l2
          have L2 := cell_below (below_new wr (.cells #[.int .i64 x, .int .i64 y] 39)) l2
          have HLAST := Lib.hid hlast
          have HA0 := Lib.hid ha0
          clear hacc hms e1 e2 hc2 hlast ha0
          obtain ⟨u, v⟩ := last
          simp only at l2 L2
          have hl1 : (0 : Int) ≤ (h : Int) - 1 := by omega
          have hl2 : decide (0 ≤ (h : Int) - 1) = true := decide_eq_true (by omega)
          have hl3 : decide (1 ≤ (h : Int)) = true := decide_eq_true (by omega)
          have hl4 : decide (0 < h) = true := decide_eq_true (by omega)
          have hl5 : decide (1 ≤ h) = true := decide_eq_true (by omega)
          have hl6 : ((h : Int) - 1).toNat = h - 1 := by omega
          have hl7 : (h : Int) - 1 < (h : Int) := by omega
          by_cases hlt2 : x < v
          · have hxv : decide (x < v) = true := decide_eq_true hlt2
            go_wp2
            go_quiet (fail)
            go_wp2
            have hoq : ((wr.alloc (.cells #[.int .i64 x, .int .i64 y] 39)).drewN nq).ownsRow (w.alloc (.cells #[.int .i64 m] 3)).heap.size 39 2 (.slice (some ⟨g, 0, none⟩) p cv) p (cellsS (acc ++ junk ++ S.drop k)) := hoa
            have q1 : ((wr.alloc (.cells #[.int .i64 x, .int .i64 y] 39)).drewN nq).cell? ⟨wr.heap.size, 1, none⟩ = some (.int .i64 y) := d1
            have q2 : ((wr.alloc (.cells #[.int .i64 x, .int .i64 y] 39)).drewN nq).cell? ⟨g, (h - 1) * 2 + 1, none⟩ = some (.int .i64 v) := L2
            have hgq : Below w.heap.size w ((wr.alloc (.cells #[.int .i64 x, .int .i64 y] 39)).drewN nq) := below_drewN hga nq
            generalize ((wr.alloc (.cells #[.int .i64 x, .int .i64 y] 39)).drewN nq) = wq at *
            have z2 := (own_slot hoq (j := (h - 1) * 2 + 1) (by omega)).2
            have HMX := Lib.hid (show (if v < y then y else v) = max v y by split <;> omega)
            have hs1 := (hoq.stored ((h - 1) * 2 + 1) (.int .i64 (max v y))).1
            have hbe := hgq.setCell (p := ⟨g, (h - 1) * 2 + 1, none⟩) (by simp; omega) (.int .i64 (max v y))
            clear hoa hga d0 d1 ho hb c1 c2 l2 L2
            have HSETX := Lib.hid (show (acc ++ junk ++ S.drop k).set (h - 1) (u, max v y) = a0 ++ [(u, max v y)] ++ (junk ++ [(x, y)]) ++ S.drop (k + 1) by rw [HACC.out]; exact last_set HSK.out HA0.out)
            have HREL := Lib.hid (show MRel S (a0 ++ [(u, max v y)]) (k + 1) by
              have := MRel.more HMS.out HSK.out hlt2
              simp only [HMX.out] at this
              exact this)
            go_region
            go_wp2
            rw [cellsS_set1 HLAST.out, HSETX.out] at hs1
            go_roundw
            case rel => exact ⟨k + 1, a0 ++ [(u, max v y)], junk ++ [(x, y)], by omega, by go_num, by simp; have := HA0.out; omega, by simp; have := HA0.out; have := HSUM.out; omega, HREL.out, hs1.drew, hbe.drew⟩
            case measure => simp [intOf]; omega
          · have hxv : decide (x < v) = false := decide_eq_false hlt2
            go_wp2
            go_quiet (fail)
            have hoq : ((wr.alloc (.cells #[.int .i64 x, .int .i64 y] 39)).drewN nq).ownsRow (w.alloc (.cells #[.int .i64 m] 3)).heap.size 39 2 (.slice (some ⟨g, 0, none⟩) p cv) p (cellsS (acc ++ junk ++ S.drop k)) := hoa
            have q0 : ((wr.alloc (.cells #[.int .i64 x, .int .i64 y] 39)).drewN nq).cell? ⟨wr.heap.size, 0, none⟩ = some (.int .i64 x) := d0
            have q1 : ((wr.alloc (.cells #[.int .i64 x, .int .i64 y] 39)).drewN nq).cell? ⟨wr.heap.size, 1, none⟩ = some (.int .i64 y) := d1
            have hgq : Below w.heap.size w ((wr.alloc (.cells #[.int .i64 x, .int .i64 y] 39)).drewN nq) := below_drewN hga nq
            have hgs : g < ((wr.alloc (.cells #[.int .i64 x, .int .i64 y] 39)).drewN nq).heap.size := (hoq.lt g rfl).2
            generalize ((wr.alloc (.cells #[.int .i64 x, .int .i64 y] 39)).drewN nq) = wq at *
            clear hoa hga d0 d1 ho hb c1 c2 l2 L2
            have hoq2 := hoq.alloc (.cells #[.int .i64 x, .int .i64 y] 39)
            have hbq2 := hgq.alloc hgq.size (.cells #[.int .i64 x, .int .i64 y] 39)
            go_wp2_with (at_builtin; refine wpList_appRoom rfl _ _ _ rfl spanSlice g h p cv _ rfl hoq2 (by omega) hpc ⟨wq.heap.size, 0, none⟩ 1 _ _ rfl (cells_new wq [.int .i64 x, .int .i64 y] _) (oneInt2 _ _ _) ?_)
            have hs2 := own_store2 hoq (h * 2) (.int .i64 x) (.int .i64 y)
            rw [cellsS_set (s := (x, y)) HXL.out] at hs2
            obtain ⟨junk', hj1, hj2⟩ := room_set (acc := acc) (junk := junk) HSK.out (by rw [HH.out]; exact HSUM.out)
            rw [HH.out] at hj1
            rw [hj1] at hs2
            have hbe := ((hgq.setCell (p := ⟨g, h * 2, none⟩) (by simp; omega) (.int .i64 x)).setCell (p := ⟨g, h * 2 + 1, none⟩) (by simp; omega) (.int .i64 y)).alloc (by simpa [World.setCell] using hgq.size) (.cells #[.int .i64 x, .int .i64 y] 39)
            have HREL := Lib.hid (show MRel S (acc ++ [(x, y)]) (k + 1) by
              rw [HACC.out]
              exact MRel.next HMS.out HSK.out (by simp only; omega))
            have HJ2 := Lib.hid hj2
            clear hj1 hj2
            go_roundw
            case rel => exact ⟨k + 1, acc ++ [(x, y)], junk', by omega, by go_num, by simp; rw [HH.out], HJ2.out, HREL.out, hs2.alloc _, hbe⟩
            case measure => simp [intOf]; omega
      · obtain rfl : k = p := by omega
        have HM := Lib.hid (show mergeS S = acc by
          have := HSL.out
          subst this
          exact hrl.done)
        have HT := Lib.hid (show (cellsS (acc ++ junk ++ S.drop k)).take (h * 2) = cellsS acc by rw [cellsS_take, List.append_assoc, List.take_append_of_le_length (by rw [HH.out]; omega), List.take_of_length_le (by rw [HH.out]; omega)])
        have hh := own_head ho (m := h) (by omega)
        rw [HT.out] at hh
        have hh2 := own_base hh (b' := w.heap.size) (by simp)
        have HRL := Lib.hid hrl
        clear hrl
        go_wp2
        go_ret
        exact ⟨S, _, HP.out, HS.out, rfl, by rw [HM.out, HH.out]; exact hh2, by rw [HM.out, HH.out, HL.out]; omega, hb⟩
end Go.Proofs.YtcbiaeeifclieaaGreatDoor
/- The project's Groups of spans. -/
namespace Go.Proofs.YtcbiaeeifclieaaGreatDoor
open Go.RowKit

set_option maxRecDepth 100000 in
set_option maxHeartbeats 4000000 in
theorem prGroups_any (m : Int) (A : Option Addr) (q c : Nat) (l : List Sp) (w : World) (hr : Rd w 2 A q (cellsS l)) (hq : q ≤ 1000) (hm : m ≤ 1000) (hm0 : -9223372036854775808 ≤ m) :
    Calls Tryz.prog 74 #[.int .i64 m, .slice A q c] w fun e w' => ∃ v, e = .returned v ∧ w'.ownsRow w.heap.size 39 2 v (groupsS m l).length (cellsS (groupsS m l)) ∧ Below w.heap.size w w' := by
  have hlen : l.length = q := by have := hr.1; rw [cellsS_len] at this; omega
  have HL := Lib.hid hlen
  clear hlen
  go_enter Tryz.func74, Tryz.ntmps74
  go_wp2_with fail
  refine (prMerged_any m A q c l w hr (by omega)).mono ?_
  rintro e w1 ⟨l', v, hp, hs, rfl, hown, hle, hb1⟩
  obtain ⟨H, hH⟩ : ∃ H, mergeS l' = H := ⟨_, rfl⟩
  rw [hH] at hown hle
  obtain ⟨V, cv, rfl, hcv⟩ := own_form hown
  have hrd := Rd.of_own hown
  have hhl : H.length ≤ 1000 := by rw [HL.out] at hle; omega
  by_cases hneg : m < 0
  · have HE := Lib.hid (show H = [] by
      have : l' = [] := by
        cases l' with
        | nil => rfl
        | cons s t =>
          have := valid_iff.1 (List.mem_filter.1 (hp.mem_iff.1 (List.mem_cons_self (a := s) (l := t)))).2
          omega
      rw [← hH, this]; rfl)
    have HG := Lib.hid (groups_neg (n := m) (l := l) (by omega))
    have HHL := Lib.hid (show H.length = 0 by rw [HE.out]; rfl)
    rw [HHL.out]
    clear hown hrd hp hs hH hcv hhl hle
    go_wp2_with fail
    refine wp_loop_rounds 1 ?_
    rw [rounds_succ]
    go_wp2
    go_ret
    exact ⟨_, rfl, by rw [HG.out]; exact World.ownsRow_nil _ _ _ _, hb1⟩
  · obtain ⟨hrise, hgeq⟩ := groups_eq (n := m) (l := l) (l' := l') (by omega) hp hs
    rw [hH] at hrise hgeq
    have HR := Lib.hid hrise
    have HG := Lib.hid hgeq
    have HFL := Lib.hid (fill_len hrise)
    clear hown hp hs hH hrise hgeq hle
    go_wp2_with fail
    go_loopw [6, 19] (fun x i wr => ∃ k : Nat, k ≤ H.length ∧ i = .int .i64 k ∧ x = .int .i64 (m - overS (H.take k)) ∧ Below w.heap.size w wr ∧ Below w1.heap.size w1 wr) (fun _ i _ => H.length - (intOf i).toNat)
    case atStart => exact ⟨0, Nat.zero_le _, rfl, by simp [overS], hb1, Below.refl _ _⟩
    case round =>
      obtain ⟨k, hk, rfl, rfl, hb, hbx⟩ := hrel
      have ho := over_le HR.out k
      obtain ⟨o1, o2⟩ := ho
      by_cases hlt : k < H.length
      · obtain ⟨s, hsk⟩ : ∃ s, H[k]? = some s := ⟨_, List.getElem?_eq_getElem hlt⟩
        obtain ⟨ad, rfl, hab, c1, c2⟩ := (hrd.below hbx).span hsk
        obtain ⟨s1, s2, s3⟩ := HR.out.mem s (List.mem_of_getElem? hsk)
        have ho2 := over_le HR.out (k + 1)
        have hov : overS (H.take (k + 1)) = overS (H.take k) + (s.2 - s.1 - 1) := by rw [List.take_add_one, hsk]; simp [overS]
        rw [hov] at ho2
        obtain ⟨o3, o4⟩ := ho2
        have HOV := Lib.hid hov
        clear hsk hov
        obtain ⟨x, y⟩ := s
        simp only at c1 c2 s1 s2 s3 o3 o4
        have HSZ := Lib.hid (show sizeS (x, y) = y - x from if_pos (by simp [rightB]; omega))
        have d0 : (wr.alloc (.cells #[.int .i64 x, .int .i64 y] 39)).cell? ⟨wr.heap.size, 0, none⟩ = some (.int .i64 x) := by go_simp
        have d1 : (wr.alloc (.cells #[.int .i64 x, .int .i64 y] 39)).cell? ⟨wr.heap.size, 1, none⟩ = some (.int .i64 y) := by go_simp
        have hba := hb.alloc hb.size (.cells #[.int .i64 x, .int .i64 y] 39)
        have hbxa := hbx.alloc hbx.size (.cells #[.int .i64 x, .int .i64 y] 39)
        go_wp2_with fail
        refine (prSizeS_any x y _ (by unfold Fit; omega)).mono ?_
        rintro e w2 ⟨rfl, hb2⟩
        rw [HSZ.out]
        have hb3 := hba.trans (hb2.mono hba.size)
        have hbx3 := hbxa.trans (hb2.mono hbxa.size)
        obtain ⟨t, ht⟩ : ∃ t, overS (H.take k) = t := ⟨_, rfl⟩
        rw [ht] at o1 o2 o3 o4 ⊢
        have HT := Lib.hid ht
        clear ht
        go_wp2
        go_roundw
        case rel => exact ⟨k + 1, by omega, by go_num, by rw [HOV.out, HT.out]; go_num, hb3, hbx3⟩
        case measure => simp [intOf]; omega
      · obtain rfl : k = H.length := by omega
        rw [List.take_length] at o1 o2 ⊢
        have hcnt : (m - overS H) = ((fillG m 0 H).length : Int) := by rw [HFL.out]; omega
        have HCNT := Lib.hid hcnt
        obtain ⟨cn, hcn⟩ : ∃ cn, (fillG m 0 H).length = cn := ⟨_, rfl⟩
        rw [hcn] at hcnt
        have hcn1 : cn ≤ 1000 := by omega
        have HCN := Lib.hid hcn
        rw [hcnt]
        clear hcnt hcn o1 o2
        obtain ⟨wo, rfl⟩ : ∃ wo : World, wo = wr := ⟨_, rfl⟩
        go_wp2_with (at_make; refine wpList_mk rfl _ _ _ rfl spanSlice (base := wo.heap.size) _ cn rfl rfl rfl (by omega) (by unfold maxLen; omega) (Nat.le_refl _) ?_; intro v0 w3 hown0 hg0)
        have hb3 := below_make hg0
        have hbw : Below wo.heap.size wo w3 := hb3
        have hrd0 := hrd.below hbx
        clear hbx
        have hb5 := hb.trans (hb3.mono hb.size)
        clear hrd hg0 hb3
        go_loopw [9, 10, 39] (fun v z i wx => ∃ (k : Nat) (e : Int) (acc : List Sp), k ≤ H.length ∧ i = .int .i64 k ∧ z = .int .i64 e ∧ 0 ≤ e ∧ RiseIn e m (H.drop k) ∧ fillG m 0 H = acc ++ fillG m e (H.drop k) ∧ wx.ownsRow wo.heap.size 39 2 v acc.length (cellsS acc) ∧ Below wo.heap.size wo wx) (fun _ _ i _ => H.length - (intOf i).toNat)
        case atStart => exact ⟨0, 0, [], Nat.zero_le _, rfl, rfl, Int.le_refl _, HR.out, rfl, hown0, hbw⟩
        case round =>
          obtain ⟨k, e, acc, hk, rfl, rfl, he0, hri, hfi, hoz, hbz⟩ := hrel
          have hal : acc.length ≤ cn := by
            rw [← HCN.out, hfi, List.length_append]
            exact Nat.le_add_right _ _
          obtain ⟨a, ha⟩ : ∃ a, acc.length = a := ⟨_, rfl⟩
          rw [ha] at hoz hal
          have HA := Lib.hid ha
          clear ha
          by_cases hlt : k < H.length
          · obtain ⟨s, hsk⟩ : ∃ s, H[k]? = some s := ⟨_, List.getElem?_eq_getElem hlt⟩
            obtain ⟨ad, rfl, hab, c1, c2⟩ := (hrd0.below hbz).span hsk
            have hdr := dropCons hsk
            rw [hdr] at hri hfi
            obtain ⟨x, y⟩ := s
            obtain ⟨r1, r2, r3⟩ := hri
            simp only at r1 r2 r3 c1 c2
            have hym := r3.le
            have HRI := Lib.hid r3
            have HFI := Lib.hid (show fillG m 0 H = (acc ++ singles (x - e).toNat e ++ [(x, y)]) ++ fillG m y (H.drop (k + 1)) by rw [hfi]; simp [fillG])
            clear hsk hdr hfi r3
            have hza := hbz.alloc hbz.size (.cells #[.int .i64 x, .int .i64 y] 39)
            have hoa := hoz.alloc (.cells #[.int .i64 x, .int .i64 y] 39)
            have d0 : (wr.alloc (.cells #[.int .i64 x, .int .i64 y] 39)).cell? ⟨wr.heap.size, 0, none⟩ = some (.int .i64 x) := by go_simp
            have d1 : (wr.alloc (.cells #[.int .i64 x, .int .i64 y] 39)).cell? ⟨wr.heap.size, 1, none⟩ = some (.int .i64 y) := by go_simp
            have hnb : u9.ownBlock ≠ some wr.heap.size := fun h => by have := (hoz.lt _ h).2; omega
            have hzs := hbz.size
            have HKB := Lib.hid (show ∀ w', (wr.alloc (.cells #[.int .i64 x, .int .i64 y] 39)).grownBy w' u9.ownBlock → w'.cell? ⟨wr.heap.size, 0, none⟩ = some (.int .i64 x) ∧ w'.cell? ⟨wr.heap.size, 1, none⟩ = some (.int .i64 y) from
              fun w' h => ⟨h.cell d0 (fun e => hnb e.symm), h.cell d1 (fun e => hnb e.symm)⟩)
            have hbase : wo.heap.size ≤ (wr.alloc (.cells #[.int .i64 x, .int .i64 y] 39)).heap.size := hza.size
            have hbase2 : wo.heap.size ≤ ((wr.alloc (.cells #[.int .i64 x, .int .i64 y] 39)).alloc (.cells #[.int .i64 x, .int .i64 y] 39)).heap.size := by simp; omega
            have hoaD := (show ((wr.alloc (.cells #[.int .i64 x, .int .i64 y] 39)).drew).ownsRow wo.heap.size 39 2 u9 a (cellsS acc) from hoa)
            have hoaE := (show (((wr.alloc (.cells #[.int .i64 x, .int .i64 y] 39)).alloc (.cells #[.int .i64 x, .int .i64 y] 39)).drew).ownsRow wo.heap.size 39 2 u9 a (cellsS acc) from hoa.alloc (.cells #[.int .i64 x, .int .i64 y] 39))
            have hbaseD : wo.heap.size ≤ ((wr.alloc (.cells #[.int .i64 x, .int .i64 y] 39)).drew).heap.size := hbase
            have hbaseE : wo.heap.size ≤ (((wr.alloc (.cells #[.int .i64 x, .int .i64 y] 39)).alloc (.cells #[.int .i64 x, .int .i64 y] 39)).drew).heap.size := hbase2
            have HA2 := Lib.hid (show ((wr.alloc (.cells #[.int .i64 x, .int .i64 y] 39)).alloc (.cells #[.int .i64 x, .int .i64 y] 39)).heap[wr.heap.size + 1]? = some (.cells #[.int .i64 x, .int .i64 y] 39) by have := heap_alloc_new (wr.alloc (.cells #[.int .i64 x, .int .i64 y] 39)) (.cells #[.int .i64 x, .int .i64 y] 39); simpa using this)
            have hnb2 : u9.ownBlock ≠ some (wr.heap.size + 1) := fun h => by have := (hoz.lt _ h).2; omega
            have hle12 : (wr.alloc (.cells #[.int .i64 x, .int .i64 y] 39)).heap.size ≤ (((wr.alloc (.cells #[.int .i64 x, .int .i64 y] 39)).alloc (.cells #[.int .i64 x, .int .i64 y] 39)).drew).heap.size := (below_new (wr.alloc (.cells #[.int .i64 x, .int .i64 y] 39)) (.cells #[.int .i64 x, .int .i64 y] 39)).size
            have hcx : x - e ≤ 1000 := by omega
            have hlen1 : acc.length + (x - e).toNat + 1 ≤ 3000 := by rw [HA.out]; omega
            go_wp2
            clear d0 d1 c1 c2
            go_region_held3 (fun w' => w'.cell? ⟨wr.heap.size, 0, none⟩ = some (.int .i64 x) ∧ w'.cell? ⟨wr.heap.size, 1, none⟩ = some (.int .i64 y))
              (first
                | exact HKB.out _ (World.grownBy.refl _ _)
                | exact HKB.out _ (grown_of_below' _ (Below.refl _ _).drew)
                | exact HKB.out _ (grown_of_below' _ (below_new _ (.cells #[.int .i64 x, .int .i64 y] 39)).drew)
                | exact HKB.out _ hgA
                | exact HKB.out _ (grown_step hgA (World.grownBy_alloc _ (.cells #[.int .i64 x, .int .i64 y] 39) none) (.inr (fun k h => by cases h)))
                | exact HKB.out _ hgB
                | fail)
              (first
                | (refine step_appR rfl _ _ _ rfl spanSlice (by decide) v1 (a + (x - e).toNat) _ rfl hown1b _ 1 1 [.int .i64 x, .int .i64 y] rfl hn2.out (oneInt2 _ _ _) (by omega) (by unfold maxLen; omega) hbs1 _ rfl ?_; intro v2 w2 hown2 hgr2 hat2; have hgB := grown_step hgAb hgr2 hob1)
                | (go_at_call 106; (with_reducible refine (prSingles_any wo.heap.size a u9 acc e x ((wr.alloc (.cells #[.int .i64 x, .int .i64 y] 39)).drew) hoaD he0 (by omega) (by omega) hbaseD).mono ?_); rintro e' w1' ⟨v1, rfl, hown1, hgr1, hob1⟩; have hgA : (wr.alloc (.cells #[.int .i64 x, .int .i64 y] 39)).grownBy w1' u9.ownBlock := ⟨hgr1.os, hgr1.tape, hgr1.output, hgr1.size, hgr1.block⟩; have hown1b := hown1.alloc (.cells #[.int .i64 x, .int .i64 y] 39); have hn2 := Lib.hid (rd_blk (m := 1) (cs := [.int .i64 x, .int .i64 y]) 2 (heap_alloc_new w1' (.cells #[.int .i64 x, .int .i64 y] 39)) rfl); have hbs1 : wo.heap.size ≤ (w1'.alloc (.cells #[.int .i64 x, .int .i64 y] 39)).heap.size := (Nat.le_trans (Nat.le_trans hbase hgA.size) (by simp)); have hgAb := grown_step hgA (World.grownBy_alloc w1' (.cells #[.int .i64 x, .int .i64 y] 39) none) (.inr (fun k h => by cases h)))
                | (go_at_call 106; (with_reducible refine (prSingles_any wo.heap.size a u9 acc e x (((wr.alloc (.cells #[.int .i64 x, .int .i64 y] 39)).alloc (.cells #[.int .i64 x, .int .i64 y] 39)).drew) hoaE he0 (by omega) (by omega) hbaseE).mono ?_); rintro e' w1' ⟨v1, rfl, hown1, hgr1, hob1⟩; have hgA : (wr.alloc (.cells #[.int .i64 x, .int .i64 y] 39)).grownBy w1' u9.ownBlock := grown_step (grown_of_below' u9.ownBlock (below_new (wr.alloc (.cells #[.int .i64 x, .int .i64 y] 39)) (.cells #[.int .i64 x, .int .i64 y] 39))) (⟨hgr1.os, hgr1.tape, hgr1.output, hgr1.size, hgr1.block⟩ : ((wr.alloc (.cells #[.int .i64 x, .int .i64 y] 39)).alloc (.cells #[.int .i64 x, .int .i64 y] 39)).grownBy w1' u9.ownBlock) (.inl rfl); have hown1b := hown1; have hn2 := Lib.hid (rd_blk (m := 1) (cs := [.int .i64 x, .int .i64 y]) 2 (blk_grown (w := ((wr.alloc (.cells #[.int .i64 x, .int .i64 y] 39)).alloc (.cells #[.int .i64 x, .int .i64 y] 39)).drew) HA2.out hgr1 hnb2) rfl); have hbs1 : wo.heap.size ≤ w1'.heap.size := Nat.le_trans hbase hgA.size; have hgAb := hgA; have hob1 : v1.ownBlock = u9.ownBlock ∨ ∀ b, v1.ownBlock = some b → (wr.alloc (.cells #[.int .i64 x, .int .i64 y] 39)).heap.size ≤ b := hob1.imp id (fun h k hk => Nat.le_trans hle12 (h k hk)))
                | fail)
            all_goals
              have hfin := Lib.hid (show w2.ownsRow wo.heap.size 39 2 v2 (acc ++ singles (x - e).toNat e ++ [(x, y)]).length (cellsS (acc ++ singles (x - e).toNat e ++ [(x, y)])) by
                have hn : (acc ++ singles (x - e).toNat e ++ [(x, y)]).length = a + (x - e).toNat + 1 := by rw [List.length_append, List.length_append, singles_len, HA.out]; rfl
                have hc : cellsS (acc ++ singles (x - e).toNat e ++ [(x, y)]) = cellsS (acc ++ singles (x - e).toNat e) ++ [.int .i64 x, .int .i64 y] := by simp [cellsS, encS]
                rw [hn, hc]; exact hown2)
              have hbf := hza.grown hgB hbase (fun k h => (hoz.lt k h).1)
              obtain ⟨f0, f1⟩ := HKB.out _ hgB
              have hy0 : 0 ≤ y := by omega
              clear hat2 hown2
              go_wp2
              go_roundw
              case rel => exact ⟨k + 1, y, _, by omega, by go_num, rfl, hy0, HRI.out, HFI.out, hfin.out, hbf⟩
              case measure => simp [intOf]; omega
          · obtain rfl : k = H.length := by omega
            have hd : H.drop H.length = [] := List.drop_eq_nil_of_le (Nat.le_refl _)
            rw [hd] at hri hfi
            have hem : e ≤ m := hri
            have HFI := Lib.hid (show groupsS m l = acc ++ singles (m - e).toNat e by rw [HG.out, hfi]; rfl)
            have hbzs := hbz.size
            clear hri hfi hd
            go_wp2_with fail
            refine (prSingles_any wo.heap.size a u9 acc e m wr hoz he0 (by omega) (by omega) hbzs).mono ?_
            rintro e' w4 ⟨v4, rfl, hown4, hgr4, hob4⟩
            have hbf := hbz.grown hgr4 hbzs (fun k h => (hoz.lt k h).1)
            have hbw4 := hb.trans (hbf.mono hb.size)
            have HO4 := Lib.hid (own_base hown4 hb.size)
            clear hob4
            go_wp2
            go_ret
            exact ⟨_, rfl, by rw [HFI.out, List.length_append, singles_len, HA.out]; exact HO4.out, hbw4⟩
end Go.Proofs.YtcbiaeeifclieaaGreatDoor
