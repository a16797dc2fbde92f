/- Texts of one claim, one behind the other. -/
import Derived.BigRegion
import Derived.BigQuiet
import Derived.Laws.MakeOwn
import Derived.Test.YtmgoakfnmgngoaaMgSm1
/- cmp.Compare at int. -/
namespace Go.Proofs.Ytmgoakfnmgngoaa
open Go.RowKit

def cmpI (x y : Int) : Int := if x < y then -1 else if y < x then 1 else 0
set_option maxHeartbeats 1000000 in
theorem nanI_any (x : Int) (w : World) : Calls Try.prog 87 #[.int .i64 x] w fun e w' => e = .returned (.bool false) ∧ w = w' := by
  have h : (x != x) = false := by simp
  go_enter Try.func87, Try.ntmps87
  go_wp2
  go_ret
  exact ⟨by simp, rfl⟩
set_option maxHeartbeats 1000000 in
theorem cmpI_any (x y : Int) (w : World) : Calls Try.prog 62 #[.int .i64 x, .int .i64 y] w fun e w' => e = .returned (.int .i64 (cmpI x y)) ∧ w = w' := by
  have hc : x < y ∨ (¬ x < y ∧ y < x) ∨ (¬ x < y ∧ ¬ y < x) := by omega
  rcases hc with h | ⟨h, h'⟩ | ⟨h, h'⟩
  · have HE := Lib.hid (show cmpI x y = -1 from if_pos h)
    go_enter Try.func62, Try.ntmps62
    go_wp2_with (go_at_call 87; refine (nanI_any _ _).mono ?_; rintro e w' ⟨rfl, rfl⟩)
    go_ret
    exact ⟨retI HE.out.symm, rfl⟩
  · have HE := Lib.hid (show cmpI x y = 1 by unfold cmpI; rw [if_neg h, if_pos h'])
    go_enter Try.func62, Try.ntmps62
    go_wp2_with (go_at_call 87; refine (nanI_any _ _).mono ?_; rintro e w' ⟨rfl, rfl⟩)
    go_ret
    exact ⟨retI HE.out.symm, rfl⟩
  · have HE := Lib.hid (show cmpI x y = 0 by unfold cmpI; rw [if_neg h, if_neg h'])
    go_enter Try.func62, Try.ntmps62
    go_wp2_with (go_at_call 87; refine (nanI_any _ _).mono ?_; rintro e w' ⟨rfl, rfl⟩)
    go_ret
    exact ⟨retI HE.out.symm, rfl⟩
end Go.Proofs.Ytmgoakfnmgngoaa
/- Whether spans are parts, as plain mathematics. -/
namespace Go.Proofs.Ytmgoakfnmgngoaa
open Go.RowKit
/-- Whether spans are parts from 'end_' on to n. -/
def partsFrom : Int → List Sp → Int → Bool
  | e, [], n => e == n
  | e, s :: l, n => rightB s && (s.1 == e) && partsFrom s.2 l n
def partsS (l : List Sp) (n : Int) : Bool := partsFrom 0 l n
theorem partsFrom_no {e n : Int} {l : List Sp} {s : Sp} (h : rightB s = false ∨ (s.1 == e) = false) : partsFrom e (s :: l) n = false := by
  unfold partsFrom
  rcases h with h | h <;> simp [h]
theorem partsFrom_yes {e n : Int} {l : List Sp} {s : Sp} (h : rightB s = true) (h' : (s.1 == e) = true) : partsFrom e (s :: l) n = partsFrom s.2 l n := by
  show (rightB s && (s.1 == e) && partsFrom s.2 l n) = _
  rw [h, h']; rfl
theorem dropCons {α : Type} {l : List α} {k : Nat} {x : α} (h : l[k]? = some x) : l.drop k = x :: l.drop (k + 1) := by
  obtain ⟨hk, rfl⟩ := List.getElem?_eq_some_iff.1 h
  exact List.drop_eq_getElem_cons hk
end Go.Proofs.Ytmgoakfnmgngoaa
/- Spans put in order by their Lo, as plain mathematics: put in one by one; which order does not matter where they are parts. -/
namespace Go.Proofs.Ytmgoakfnmgngoaa

def LoSorted (l : List Sp) : Prop := l.Pairwise fun a b => a.1 ≤ b.1
def insLo (acc : List Sp) (s : Sp) : List Sp := acc.takeWhile (fun t => decide (t.1 ≤ s.1)) ++ s :: acc.dropWhile (fun t => decide (t.1 ≤ s.1))
def sortR (l : List Sp) : List Sp := l.foldl insLo []
theorem insLo_at {acc : List Sp} {s : Sp} {j : Nat} (h1 : ∀ t ∈ acc.take j, t.1 ≤ s.1) (h2 : j = acc.length ∨ ∃ t, acc[j]? = some t ∧ ¬ t.1 ≤ s.1) : insLo acc s = acc.take j ++ s :: acc.drop j := by
  induction acc generalizing j with
  | nil => simp [insLo]
  | cons a acc ih =>
    cases j with
    | zero =>
      rcases h2 with h2 | ⟨t, ht, hn⟩
      · simp at h2
      · simp at ht
        subst ht
        have hd : decide (a.1 ≤ s.1) = false := decide_eq_false hn
        simp [insLo, List.takeWhile, List.dropWhile, hd]
    | succ j =>
      have ha := h1 a (by simp)
      have hd : decide (a.1 ≤ s.1) = true := decide_eq_true ha
      have := ih (j := j) (fun t ht => h1 t (by simp [ht])) (by
        rcases h2 with h2 | ⟨t, ht, hn⟩
        · exact .inl (by simpa using h2)
        · exact .inr ⟨t, by simpa using ht, hn⟩)
      unfold insLo at this ⊢
      simp only [List.takeWhile, List.dropWhile, hd, List.take_succ_cons, List.drop_succ_cons, List.cons_append]
      rw [this]
theorem insLo_len (acc : List Sp) (s : Sp) : (insLo acc s).length = acc.length + 1 := by
  have := congrArg List.length (List.takeWhile_append_dropWhile (p := fun t : Sp => decide (t.1 ≤ s.1)) (l := acc))
  rw [List.length_append] at this
  unfold insLo
  rw [List.length_append, List.length_cons]
  omega
theorem insLo_perm (acc : List Sp) (s : Sp) : (insLo acc s).Perm (s :: acc) := by
  unfold insLo
  refine List.perm_middle.trans ?_
  rw [List.takeWhile_append_dropWhile]
theorem insLo_sorted {acc : List Sp} (s : Sp) (h : LoSorted acc) : LoSorted (insLo acc s) := by
  unfold LoSorted at *
  induction acc with
  | nil => simp [insLo]
  | cons a acc ih =>
    rw [List.pairwise_cons] at h
    by_cases ha : a.1 ≤ s.1
    · have hd : decide (a.1 ≤ s.1) = true := decide_eq_true ha
      have e : insLo (a :: acc) s = a :: insLo acc s := by simp [insLo, List.takeWhile, List.dropWhile, hd]
      rw [e, List.pairwise_cons]
      refine ⟨fun b hb => ?_, ih h.2⟩
      have := (insLo_perm acc s).mem_iff.1 hb
      simp at this
      rcases this with rfl | hb'
      · exact ha
      · exact h.1 b hb'
    · have hd : decide (a.1 ≤ s.1) = false := decide_eq_false ha
      have e : insLo (a :: acc) s = s :: a :: acc := by simp [insLo, List.takeWhile, List.dropWhile, hd]
      rw [e, List.pairwise_cons, List.pairwise_cons]
      refine ⟨fun b hb => ?_, h.1, h.2⟩
      simp at hb
      rcases hb with rfl | hb'
      · omega
      · have := h.1 b hb'
        omega
theorem sortR_snoc (l : List Sp) (s : Sp) : sortR (l ++ [s]) = insLo (sortR l) s := by simp [sortR]
theorem sortR_len (l : List Sp) : (sortR l).length = l.length := by
  rw [← List.reverse_reverse l]
  induction l.reverse with
  | nil => rfl
  | cons a t ih => rw [List.reverse_cons, sortR_snoc, insLo_len, ih]; simp
theorem foldIns_perm (l : List Sp) : ∀ acc, (l.foldl insLo acc).Perm (l ++ acc) := by
  induction l with
  | nil => intro acc; exact List.Perm.refl _
  | cons s l ih =>
    intro acc
    refine (ih (insLo acc s)).trans ?_
    refine (List.Perm.append_left l (insLo_perm acc s)).trans ?_
    exact List.perm_middle
theorem sortR_perm (l : List Sp) : (sortR l).Perm l := by
  have := foldIns_perm l []
  rwa [List.append_nil] at this
theorem foldIns_sorted (l : List Sp) : ∀ acc, LoSorted acc → LoSorted (l.foldl insLo acc) := by
  induction l with
  | nil => intro acc h; exact h
  | cons s l ih => intro acc h; exact ih _ (insLo_sorted s h)
theorem sortR_sorted (l : List Sp) : LoSorted (sortR l) := foldIns_sorted l [] List.Pairwise.nil

theorem parts_rise {e n : Int} {l : List Sp} (h : partsFrom e l n = true) : (∀ s ∈ l, e ≤ s.1) ∧ l.Pairwise fun a b => a.1 < b.1 := by
  induction l generalizing e with
  | nil => simp
  | cons s l ih =>
    cases hr : rightB s with
    | false => rw [partsFrom_no (.inl hr)] at h; cases h
    | true =>
      cases he : (s.1 == e) with
      | false => rw [partsFrom_no (.inr he)] at h; cases h
      | true =>
        rw [partsFrom_yes hr he] at h
        have hs := of_decide_eq_true hr
        have he' : s.1 = e := by simpa using he
        obtain ⟨h1, h2⟩ := ih h
        refine ⟨fun t ht => ?_, List.pairwise_cons.2 ⟨fun t ht => ?_, h2⟩⟩
        · simp at ht
          rcases ht with rfl | ht
          · omega
          · have := h1 t ht
            omega
        · have := h1 t ht
          omega
theorem perm_sorted_eq {l l' : List Sp} (hp : l'.Perm l) (h : l.Pairwise fun a b => a.1 < b.1) (h' : LoSorted l') : l' = l := by
  induction l generalizing l' with
  | nil => exact List.Perm.eq_nil hp
  | cons a l ih =>
    cases l' with
    | nil => exact absurd hp.length_eq (by simp)
    | cons b l' =>
      rw [List.pairwise_cons] at h
      unfold LoSorted at h'
      rw [List.pairwise_cons] at h'
      have hb : b ∈ a :: l := hp.mem_iff.1 (by simp)
      have ha : a ∈ b :: l' := hp.mem_iff.2 (by simp)
      have hab : b = a := by
        simp at hb ha
        rcases hb with rfl | hb
        · rfl
        · rcases ha with rfl | ha
          · rfl
          · have := h.1 b hb
            have := h'.1 a ha
            omega
      subst hab
      rw [ih (List.Perm.cons_inv hp) h.2 h'.2]
theorem parts_perm {l l' : List Sp} (hp : l'.Perm l) (h : LoSorted l) (h' : LoSorted l') (m : Int) : partsS l' m = partsS l m := by
  cases h1 : partsS l m with
  | true => rw [perm_sorted_eq hp (parts_rise h1).2 h', h1]
  | false =>
    cases h2 : partsS l' m with
    | false => rfl
    | true =>
      rw [perm_sorted_eq hp.symm (parts_rise h2).2 h, h2] at h1
      cases h1
/-- Whether clusters are a map. -/
def checkC (l : List (Sp × Sp)) (n m : Int) : Bool := partsS (l.map Prod.fst) n && partsS (sortR (l.map Prod.snd)) m
end Go.Proofs.Ytmgoakfnmgngoaa
/- prRight_any. -/
namespace Go.Proofs.Ytmgoakfnmgngoaa
open Go.RowKit

theorem prRight_any (lo hi : Int) (w : World) :
    Calls Try.prog 69 #[.agg #[.int .i64 lo, .int .i64 hi]] w fun e w' => e = .returned (.bool (rightB (lo, hi))) ∧ Below w.heap.size w w' := by
  have hc : lo < 0 ∨ (0 ≤ lo ∧ lo < hi) ∨ (0 ≤ lo ∧ hi ≤ lo) := by omega
  rcases hc with h | ⟨h, h'⟩ | ⟨h, h'⟩ <;>
    (go_enter Try.func69, Try.ntmps69
     go_wp2
     go_ret
     refine ⟨retB ?_, below_new _ _⟩
     simp [rightB]
     try omega)

end Go.Proofs.Ytmgoakfnmgngoaa
/- The project's Parts of spans. -/
namespace Go.Proofs.Ytmgoakfnmgngoaa
open Go.RowKit

set_option maxRecDepth 100000 in
set_option maxHeartbeats 1000000 in
theorem prParts_any (A : Option Addr) (n c : Nat) (l : List Sp) (m : Int) (w : World) (hr : Rd w 2 A n (cellsS l)) (hn : n ≤ maxLen) :
    Calls Try.prog 42 #[.slice A n c, .int .i64 m] w fun e w' => e = .returned (.bool (partsS l m)) ∧ Below w.heap.size w w' := by
  have hlen : l.length = n := by have := hr.1; rw [cellsS_len] at this; omega
  have HL := Lib.hid hlen
  clear hlen
  unfold maxLen at hn
  go_enter Try.func42, Try.ntmps42
  go_wp2
  go_loopw [5, 10] (fun e i wr => ∃ (k : Nat) (x : Int), k ≤ n ∧ i = .int .i64 k ∧ e = .int .i64 x ∧ partsS l m = partsFrom x (l.drop k) m ∧ Below w.heap.size w wr) (fun _ i _ => n - (intOf i).toNat)
  case atStart => exact ⟨0, 0, Nat.zero_le _, rfl, rfl, rfl, Below.refl _ _⟩
  case round =>
    obtain ⟨k, x, hk, rfl, rfl, hp, hb⟩ := hrel
    have HP := Lib.hid hp
    clear hp
    by_cases hlt : k < n
    · obtain ⟨s, hsk⟩ : ∃ s, l[k]? = some s := ⟨_, List.getElem?_eq_getElem (by rw [HL.out]; exact hlt)⟩
      obtain ⟨ad, rfl, hab, c1, c2⟩ := (hr.below hb).span hsk
      have HD := Lib.hid (dropCons hsk)
      clear hsk
      obtain ⟨lo, hi⟩ := s
      simp only at c1 c2
      go_wp2_with fail
      refine (prRight_any lo hi _).mono ?_
      rintro e w1 ⟨rfl, hb1⟩
      have hb2 := hb.trans ((below_self (below_new wr _) hb1).mono hb.size)
      have d1 : w1.cell? ⟨wr.heap.size, 0, none⟩ = some (.int .i64 lo) := cell_below hb1 (by rw [World.cell?_alloc_at _ _ _ _ rfl]; rfl)
      have d2 : w1.cell? ⟨wr.heap.size, 1, none⟩ = some (.int .i64 hi) := cell_below hb1 (by rw [World.cell?_alloc_at _ _ _ _ rfl]; rfl)
      clear hb1 c1 c2
      cases hr1 : rightB (lo, hi) with
      | false =>
        have HF := Lib.hid (show partsS l m = false by rw [HP.out, HD.out]; exact partsFrom_no (.inl hr1))
        go_wp2
        go_ret
        exact ⟨retB (by simp [HF.out]), hb2⟩
      | true =>
        cases he : (lo == x) with
        | false =>
          have hne : (lo != x) = true := by simpa using he
          have HF := Lib.hid (show partsS l m = false by rw [HP.out, HD.out]; exact partsFrom_no (.inr he))
          go_wp2
          go_ret
          exact ⟨retB (by simp [HF.out]), hb2⟩
        | true =>
          have hne : (lo != x) = false := by simpa using he
          have HF := Lib.hid (show partsS l m = partsFrom hi (l.drop (k + 1)) m by rw [HP.out, HD.out]; exact partsFrom_yes hr1 he)
          go_wp2
          go_roundw
          case rel => exact ⟨k + 1, hi, by omega, by go_num, rfl, HF.out, hb2⟩
          case measure => simp [intOf]; omega
    · have HF := Lib.hid (show partsS l m = (x == m) by rw [HP.out, List.drop_eq_nil_of_le (by rw [HL.out]; omega)]; rfl)
      go_wp2
      go_ret
      exact ⟨retB (by simp [HF.out]), hb⟩
end Go.Proofs.Ytmgoakfnmgngoaa
/- The reference's least and same, on a row of numbers of the caller's own. -/
namespace Go.Proofs.Ytmgoakfnmgngoaa
open Go.RowKit

/-- All from lo on, below k, is v. -/
def setTo (xs : List Int) (lo k : Nat) (v : Int) : List Int := xs.take lo ++ List.replicate (k - lo) v ++ xs.drop k
theorem setTo_len {xs : List Int} {lo k : Nat} (v : Int) (h : lo ≤ k) (hk : k ≤ xs.length) : (setTo xs lo k v).length = xs.length := by
  simp [setTo]; omega
theorem setTo_start (xs : List Int) (lo : Nat) (v : Int) : setTo xs lo lo v = xs := by simp [setTo]
theorem setTo_at {xs : List Int} {lo k : Nat} {x : Int} (v : Int) (h : lo ≤ k) (hx : xs[k]? = some x) : (setTo xs lo k v)[k]? = some x := by
  have hk := (List.getElem?_eq_some_iff.1 hx).1
  have hl : (xs.take lo ++ List.replicate (k - lo) v).length = k := by simp; omega
  unfold setTo
  rw [List.getElem?_append_right (by omega), hl, List.getElem?_drop]
  simpa using hx
theorem setTo_step {xs : List Int} {lo k : Nat} {x : Int} (v : Int) (h : lo ≤ k) (hx : xs[k]? = some x) : (setTo xs lo k v).set k v = setTo xs lo (k + 1) v := by
  have hk := (List.getElem?_eq_some_iff.1 hx).1
  have hl : (xs.take lo ++ List.replicate (k - lo) v).length = k := by simp; omega
  unfold setTo
  rw [List.set_append_right _ _ (by omega), hl, dropCons hx]
  have e : k + 1 - lo = (k - lo) + 1 := by omega
  rw [e, List.replicate_succ']
  simp
theorem setTo_same {xs : List Int} {lo k : Nat} {v : Int} (h : lo ≤ k) (hx : xs[k]? = some v) : setTo xs lo (k + 1) v = setTo xs lo k v := by
  rw [← setTo_step v h hx]
  exact List.set_getElem?_self' (setTo_at v h hx)
where
  List.set_getElem?_self' {l : List Int} {k : Nat} {v : Int} (h : l[k]? = some v) : l.set k v = l := by
    apply List.ext_getElem?
    intro i
    rw [List.getElem?_set]
    split
    · rename_i e; subst e
      have hk := (List.getElem?_eq_some_iff.1 h).1
      rw [if_pos hk]
      exact h.symm
    · rfl
theorem grown_two {a b c : World} {row : Option Nat} (h : a.grownBy b row) (k : b.grownBy c row) : a.grownBy c row :=
  ⟨k.os.trans h.os, k.tape.trans h.tape, k.output.trans h.output, Nat.le_trans h.size k.size, fun i hi hne => (k.block i (Nat.lt_of_lt_of_le hi h.size) hne).trans (h.block i hi hne)⟩
/-- Whether something from lo on, below k, is not v. -/
def changedB (xs : List Int) (lo k : Nat) (v : Int) : Bool := ((xs.drop lo).take (k - lo)).any fun x => x != v
theorem changedB_step {xs : List Int} {lo k : Nat} {x : Int} (v : Int) (h : lo ≤ k) (hx : xs[k]? = some x) : changedB xs lo (k + 1) v = (changedB xs lo k v || (x != v)) := by
  unfold changedB
  have e : k + 1 - lo = (k - lo) + 1 := by omega
  have hd : (xs.drop lo)[k - lo]? = some x := by rw [List.getElem?_drop, show lo + (k - lo) = k by omega]; exact hx
  rw [e, List.take_add_one, hd, List.any_append]
  simp

set_option maxRecDepth 100000 in
set_option maxHeartbeats 2000000 in
theorem refSame_any (base g c n lo hi : Nat) (xs : List Int) (v : Int) (w : World) (hxn : xs.length = n) (hown : w.ownsRow base 3 1 (.slice (some ⟨g, 0, none⟩) n c) n (xs.map (Value.int .i64))) (hbase : base ≤ w.heap.size) (hlh : lo ≤ hi) (hhn : hi ≤ n) (hn : n ≤ 100000000) :
    Calls Try.prog 84 #[.slice (some ⟨g, 0, none⟩) n c, .agg #[.int .i64 (lo : Int), .int .i64 (hi : Int)], .int .i64 v] w fun e w' =>
      e = .returned (.bool (changedB xs lo hi v)) ∧ w'.ownsRow base 3 1 (.slice (some ⟨g, 0, none⟩) n c) n ((setTo xs lo hi v).map (Value.int .i64)) ∧ w.grownBy w' (some g) := by
  have HL := Lib.hid hxn
  clear hxn
  go_enter Try.func84, Try.ntmps84
  go_wp2
  go_loopw [7, 8] (fun b i wr => ∃ k : Nat, lo ≤ k ∧ k ≤ hi ∧ i = .int .i64 k ∧ b = .bool (changedB xs lo k v) ∧ wr.ownsRow base 3 1 (.slice (some ⟨g, 0, none⟩) n c) n ((setTo xs lo k v).map (Value.int .i64)) ∧ wr.cell? ⟨w.heap.size, 1, none⟩ = some (.int .i64 (hi : Int)) ∧ w.grownBy wr (some g) ∧ g < w.heap.size) (fun _ i _ => hi - (intOf i).toNat)
  case atStart =>
    refine ⟨lo, Nat.le_refl _, hlh, rfl, by simp [changedB], by rw [setTo_start]; exact hown.alloc _, by rw [World.cell?_alloc_at _ _ _ _ rfl]; rfl, World.grownBy_alloc _ _ _, (hown.lt g rfl).2⟩
  case round =>
    obtain ⟨k, hlk, hkh, rfl, rfl, hownr, hcb, hgr, hglt⟩ := hrel
    by_cases hlt : k < hi
    · obtain ⟨x, hxk⟩ : ∃ x, xs[k]? = some x := ⟨_, List.getElem?_eq_getElem (by rw [HL.out]; omega)⟩
      have hcx : wr.cell? ⟨g, k, none⟩ = some (.int .i64 x) := by
        rw [hownr.cellAt k (by omega), List.getElem?_map, setTo_at v hlk hxk]; rfl
      have hfx := hownr.frozenAt k
      have HC := Lib.hid (changedB_step v hlk hxk)
      by_cases he : x = v
      · subst he
        have HS := Lib.hid (setTo_same hlk hxk)
        clear hxk
        have HC2 := Lib.hid (show changedB xs lo (k + 1) x = changedB xs lo k x by rw [HC.out]; simp)
        go_wp2
        go_roundw
        case rel => exact ⟨k + 1, by omega, by omega, by go_num, by rw [HC2.out], by rw [HS.out]; exact hownr, hcb, hgr, hglt⟩
        case measure => simp [intOf]; omega
      · have hne : (x != v) = true := by simpa using he
        have hne2 : (x == v) = false := by simpa using he
        have HC2 := Lib.hid (show changedB xs lo (k + 1) v = true by rw [HC.out, hne]; simp)
        have HS := Lib.hid (setTo_step v hlk hxk)
        have hst := hownr.stored k (.int .i64 v)
        rw [← List.map_set] at hst
        have hcb2 : (wr.setCell ⟨g, k, none⟩ (.int .i64 v)).cell? ⟨w.heap.size, 1, none⟩ = some (.int .i64 (hi : Int)) := (World.cell?_setCell_other (h := by first | (simp; done) | (simp; omega)) ..).trans hcb
        have HST := Lib.hid hst
        clear hxk he hst
        go_wp2
        go_roundw
        case rel => exact ⟨k + 1, by omega, by omega, by go_num, by rw [HC2.out], by rw [← HS.out]; exact HST.out.1, hcb2, grown_two hgr HST.out.2, hglt⟩
        case measure => simp [intOf]; omega
    · have HK := Lib.hid (show k = hi by omega)
      go_wp2
      go_ret
      exact ⟨retB (by rw [HK.out]), by rw [← HK.out]; exact hownr, hgr⟩
end Go.Proofs.Ytmgoakfnmgngoaa
/- The reference's least of the numbers of a span, and the hull of a number. -/
namespace Go.Proofs.Ytmgoakfnmgngoaa
open Go.RowKit

def leastStep (n x : Int) : Int := if x < n then x else n
def leastS (xs : List Int) (lo hi : Nat) : Int := ((xs.drop lo).take (hi - lo)).foldl leastStep (xs.getD lo 0)
theorem takeCons {xs : List Int} {k hi : Nat} {x : Int} (h : xs[k]? = some x) (hk : k < hi) : (xs.drop k).take (hi - k) = x :: (xs.drop (k + 1)).take (hi - (k + 1)) := by
  rw [dropCons h, show hi - k = (hi - (k + 1)) + 1 by omega, List.take_succ_cons]

set_option maxRecDepth 100000 in
set_option maxHeartbeats 1000000 in
theorem refLeast_any (A : Option Addr) (n c lo hi : Nat) (xs : List Int) (w : World) (hr : Rd w 1 A n (xs.map (Value.int .i64))) (hlt : lo < n) (hhn : hi ≤ n) (hn : n ≤ 100000000) :
    Calls Try.prog 83 #[.slice A n c, .agg #[.int .i64 (lo : Int), .int .i64 (hi : Int)]] w fun e w' => e = .returned (.int .i64 (leastS xs lo hi)) ∧ Below w.heap.size w w' := by
  have hlen : xs.length = n := by have := hr.1; rw [List.length_map] at this; omega
  have HL := Lib.hid hlen
  clear hlen
  obtain ⟨x0, hx0⟩ : ∃ x, xs[lo]? = some x := ⟨_, List.getElem?_eq_getElem (by rw [HL.out]; exact hlt)⟩
  obtain ⟨ad, rfl, hab, hc0⟩ := hr.at_ hlt
  have c0 : w.cell? (ad.add lo) = some (.int .i64 x0) := hc0 _ (by rw [List.getElem?_map, hx0]; rfl)
  have HS := Lib.hid (show leastS xs lo hi = ((xs.drop lo).take (hi - lo)).foldl leastStep x0 by unfold leastS; rw [List.getD_eq_getElem?_getD, hx0]; rfl)
  clear hx0 hc0
  have hba : Below w.heap.size w (w.alloc (Obj.cells #[.int .i64 (lo : Int), .int .i64 (hi : Int)] 31)) := (Below.refl _ _).alloc (Nat.le_refl _) _
  have c0a := (hba.cell (by rw [blockAdd]; exact hab)).trans c0
  go_enter Try.func83, Try.ntmps83
  go_wp2
  go_loop [5, 6] (fun y i => ∃ (k : Nat) (y' : Int), lo ≤ k ∧ (k ≤ hi ∨ k = lo) ∧ i = .int .i64 k ∧ y = .int .i64 y' ∧ leastS xs lo hi = ((xs.drop k).take (hi - k)).foldl leastStep y') (fun _ i => hi - (intOf i).toNat)
  case atStart => exact ⟨lo, x0, Nat.le_refl _, .inr rfl, rfl, rfl, HS.out⟩
  case round =>
    obtain ⟨k, y, hlk, hk, rfl, rfl, hh⟩ := hrel
    have HH := Lib.hid hh
    clear hh
    by_cases hlt : k < hi
    · obtain ⟨x, hxk⟩ : ∃ x, xs[k]? = some x := ⟨_, List.getElem?_eq_getElem (by rw [HL.out]; omega)⟩
      have HD := Lib.hid (takeCons hxk hlt)
      obtain ⟨ad', e', _, hck⟩ := hr.at_ (k := k) (by omega)
      injection e' with e'
      subst e'
      have ck : w.cell? (ad.add k) = some (.int .i64 x) := hck _ (by rw [List.getElem?_map, hxk]; rfl)
      have cka := (hba.cell (by rw [blockAdd]; exact hab)).trans ck
      clear hxk hck
      go_wp2
      all_goals
        go_round
        case rel => exact ⟨k + 1, leastStep y x, by omega, .inl (by omega), by go_num, by first | rfl | (simp only [leastStep]; first | rw [if_pos ‹_›] | rw [if_neg ‹_›] | rw [if_neg (by omega)]), by rw [HH.out, HD.out]; rfl⟩
        case measure => simp [intOf]; omega
    · have HZ := Lib.hid (show leastS xs lo hi = y by rw [HH.out, show hi - k = 0 by omega]; rfl)
      go_wp2
      go_ret
      exact ⟨retI HZ.out.symm, hba⟩
end Go.Proofs.Ytmgoakfnmgngoaa
/- The reference's hull of a number. -/
namespace Go.Proofs.Ytmgoakfnmgngoaa
open Go.RowKit

/-- From the first place with a number to behind the last one. -/
def hullFrom (v : Int) : List Int → Nat → Sp → Sp
  | [], _, st => st
  | x :: l, k, st => hullFrom v l (k + 1) (if (x == v) = true then (if (st.2 == 0) = true then (k : Int) else st.1, (k : Int) + 1) else st)
def hullN (xs : List Int) (v : Int) : Sp := hullFrom v xs 0 (0, 0)
theorem hullFrom_no {v x : Int} {l : List Int} {k : Nat} {st : Sp} (h : (x == v) = false) : hullFrom v (x :: l) k st = hullFrom v l (k + 1) st := by
  rw [hullFrom, if_neg (by rw [h]; decide)]
theorem hullFrom_first {v x a b : Int} {l : List Int} {k : Nat} (h : (x == v) = true) (hb : (b == 0) = true) : hullFrom v (x :: l) k (a, b) = hullFrom v l (k + 1) (k, (k : Int) + 1) := by
  rw [hullFrom, if_pos h, if_pos hb]
theorem hullFrom_more {v x a b : Int} {l : List Int} {k : Nat} (h : (x == v) = true) (hb : (b == 0) = false) : hullFrom v (x :: l) k (a, b) = hullFrom v l (k + 1) (a, (k : Int) + 1) := by
  rw [hullFrom, if_pos h, if_neg (by simp only [hb]; decide)]
theorem SpanBlk.put1 {w : World} {b : Nat} {s : Sp} (h : SpanBlk w b s) (y : Int) : SpanBlk (w.setCell ⟨b, 1, none⟩ (.int .i64 y)) b (s.1, y) := by
  obtain ⟨h0, h1, h2, h3⟩ := h
  refine ⟨?_, World.cell?_setCell_same (h := h1) .., ?_, ?_⟩
  · exact (World.cell?_setCell_other (h := by simp) ..).trans h0
  · rw [World.frozen?_setCell]; exact h2
  · rw [World.frozen?_setCell]; exact h3
theorem SpanBlk.far1 {w : World} {b b' : Nat} {s : Sp} (h : SpanBlk w b s) (hne : b ≠ b') (v : Value) : SpanBlk (w.setCell ⟨b', 1, none⟩ v) b s := by
  obtain ⟨h0, h1, h2, h3⟩ := h
  refine ⟨?_, ?_, ?_, ?_⟩
  · exact (World.cell?_setCell_other (h := by first | (simp; done) | (simp; omega)) ..).trans h0
  · exact (World.cell?_setCell_other (h := by first | (simp; done) | (simp; omega)) ..).trans h1
  · rw [World.frozen?_setCell]; exact h2
  · rw [World.frozen?_setCell]; exact h3

set_option maxRecDepth 100000 in
set_option maxHeartbeats 2000000 in
theorem refHullN_any (A : Option Addr) (n c : Nat) (xs : List Int) (v : Int) (w : World) (hr : Rd w 1 A n (xs.map (Value.int .i64))) (hn : n ≤ 100000000) :
    Calls Try.prog 55 #[.slice A n c, .int .i64 v] w fun e w' => e = .returned (.agg #[.int .i64 (hullN xs v).1, .int .i64 (hullN xs v).2]) ∧ Below w.heap.size w w' := by
  have hlen : xs.length = n := by have := hr.1; rw [List.length_map] at this; omega
  have HL := Lib.hid hlen
  clear hlen
  go_enter Try.func55, Try.ntmps55
  go_wp2
  go_loopw [6] (fun i wr => ∃ (k : Nat) (st : Sp), k ≤ n ∧ i = .int .i64 k ∧ hullN xs v = hullFrom v (xs.drop k) k st ∧ SpanBlk wr w.heap.size (0, 0) ∧ SpanBlk wr (w.heap.size + 1) st ∧ w.heap.size + 1 < wr.heap.size ∧ Below w.heap.size w wr) (fun i _ => n - (intOf i).toNat)
  case atStart =>
    refine ⟨0, (0, 0), Nat.zero_le _, rfl, rfl, ?_, ?_, by simp, ((Below.refl _ _).alloc (Nat.le_refl _) _).alloc (by simp) _⟩
    · refine ⟨?_, ?_, ?_, ?_⟩ <;> simp [go_sem]
    · refine ⟨?_, ?_, ?_, ?_⟩ <;> simp [go_sem]
  case round =>
    obtain ⟨k, st, hk, rfl, hh, ⟨r0, r1, r2, r3⟩, ⟨t0, t1, t2, t3⟩, hsz, hb⟩ := hrel
    have HH := Lib.hid hh
    clear hh
    by_cases hlt : k < n
    · obtain ⟨s, hsk⟩ : ∃ s, xs[k]? = some s := ⟨_, List.getElem?_eq_getElem (by rw [HL.out]; exact hlt)⟩
      have HD := Lib.hid (dropCons hsk)
      obtain ⟨ad, rfl, hab, hck⟩ := hr.at_ hlt
      have ck := (hb.cell (by rw [blockAdd]; exact hab)).trans (hck (.int .i64 s) (by rw [List.getElem?_map, hsk]; rfl))
      clear hsk hck
      obtain ⟨x, y⟩ := st
      simp only at r0 r1 t0 t1
      cases he : s == v with
      | false =>
        have HS := Lib.hid (hullFrom_no (l := xs.drop (k + 1)) (k := k) (st := (x, y)) he)
        go_wp2
        go_roundw
        case rel => exact ⟨k + 1, (x, y), by omega, by go_num, by rw [HH.out, HD.out, HS.out], ⟨r0, r1, r2, r3⟩, ⟨t0, t1, t2, t3⟩, hsz, hb⟩
        case measure => simp [intOf]; omega
      | true =>
        have B0 : SpanBlk wr w.heap.size (0, 0) := ⟨r0, r1, r2, r3⟩
        have B1 : SpanBlk wr (w.heap.size + 1) (x, y) := ⟨t0, t1, t2, t3⟩
        cases hy : y == 0 with
        | false =>
          have HS := Lib.hid (hullFrom_more (a := x) (l := xs.drop (k + 1)) (k := k) he hy)
          have HP := Lib.hid (B1.put1 ((k : Int) + 1))
          have HF := Lib.hid (B0.far1 (b' := w.heap.size + 1) (by omega) (.int .i64 ((k : Int) + 1)))
          have hbe := hb.setCell (p := ⟨w.heap.size + 1, 1, none⟩) (by simp) (.int .i64 ((k : Int) + 1))
          clear B0 B1
          go_wp2
          go_roundw
          case rel => exact ⟨k + 1, (x, (k : Int) + 1), by omega, by go_num, by rw [HH.out, HD.out, HS.out], HF.out, HP.out, by simpa [World.setCell] using hsz, hbe⟩
          case measure => simp [intOf]; omega
        | true =>
          have HS := Lib.hid (hullFrom_first (a := x) (l := xs.drop (k + 1)) (k := k) he hy)
          have HP := Lib.hid (B1.put (k : Int) ((k : Int) + 1))
          have HF := Lib.hid (B0.far (b' := w.heap.size + 1) (by omega) (.int .i64 (k : Int)) (.int .i64 ((k : Int) + 1)))
          have hbe := (hb.setCell (p := ⟨w.heap.size + 1, 0, none⟩) (by simp) (.int .i64 (k : Int))).setCell (p := ⟨w.heap.size + 1, 1, none⟩) (by simp) (.int .i64 ((k : Int) + 1))
          clear B0 B1
          go_wp2
          go_roundw
          case rel => exact ⟨k + 1, (k, (k : Int) + 1), by omega, by go_num, by rw [HH.out, HD.out, HS.out], HF.out, HP.out, by simpa [World.setCell] using hsz, hbe⟩
          case measure => simp [intOf]; omega
    · have HZ := Lib.hid (show hullN xs v = st by rw [HH.out, List.drop_eq_nil_of_le (by rw [HL.out]; omega)]; rfl)
      obtain ⟨x, y⟩ := st
      simp only at r0 r1 t0 t1
      have hbe := (hb.setCell (p := ⟨w.heap.size, 0, none⟩) (Nat.le_refl _) (.int .i64 x)).setCell (p := ⟨w.heap.size, 1, none⟩) (Nat.le_refl _) (.int .i64 y)
      have HR := Lib.hid (SpanBlk.put (w := wr) (b := w.heap.size) (s := (0, 0)) ⟨r0, r1, r2, r3⟩ x y)
      go_wp2
      generalize ((wr.setCell ⟨w.heap.size, 0, none⟩ (.int .i64 x)).setCell ⟨w.heap.size, 1, none⟩ (.int .i64 y)) = w5 at *
      obtain ⟨u0, u1, _, _⟩ := HR.out
      simp only at u0 u1
      exact bodyPost_ret (v := .agg #[.int .i64 x, .int .i64 y]) (by simp [results, Try.results55, go_sem, u0, u1]) rfl ⟨by rw [HZ.out], hbe⟩
end Go.Proofs.Ytmgoakfnmgngoaa
/- Clusters: cells of a slice of clusters; the reference's Identity, and where clusters end on either side. -/
namespace Go.Proofs.Ytmgoakfnmgngoaa
open Go.RowKit

def identS (n : Nat) : List Cl := (List.range n).map fun i : Nat => (((i : Int), (i : Int) + 1), ((i : Int), (i : Int) + 1))
theorem identS_succ (k : Nat) : identS (k + 1) = identS k ++ [(((k : Int), (k : Int) + 1), ((k : Int), (k : Int) + 1))] := by simp [identS, List.range_succ]
theorem identS_len (k : Nat) : (identS k).length = k := by simp [identS]

set_option maxRecDepth 100000 in
set_option maxHeartbeats 2000000 in
theorem refIdentity_any (m : Int) (w : World) (hm : m ≤ 1000000) :
    Calls Try.prog 24 #[.int .i64 m] w fun e w' => ∃ v, e = .returned v ∧ w'.ownsRow w.heap.size 33 4 v m.toNat (cellsC (identS m.toNat)) ∧ Below w.heap.size w w' := by
  go_enter Try.func24, Try.ntmps24
  go_wp2
  go_loopw [3, 4] (fun v i wr => ∃ k : Nat, k ≤ m.toNat ∧ i = .int .i64 k ∧ wr.ownsRow w.heap.size 33 4 v k (cellsC (identS k)) ∧ Below w.heap.size w wr) (fun _ i _ => (m - intOf i).toNat)
  case atStart => exact ⟨0, Nat.zero_le _, rfl, ⟨rfl, .inl ⟨rfl, rfl⟩⟩, Below.refl _ _⟩
  case round =>
    obtain ⟨k, hk, rfl, hown, hb⟩ := hrel
    have HS := Lib.hid (show cellsC (identS (k + 1)) = cellsC (identS k) ++ [.int .i64 (k : Int), .int .i64 ((k : Int) + 1), .int .i64 (k : Int), .int .i64 ((k : Int) + 1)] by rw [identS_succ, cellsC_snoc])
    by_cases hlt : (k : Int) < m
    · have hnw := cells_new (wr.alloc (.cells #[.int .i64 (k : Int), .int .i64 ((k : Int) + 1)] 31)) [.int .i64 (k : Int), .int .i64 ((k : Int) + 1), .int .i64 (k : Int), .int .i64 ((k : Int) + 1)] 33
      rw [World.size_alloc] at hnw
      have HW := Lib.hid hnw
      have hown' := (hown.alloc (.cells #[.int .i64 (k : Int), .int .i64 ((k : Int) + 1)] 31)).alloc (.cells #[.int .i64 (k : Int), .int .i64 ((k : Int) + 1), .int .i64 (k : Int), .int .i64 ((k : Int) + 1)] 33)
      clear hnw
      have hb2 := (hb.alloc hb.size (.cells #[.int .i64 (k : Int), .int .i64 ((k : Int) + 1)] 31)).alloc (Nat.le_trans hb.size (by simp)) (.cells #[.int .i64 (k : Int), .int .i64 ((k : Int) + 1), .int .i64 (k : Int), .int .i64 ((k : Int) + 1)] 33)
      go_wp2_with (at_builtin; refine wpList_app rfl _ _ _ rfl clusSlice (by decide) u3 k _ rfl hown' ⟨wr.heap.size + 1, 0, none⟩ 1 1 _ rfl rfl HW.out (oneInt4 _ _ _ _ _) (by omega) (by unfold maxLen; omega) hb2.size ?_; intro v1 w1 hown1 hg1 hat1)
      have hgr := below_app hb2 hg1 hown' hb2.size
      go_roundw
      case rel => exact ⟨k + 1, by omega, by go_num, by rw [HS.out]; exact hown1, hgr⟩
      case measure => simp [intOf]; omega
    · have HK := Lib.hid (show k = m.toNat by omega)
      go_wp2
      go_ret
      exact ⟨u3, rfl, by rw [← HK.out]; exact hown, hb⟩

def insStep (n : Int) (c : Cl) : Int := if n < c.1.2 then c.1.2 else n
def insS (l : List Cl) : Int := l.foldl insStep 0
set_option maxRecDepth 100000 in
set_option maxHeartbeats 1000000 in
theorem ref_ins_any (A : Option Addr) (n c : Nat) (l : List Cl) (w : World) (hr : Rd w 4 A n (cellsC l)) (hn : n ≤ maxLen) :
    Calls Try.prog 58 #[.slice A n c] w fun e w' => e = .returned (.int .i64 (insS l)) ∧ w' = w := by
  have hlen : l.length = n := by have := hr.1; rw [cellsC_len] at this; omega
  have HL := Lib.hid hlen
  clear hlen
  unfold maxLen at hn
  go_enter Try.func58, Try.ntmps58
  go_wp2
  go_loop [3, 4] (fun x i => ∃ (k : Nat) (y : Int), k ≤ n ∧ i = .int .i64 k ∧ x = .int .i64 y ∧ insS l = (l.drop k).foldl insStep y) (fun _ i => n - (intOf i).toNat)
  case atStart => exact ⟨0, 0, Nat.zero_le _, rfl, rfl, rfl⟩
  case round =>
    obtain ⟨k, y, hk, rfl, rfl, hh⟩ := hrel
    have HH := Lib.hid hh
    clear hh
    by_cases hlt : k < n
    · obtain ⟨s, hsk⟩ : ∃ s, l[k]? = some s := ⟨_, List.getElem?_eq_getElem (by rw [HL.out]; exact hlt)⟩
      have HD := Lib.hid (dropCons hsk)
      obtain ⟨ad, rfl, hab, c1, c2, c3, c4⟩ := hr.clus hsk
      clear hsk
      obtain ⟨⟨s1, s2⟩, s3, s4⟩ := s
      simp only at c1 c2 c3 c4
      go_wp2
      all_goals
        go_round
        case rel => exact ⟨k + 1, insStep y ((s1, s2), (s3, s4)), by omega, by go_num, by first | rfl | (simp only [insStep]; first | rw [if_pos ‹_›] | rw [if_neg ‹_›] | rw [if_neg (by omega)]), by rw [HH.out, HD.out]; rfl⟩
        case measure => simp [intOf]; omega
    · have HZ := Lib.hid (show insS l = y by rw [HH.out, List.drop_eq_nil_of_le (by rw [HL.out]; omega)]; rfl)
      go_wp2
      go_ret
      exact ⟨retI HZ.out.symm, rfl⟩

def outsStep (n : Int) (c : Cl) : Int := if n < c.2.2 then c.2.2 else n
def outsS (l : List Cl) : Int := l.foldl outsStep 0
set_option maxRecDepth 100000 in
set_option maxHeartbeats 1000000 in
theorem ref_outs_any (A : Option Addr) (n c : Nat) (l : List Cl) (w : World) (hr : Rd w 4 A n (cellsC l)) (hn : n ≤ maxLen) :
    Calls Try.prog 59 #[.slice A n c] w fun e w' => e = .returned (.int .i64 (outsS l)) ∧ w' = w := by
  have hlen : l.length = n := by have := hr.1; rw [cellsC_len] at this; omega
  have HL := Lib.hid hlen
  clear hlen
  unfold maxLen at hn
  go_enter Try.func59, Try.ntmps59
  go_wp2
  go_loop [3, 4] (fun x i => ∃ (k : Nat) (y : Int), k ≤ n ∧ i = .int .i64 k ∧ x = .int .i64 y ∧ outsS l = (l.drop k).foldl outsStep y) (fun _ i => n - (intOf i).toNat)
  case atStart => exact ⟨0, 0, Nat.zero_le _, rfl, rfl, rfl⟩
  case round =>
    obtain ⟨k, y, hk, rfl, rfl, hh⟩ := hrel
    have HH := Lib.hid hh
    clear hh
    by_cases hlt : k < n
    · obtain ⟨s, hsk⟩ : ∃ s, l[k]? = some s := ⟨_, List.getElem?_eq_getElem (by rw [HL.out]; exact hlt)⟩
      have HD := Lib.hid (dropCons hsk)
      obtain ⟨ad, rfl, hab, c1, c2, c3, c4⟩ := hr.clus hsk
      clear hsk
      obtain ⟨⟨s1, s2⟩, s3, s4⟩ := s
      simp only at c1 c2 c3 c4
      go_wp2
      all_goals
        go_round
        case rel => exact ⟨k + 1, outsStep y ((s1, s2), (s3, s4)), by omega, by go_num, by first | rfl | (simp only [outsStep]; first | rw [if_pos ‹_›] | rw [if_neg ‹_›] | rw [if_neg (by omega)]), by rw [HH.out, HD.out]; rfl⟩
        case measure => simp [intOf]; omega
    · have HZ := Lib.hid (show outsS l = y by rw [HH.out, List.drop_eq_nil_of_le (by rw [HL.out]; omega)]; rfl)
      go_wp2
      go_ret
      exact ⟨retI HZ.out.symm, rfl⟩
end Go.Proofs.Ytmgoakfnmgngoaa
/- Stable sorting as mathematics: what is sorted, and has of each key the same elements in the same order, is one list; turns that keep that. No program in this text. -/
namespace Go.Proofs.Ytmgoakfnmgngoaa

def keyC (c : Cl) : Int := c.1.1
/-- The elements of one key. -/
def ofKey (v : Int) (l : List Cl) : List Cl := l.filter fun c => keyC c == v
/-- The same elements of each key, in the same order. -/
def Same (a b : List Cl) : Prop := ∀ v, ofKey v a = ofKey v b
def SortC (l : List Cl) : Prop := l.Pairwise fun a b => keyC a ≤ keyC b
theorem Same.refl (a : List Cl) : Same a a := fun _ => rfl
theorem Same.symm {a b : List Cl} (h : Same a b) : Same b a := fun v => (h v).symm
theorem Same.trans {a b c : List Cl} (h : Same a b) (k : Same b c) : Same a c := fun v => (h v).trans (k v)
theorem ofKey_app (v : Int) (a b : List Cl) : ofKey v (a ++ b) = ofKey v a ++ ofKey v b := List.filter_append ..
theorem Same.app {a b c d : List Cl} (h : Same a b) (k : Same c d) : Same (a ++ c) (b ++ d) := fun v => by rw [ofKey_app, ofKey_app, h v, k v]
theorem Same.mem {a b : List Cl} (h : Same a b) (x : Cl) : x ∈ a ↔ x ∈ b := by
  have key : ∀ l : List Cl, x ∈ l ↔ x ∈ ofKey (keyC x) l := fun l => by simp [ofKey]
  rw [key a, key b, h]
theorem Same.length {a b : List Cl} (h : Same a b) : a.length = b.length := by
  have hp : a.Perm b := by
    rw [List.perm_iff_count]
    intro x
    have key : ∀ l : List Cl, l.count x = (ofKey (keyC x) l).count x := fun l => by
      unfold ofKey
      rw [List.count_filter (by simp)]
    rw [key a, key b, h]
  exact hp.length_eq
/-- There is one such list. -/
theorem same_only : ∀ {a b : List Cl}, SortC a → SortC b → Same a b → a = b
  | [], b, _, _, h => by
    have := h.length
    exact (List.eq_nil_of_length_eq_zero (by simpa using this.symm)).symm
  | x :: a, [], _, _, h => by
    have := h.length
    simp at this
  | x :: a, y :: b, ha, hb, h => by
    unfold SortC at ha hb
    rw [List.pairwise_cons] at ha hb
    have h1 : keyC y ≤ keyC x := by
      rcases List.mem_cons.1 ((h.mem x).1 (List.mem_cons_self ..)) with rfl | hm
      · exact Int.le_refl _
      · exact hb.1 x hm
    have h2 : keyC x ≤ keyC y := by
      rcases List.mem_cons.1 ((h.mem y).2 (List.mem_cons_self ..)) with rfl | hm
      · exact Int.le_refl _
      · exact ha.1 y hm
    have hk : keyC x = keyC y := by omega
    have e := h (keyC x)
    have e1 : ofKey (keyC x) (x :: a) = x :: ofKey (keyC x) a := by simp [ofKey]
    have e2 : ofKey (keyC x) (y :: b) = y :: ofKey (keyC x) b := by simp [ofKey, hk]
    rw [e1, e2] at e
    injection e with exy et
    subst exy
    have hs : Same a b := fun v => by
      have := h v
      by_cases hv : keyC x = v
      · subst hv; exact et
      · have f1 : ofKey v (x :: a) = ofKey v a := by simp [ofKey, hv]
        have f2 : ofKey v (x :: b) = ofKey v b := by simp [ofKey, hv]
        rwa [f1, f2] at this
    rw [same_only ha.2 hb.2 hs]
theorem ofKey_none {v : Int} {l : List Cl} (h : ∀ x ∈ l, keyC x ≠ v) : ofKey v l = [] := by
  unfold ofKey
  rw [List.filter_eq_nil_iff]
  intro x hx
  simp [h x hx]
/-- Two rows change places, all of the second one less than all of the first one. -/
theorem same_swap {A B C D : List Cl} (h : ∀ b ∈ B, ∀ c ∈ C, keyC c < keyC b) : Same (A ++ (B ++ (C ++ D))) (A ++ (C ++ (B ++ D))) := fun v => by
  simp only [ofKey_app]
  congr 1
  rw [← List.append_assoc, ← List.append_assoc]
  congr 1
  by_cases hb : ∃ b ∈ B, keyC b = v
  · obtain ⟨b, hb, hv⟩ := hb
    rw [ofKey_none (l := C) (fun c hc => by have := h b hb c hc; omega)]
    simp
  · rw [ofKey_none (l := B) (fun b hb' e => hb ⟨b, hb', e⟩)]
    simp
theorem sort_app {a b : List Cl} (ha : SortC a) (hb : SortC b) (h : ∀ x ∈ a, ∀ y ∈ b, keyC x ≤ keyC y) : SortC (a ++ b) := List.pairwise_append.2 ⟨ha, hb, h⟩
theorem sort_left {a b : List Cl} (h : SortC (a ++ b)) : SortC a := (List.pairwise_append.1 h).1
theorem sort_right {a b : List Cl} (h : SortC (a ++ b)) : SortC b := (List.pairwise_append.1 h).2.1
theorem sort_cross {a b : List Cl} (h : SortC (a ++ b)) : ∀ x ∈ a, ∀ y ∈ b, keyC x ≤ keyC y := (List.pairwise_append.1 h).2.2
/-- Part of a row from i to j. -/
def seg (l : List Cl) (i j : Nat) : List Cl := (l.take j).drop i
theorem seg_len {l : List Cl} {i j : Nat} (hj : j ≤ l.length) : (seg l i j).length = j - i := by simp [seg]; omega
theorem seg_at {l : List Cl} {i j k : Nat} (hk : i + k < j) : (seg l i j)[k]? = l[i + k]? := by
  unfold seg; rw [List.getElem?_drop, List.getElem?_take, if_pos hk]
theorem seg_split {l : List Cl} {i k j : Nat} (h1 : i ≤ k) (h2 : k ≤ j) (hj : j ≤ l.length) : seg l i j = seg l i k ++ seg l k j := by
  apply List.ext_getElem?
  intro p
  by_cases hp : i + p < k
  · rw [seg_at (by omega), List.getElem?_append_left (by rw [seg_len (by omega)]; omega), seg_at hp]
  · rw [List.getElem?_append_right (by rw [seg_len (by omega)]; omega), seg_len (by omega)]
    by_cases hq : i + p < j
    · rw [seg_at hq, seg_at (by omega)]; congr 1; omega
    · rw [List.getElem?_eq_none (by rw [seg_len hj]; omega), List.getElem?_eq_none (by rw [seg_len hj]; omega)]
theorem seg_all {l : List Cl} : seg l 0 l.length = l := by simp [seg]
/-- Sorted from i to j. -/
def SortAt (l : List Cl) (i j : Nat) : Prop := SortC (seg l i j)
theorem sortAt_iff {l : List Cl} {i j : Nat} (hj : j ≤ l.length) : SortAt l i j ↔ ∀ (p q : Nat) (x y : Cl), i ≤ p → p < q → q < j → l[p]? = some x → l[q]? = some y → keyC x ≤ keyC y := by
  unfold SortAt SortC
  rw [List.pairwise_iff_getElem]
  have hl := seg_len (l := l) (i := i) hj
  constructor
  · intro h p q x y h1 h2 h3 hx hy
    have a := h (p - i) (q - i) (by omega) (by omega) (by omega)
    have e1 := seg_at (l := l) (i := i) (j := j) (k := p - i) (by omega)
    have e2 := seg_at (l := l) (i := i) (j := j) (k := q - i) (by omega)
    rw [show i + (p - i) = p by omega, hx, List.getElem?_eq_getElem (by omega)] at e1
    rw [show i + (q - i) = q by omega, hy, List.getElem?_eq_getElem (by omega)] at e2
    rw [Option.some.inj e1, Option.some.inj e2] at a
    exact a
  · intro h p q hp hq hpq
    refine h (i + p) (i + q) _ _ (by omega) (by omega) (by omega) ?_ ?_
    · rw [← seg_at (j := j) (by omega)]; exact List.getElem?_eq_getElem hp
    · rw [← seg_at (j := j) (by omega)]; exact List.getElem?_eq_getElem hq
end Go.Proofs.Ytmgoakfnmgngoaa
/- A row of clusters of the call's own, while it is sorted: its cells, an exchange; slices' swapRange walked. -/
namespace Go.Proofs.Ytmgoakfnmgngoaa
open Go.RowKit

theorem cellsC_set {l : List Cl} {k : Nat} (h : k < l.length) (s : Cl) : ((((cellsC l).set (k * 4) (.int .i64 s.1.1)).set (k * 4 + 1) (.int .i64 s.1.2)).set (k * 4 + 2) (.int .i64 s.2.1)).set (k * 4 + 3) (.int .i64 s.2.2) = cellsC (l.set k s) := by
  induction l generalizing k with
  | nil => simp at h
  | cons t l ih =>
    have hc : ∀ (u : Cl) (m : List Cl), cellsC (u :: m) = .int .i64 u.1.1 :: .int .i64 u.1.2 :: .int .i64 u.2.1 :: .int .i64 u.2.2 :: cellsC m := fun _ _ => rfl
    cases k with
    | zero => simp [hc]
    | succ k =>
      have e0 : (k + 1) * 4 = k * 4 + 1 + 1 + 1 + 1 := by omega
      have e1 : (k + 1) * 4 + 1 = (k * 4 + 1) + 1 + 1 + 1 + 1 := by omega
      have e2 : (k + 1) * 4 + 2 = (k * 4 + 2) + 1 + 1 + 1 + 1 := by omega
      have e3 : (k + 1) * 4 + 3 = (k * 4 + 3) + 1 + 1 + 1 + 1 := by omega
      rw [e3, e2, e1, e0, hc, List.set_cons_succ, List.set_cons_succ, List.set_cons_succ, List.set_cons_succ, List.set_cons_succ, List.set_cons_succ, List.set_cons_succ, List.set_cons_succ,
        List.set_cons_succ, List.set_cons_succ, List.set_cons_succ, List.set_cons_succ, List.set_cons_succ, List.set_cons_succ, List.set_cons_succ, List.set_cons_succ, ih (by simpa using h), List.set_cons_succ, hc]
/-- A row of clusters of the call's own. -/
def StW (w : World) (base g n cap : Nat) (ys : List Cl) : Prop := w.ownsRow base 33 4 (.slice (some ⟨g, 0, none⟩) n cap) n (cellsC ys)
theorem StW.len {w : World} {base g n cap : Nat} {ys : List Cl} (h : StW w base g n cap ys) : ys.length = n := by
  have := h.1
  rw [cellsC_len] at this
  omega
/-- The cells of one cluster of the row, and that they may be written. -/
theorem StW.at_ {w : World} {base g n cap k : Nat} {ys : List Cl} {s : Cl} (h : StW w base g n cap ys) (hk : ys[k]? = some s) :
    w.cell? ⟨g, k * 4, none⟩ = some (.int .i64 s.1.1) ∧ w.cell? ⟨g, k * 4 + 1, none⟩ = some (.int .i64 s.1.2) ∧ w.cell? ⟨g, k * 4 + 2, none⟩ = some (.int .i64 s.2.1) ∧ w.cell? ⟨g, k * 4 + 3, none⟩ = some (.int .i64 s.2.2) ∧
    w.frozen? ⟨g, k * 4, none⟩ = false ∧ w.frozen? ⟨g, k * 4 + 1, none⟩ = false ∧ w.frozen? ⟨g, k * 4 + 2, none⟩ = false ∧ w.frozen? ⟨g, k * 4 + 3, none⟩ = false := by
  have hl := (List.getElem?_eq_some_iff.1 hk).1
  have hn := h.len
  obtain ⟨e0, e1, e2, e3⟩ := cellsC_at hk
  have h' := h
  unfold StW at h'
  exact ⟨by rw [h'.cellAt (k * 4) (by omega)]; exact e0, by rw [h'.cellAt (k * 4 + 1) (by omega)]; exact e1, by rw [h'.cellAt (k * 4 + 2) (by omega)]; exact e2, by rw [h'.cellAt (k * 4 + 3) (by omega)]; exact e3, h'.frozenAt _, h'.frozenAt _, h'.frozenAt _, h'.frozenAt _⟩
/-- The world with one cluster stored. -/
def putC (w : World) (g k : Nat) (s : Cl) : World := (((w.setCell ⟨g, k * 4, none⟩ (.int .i64 s.1.1)).setCell ⟨g, k * 4 + 1, none⟩ (.int .i64 s.1.2)).setCell ⟨g, k * 4 + 2, none⟩ (.int .i64 s.2.1)).setCell ⟨g, k * 4 + 3, none⟩ (.int .i64 s.2.2)
/-- One cluster stored. -/
theorem StW.put {w : World} {base g n cap k : Nat} {ys : List Cl} (h : StW w base g n cap ys) (hk : k < n) (s : Cl) : StW (putC w g k s) base g n cap (ys.set k s) := by
  have := own_store4 h (k * 4) (.int .i64 s.1.1) (.int .i64 s.1.2) (.int .i64 s.2.1) (.int .i64 s.2.2)
  rw [cellsC_set (by rw [h.len]; exact hk)] at this
  exact this
theorem StW.drew {w : World} {base g n cap : Nat} {ys : List Cl} (h : StW w base g n cap ys) : StW w.drew base g n cap ys := World.ownsRow.drew h
theorem grown_put (w : World) (g k : Nat) (s : Cl) : w.grownBy (putC w g k s) (some g) := by
  have one : ∀ (w : World) (j : Nat) (u : Value), w.grownBy (w.setCell ⟨g, j, none⟩ u) (some g) := fun w j u => ⟨rfl, rfl, rfl, by simp [World.setCell], fun i _ hr => Below.heap_setCell w ⟨g, j, none⟩ u i (fun e => hr (by rw [e]))⟩
  have two : ∀ {a b c : World}, a.grownBy b (some g) → b.grownBy c (some g) → a.grownBy c (some g) := fun h k => ⟨k.os.trans h.os, k.tape.trans h.tape, k.output.trans h.output, Nat.le_trans h.size k.size, fun i hi hr => (k.block i (Nat.lt_of_lt_of_le hi h.size) hr).trans (h.block i hi hr)⟩
  exact two (two (two (one _ _ _) (one _ _ _)) (one _ _ _)) (one _ _ _)
theorem grown2 {a b c : World} {r : Option Nat} (h : a.grownBy b r) (k : b.grownBy c r) : a.grownBy c r := ⟨k.os.trans h.os, k.tape.trans h.tape, k.output.trans h.output, Nat.le_trans h.size k.size, fun i hi hr => (k.block i (Nat.lt_of_lt_of_le hi h.size) hr).trans (h.block i hi hr)⟩
theorem grown_drewC {a b : World} {r : Option Nat} (h : a.grownBy b r) : a.grownBy b.drew r := ⟨h.os, h.tape, h.output, h.size, h.block⟩
/-- What an exchange of two clusters leaves. -/
theorem StW.swap {w : World} {base g n cap p q : Nat} {ys : List Cl} (h : StW w base g n cap ys) (hp : p < n) (hq : q < n) (x y : Cl) : StW (putC (putC w g p y) g q x).drew base g n cap ((ys.set p y).set q x) ∧ w.grownBy (putC (putC w g p y) g q x).drew (some g) := by
  exact ⟨((h.put hp y).put hq x).drew, grown_drewC (grown2 (grown_put w g p y) (grown_put (putC w g p y) g q x))⟩
/-- After k exchanges of the rows from a and from b on. -/
def SwAt (xs : List Cl) (a b k : Nat) (ys : List Cl) : Prop := ys.length = xs.length ∧ ∀ p, ys[p]? = if a ≤ p ∧ p < a + k then xs[b + (p - a)]? else if b ≤ p ∧ p < b + k then xs[a + (p - b)]? else xs[p]?
theorem SwAt.step {xs ys : List Cl} {a b k : Nat} (h : SwAt xs a b k ys) (hd : a + k < b) (hb : b + k < xs.length) {x y : Cl} (hx : ys[a + k]? = some x) (hy : ys[b + k]? = some y) : SwAt xs a b (k + 1) ((ys.set (a + k) y).set (b + k) x) := by
  have e1 := h.2 (a + k)
  rw [if_neg (by omega), if_neg (by omega), hx] at e1
  have e2 := h.2 (b + k)
  rw [if_neg (by omega), if_neg (by omega), hy] at e2
  refine ⟨by simp [h.1], fun p => ?_⟩
  by_cases h1 : p = b + k
  · subst h1
    rw [List.getElem?_set_self (by simp [h.1]; omega), if_neg (by omega), if_pos (by omega), show a + (b + k - b) = a + k by omega]
    exact e1
  · rw [List.getElem?_set_ne (fun e => h1 e.symm)]
    by_cases h2 : p = a + k
    · subst h2
      rw [List.getElem?_set_self (by rw [h.1]; omega), if_pos (by omega), show b + (a + k - a) = b + k by omega]
      exact e2
    · rw [List.getElem?_set_ne (fun e => h2 e.symm), h.2 p]
      by_cases h3 : a ≤ p ∧ p < a + k
      · have k3 : a ≤ p ∧ p < a + (k + 1) := by omega
        rw [if_pos h3, if_pos k3]
      · have k3 : ¬ (a ≤ p ∧ p < a + (k + 1)) := by omega
        rw [if_neg h3, if_neg k3]
        by_cases h4 : b ≤ p ∧ p < b + k
        · have k4 : b ≤ p ∧ p < b + (k + 1) := by omega
          rw [if_pos h4, if_pos k4]
        · have k4 : ¬ (b ≤ p ∧ p < b + (k + 1)) := by omega
          rw [if_neg h4, if_neg k4]
set_option maxRecDepth 100000 in
set_option maxHeartbeats 2000000 in
theorem swapRange_any (base g cap n a b m : Nat) (xs : List Cl) (F : Value) (w : World) (hS : StW w base g n cap xs) (hd : a + m ≤ b) (hb : b + m ≤ n) (hn : n ≤ 100000000) :
    Calls Try.prog 123 #[.slice (some ⟨g, 0, none⟩) n cap, .int .i64 (a : Int), .int .i64 (b : Int), .int .i64 (m : Int), F] w fun e w' => e = .returned (.tuple #[]) ∧ ∃ ys, SwAt xs a b m ys ∧ StW w' base g n cap ys ∧ w.grownBy w' (some g) := by
  have HS := Lib.hid hS
  have hlen := hS.len
  have HL := Lib.hid hlen
  clear hS hlen
  go_enter Try.func123, Try.ntmps123
  go_wp2_with fail
  go_loopw [10] (fun i ws => ∃ (k : Nat) (ys : List Cl), k ≤ m ∧ i = .int .i64 (k : Int) ∧ SwAt xs a b k ys ∧ StW ws base g n cap ys ∧ w.grownBy ws (some g)) (fun i _ => m - (intOf i).toNat)
  case atStart => exact ⟨0, xs, Nat.zero_le _, rfl, ⟨rfl, fun p => by rw [if_neg (by omega), if_neg (by omega)]⟩, HS.out, World.grownBy.refl w _⟩
  case round =>
    clear HS
    obtain ⟨k, ys, hk, rfl, hsw, hst, hgr⟩ := hrel
    by_cases hlt : k < m
    · have hyl := hst.len
      obtain ⟨x, hx⟩ : ∃ x, ys[a + k]? = some x := ⟨_, List.getElem?_eq_getElem (by omega)⟩
      obtain ⟨y, hy⟩ : ∃ y, ys[b + k]? = some y := ⟨_, List.getElem?_eq_getElem (by omega)⟩
      have HSW := Lib.hid (hsw.step (by omega) (by have := HL.out; omega) hx hy)
      have HST := Lib.hid (hst.swap (p := a + k) (q := b + k) (by omega) (by omega) x y)
      have HG := Lib.hid hgr
      obtain ⟨x0, x1, x2, x3, fx0, fx1, fx2, fx3⟩ := hst.at_ hx
      obtain ⟨y0, y1, y2, y3, fy0, fy1, fy2, fy3⟩ := hst.at_ hy
      obtain ⟨p, hp⟩ : ∃ p, a + k = p := ⟨_, rfl⟩
      obtain ⟨q, hq⟩ : ∃ q, b + k = q := ⟨_, rfl⟩
      rw [hp] at x0 x1 x2 x3 fx0 fx1 fx2 fx3 HSW HST
      rw [hq] at y0 y1 y2 y3 fy0 fy1 fy2 fy3 HSW HST
      have ip : (a : Int) + (k : Int) = (p : Int) := by omega
      have iq : (b : Int) + (k : Int) = (q : Int) := by omega
      have hpn : (p : Int) < (n : Int) := by omega
      have hqn : (q : Int) < (n : Int) := by omega
      have hp0 : (0 : Int) ≤ (p : Int) := by omega
      have hq0 : (0 : Int) ≤ (q : Int) := by omega
      have hpq : p < q := by omega
      obtain ⟨⟨xa, xb⟩, xc, xd⟩ := x
      obtain ⟨⟨ya, yb⟩, yc, yd⟩ := y
      simp only at x0 x1 x2 x3 y0 y1 y2 y3
      have HST2 := HST.out
      simp only [putC] at HST2
      have HST3 := Lib.hid HST2
      clear hx hy hsw hst hgr hp hq hyl HST HST2
      go_wp2_with fail
      go_region
      clear x0 x1 x2 x3 fx0 fx1 fx2 fx3 y0 y1 y2 y3 fy0 fy1 fy2 fy3
      go_wp2_with fail
      go_roundw
      case rel => exact ⟨k + 1, _, by omega, by go_num, HSW.out, HST3.out.1, grown2 HG.out HST3.out.2⟩
      case measure => simp [intOf]; omega
    · have hkm : k = m := by omega
      have H1 := Lib.hid hsw
      have H2 := Lib.hid hst
      have H3 := Lib.hid hgr
      rw [hkm] at H1
      clear hsw hst hgr hkm
      go_wp2_with fail
      exact bodyPost_end (v := .tuple #[]) (by simp [results, go_sem]) rfl ⟨rfl, ys, H1.out, H2.out, H3.out⟩
end Go.Proofs.Ytmgoakfnmgngoaa
/- slices.rotate at clusters, walked. -/
namespace Go.Proofs.Ytmgoakfnmgngoaa
open Go.RowKit

theorem app1 {α : Type} (P R : List α) (k : Nat) : (P ++ R)[P.length + k]? = R[k]? := by
  rw [List.getElem?_append_right (by omega)]; congr 1; omega
/-- Two rows of one length have changed places. -/
theorem sw_list {P U M V Q ys : List Cl} (hl : U.length = V.length) (h : SwAt (P ++ (U ++ (M ++ (V ++ Q)))) P.length (P.length + U.length + M.length) U.length ys) : ys = P ++ (V ++ (M ++ (U ++ Q))) := by
  apply List.ext_getElem?
  intro p
  rw [h.2 p]
  by_cases h1 : p < P.length
  · rw [if_neg (by omega), if_neg (by omega), List.getElem?_append_left h1, List.getElem?_append_left h1]
  obtain ⟨k, rfl⟩ : ∃ k, p = P.length + k := ⟨p - P.length, by omega⟩
  rw [app1 P (V ++ (M ++ (U ++ Q))) k]
  by_cases h2 : k < U.length
  · have e : P.length + U.length + M.length + (P.length + k - P.length) = P.length + (U.length + (M.length + k)) := by omega
    have hk : k < V.length := by omega
    have c1 : P.length ≤ P.length + k ∧ P.length + k < P.length + U.length := by omega
    rw [if_pos c1, e, app1 P, app1 U, app1 M, List.getElem?_append_left hk, List.getElem?_append_left hk]
  rw [if_neg (by omega)]
  obtain ⟨k, rfl⟩ : ∃ k', k = U.length + k' := ⟨k - U.length, by omega⟩
  rw [show (V ++ (M ++ (U ++ Q)))[U.length + k]? = (M ++ (U ++ Q))[k]? by rw [hl, app1]]
  by_cases h3 : k < M.length
  · rw [if_neg (by omega), List.getElem?_append_left h3, app1, app1, List.getElem?_append_left h3]
  obtain ⟨k, rfl⟩ : ∃ k', k = M.length + k' := ⟨k - M.length, by omega⟩
  rw [app1 M (U ++ Q) k]
  by_cases h4 : k < U.length
  · have e : P.length + (P.length + (U.length + (M.length + k)) - (P.length + U.length + M.length)) = P.length + k := by omega
    have c1 : P.length + U.length + M.length ≤ P.length + (U.length + (M.length + k)) ∧ P.length + (U.length + (M.length + k)) < P.length + U.length + M.length + U.length := by omega
    rw [if_pos c1, e, app1 P, List.getElem?_append_left h4, List.getElem?_append_left h4]
  have c1 : ¬ (P.length + U.length + M.length ≤ P.length + (U.length + (M.length + k)) ∧ P.length + (U.length + (M.length + k)) < P.length + U.length + M.length + U.length) := by omega
  rw [if_neg c1, app1 P, app1 U, app1 M]
  obtain ⟨k, rfl⟩ : ∃ k', k = U.length + k' := ⟨k - U.length, by omega⟩
  rw [app1 U Q k, hl, app1]
/-- What a rotation leaves. -/
def rotL (xs : List Cl) (a m b : Nat) : List Cl := xs.take a ++ (seg xs m b ++ (seg xs a m ++ xs.drop b))
theorem seg_four {xs : List Cl} {a m b : Nat} (h1 : a ≤ m) (h2 : m ≤ b) (h3 : b ≤ xs.length) : xs = xs.take a ++ (seg xs a m ++ (seg xs m b ++ xs.drop b)) := by
  have e : xs.take b = xs.take a ++ (seg xs a m ++ seg xs m b) := by
    rw [← seg_split h1 h2 h3]
    unfold seg
    have := (List.take_append_drop a (xs.take b)).symm
    rwa [List.take_take, Nat.min_eq_left (by omega)] at this
  rw [← List.append_assoc (seg xs a m), ← List.append_assoc (xs.take a), ← e, List.take_append_drop]
/-- The state while rows are rotated: U and V are still to change places. -/
def RotSt (T : List Cl) (m i j : Nat) (cs : List Cl) : Prop := ∃ P U V Q : List Cl, U.length = i ∧ V.length = j ∧ P.length + i = m ∧ cs = P ++ (U ++ (V ++ Q)) ∧ T = P ++ (V ++ (U ++ Q))
theorem RotSt.more {T cs ys : List Cl} {m i j : Nat} (h : RotSt T m i j cs) (hij : j < i) (hs : SwAt cs (m - i) m j ys) : RotSt T m (i - j) j ys := by
  obtain ⟨P, U, V, Q, hu, hv, hp, rfl, rfl⟩ := h
  have hU : U = U.take j ++ U.drop j := (List.take_append_drop j U).symm
  have l1 : (U.take j).length = j := by rw [List.length_take]; omega
  have l2 : (U.drop j).length = i - j := by rw [List.length_drop]; omega
  have e : ys = P ++ (V ++ (U.drop j ++ (U.take j ++ Q))) := by
    refine sw_list (U := U.take j) (M := U.drop j) (by omega) ?_
    rw [l1, l2, show P.length = m - i by omega, show m - i + j + (i - j) = m by omega, ← List.append_assoc (U.take j), List.take_append_drop]
    exact hs
  refine ⟨P ++ V, U.drop j, U.take j, Q, l2, l1, by rw [List.length_append]; omega, by rw [e, List.append_assoc], ?_⟩
  rw [List.append_assoc, ← List.append_assoc (U.take j), List.take_append_drop]
theorem RotSt.less {T cs ys : List Cl} {m i j : Nat} (h : RotSt T m i j cs) (hij : i < j) (hs : SwAt cs (m - i) (m + j - i) i ys) : RotSt T m i (j - i) ys := by
  obtain ⟨P, U, V, Q, hu, hv, hp, rfl, rfl⟩ := h
  have l1 : (V.take (j - i)).length = j - i := by rw [List.length_take]; omega
  have l2 : (V.drop (j - i)).length = i := by rw [List.length_drop]; omega
  have e : ys = P ++ (V.drop (j - i) ++ (V.take (j - i) ++ (U ++ Q))) := by
    refine sw_list (U := U) (M := V.take (j - i)) (by omega) ?_
    rw [l1, hu, show P.length = m - i by omega, show m - i + i + (j - i) = m + j - i by omega, ← List.append_assoc (V.take (j - i)), List.take_append_drop]
    exact hs
  refine ⟨P, V.drop (j - i), V.take (j - i), U ++ Q, l2, l1, hp, e, ?_⟩
  rw [← List.append_assoc (V.take (j - i)), List.take_append_drop]
theorem RotSt.last {T cs ys : List Cl} {m i : Nat} (h : RotSt T m i i cs) (hs : SwAt cs (m - i) m i ys) : ys = T := by
  obtain ⟨P, U, V, Q, hu, hv, hp, rfl, rfl⟩ := h
  refine sw_list (M := []) (by omega) ?_
  rw [hu, show P.length = m - i by omega, List.length_nil, show m - i + i + 0 = m by omega]
  exact hs
theorem RotSt.len {T cs : List Cl} {m i j : Nat} (h : RotSt T m i j cs) : i ≤ m ∧ m + j ≤ cs.length := by
  obtain ⟨P, U, V, Q, hu, hv, hp, rfl, rfl⟩ := h
  simp only [List.length_append]
  omega
set_option maxRecDepth 100000 in
set_option maxHeartbeats 2000000 in
theorem rotate_any (base g cap n a m b : Nat) (xs : List Cl) (F : Value) (w : World) (hS : StW w base g n cap xs) (ham : a < m) (hmb : m < b) (hb : b ≤ n) (hn : n ≤ 100000000) :
    Calls Try.prog 113 #[.slice (some ⟨g, 0, none⟩) n cap, .int .i64 (a : Int), .int .i64 (m : Int), .int .i64 (b : Int), F] w fun e w' => e = .returned (.tuple #[]) ∧ StW w' base g n cap (rotL xs a m b) ∧ w.grownBy w' (some g) := by
  have hlen := hS.len
  have HS := Lib.hid hS
  have HR0 := Lib.hid (show RotSt (rotL xs a m b) m (m - a) (b - m) xs from ⟨xs.take a, seg xs a m, seg xs m b, xs.drop b, seg_len (by omega), seg_len (by omega), by rw [List.length_take]; omega, seg_four (by omega) (by omega) (by omega), rfl⟩)
  obtain ⟨T, hT⟩ : ∃ T, rotL xs a m b = T := ⟨_, rfl⟩
  rw [hT] at HR0 ⊢
  obtain ⟨i0, hi0⟩ : ∃ i0, m - a = i0 := ⟨_, rfl⟩
  obtain ⟨j0, hj0⟩ : ∃ j0, b - m = j0 := ⟨_, rfl⟩
  rw [hi0, hj0] at HR0
  have ii : (m : Int) - (a : Int) = (i0 : Int) := by omega
  have ij : (b : Int) - (m : Int) = (j0 : Int) := by omega
  have hip : 0 < i0 := by omega
  have hjp : 0 < j0 := by omega
  have hmn : m ≤ n := by omega
  clear hS hT hi0 hj0 hlen
  go_enter Try.func113, Try.ntmps113
  go_wp2_with fail
  clear ii ij
  go_loopw [10, 11] (fun x y ws => ∃ (i j : Nat) (cs : List Cl), x = .int .i64 (i : Int) ∧ y = .int .i64 (j : Int) ∧ 0 < i ∧ 0 < j ∧ RotSt T m i j cs ∧ StW ws base g n cap cs ∧ w.grownBy ws (some g)) (fun x y _ => (intOf x).toNat + (intOf y).toNat)
  case atStart => exact ⟨i0, j0, xs, rfl, rfl, hip, hjp, HR0.out, HS.out, World.grownBy.refl w _⟩
  case round =>
    clear HS HR0 hip hjp
    obtain ⟨i, j, cs, rfl, rfl, hi, hj, hr, hs, hg⟩ := hrel
    obtain ⟨l1, l2⟩ := hr.len
    rw [hs.len] at l2
    have HR := Lib.hid hr
    have HS := Lib.hid hs
    have HG := Lib.hid hg
    clear hr hs hg
    obtain ⟨p, hp⟩ : ∃ p, m - i = p := ⟨_, rfl⟩
    have ip : (m : Int) - (i : Int) = (p : Int) := by omega
    by_cases h1 : i = j
    · subst h1
      have HSW := Lib.hid (fun W (h : StW W base g n cap cs) => swapRange_any base g cap n p m i cs F W h (by omega) (by omega) hn)
      have HP := Lib.hid hp
      clear hp
      go_wp2_with fail
      refine (HSW.out _ HS.out).mono ?_
      rintro e w1 ⟨rfl, ys, hsw, hst, hgr⟩
      have HE := Lib.hid (HR.out.last (by rw [HP.out]; exact hsw))
      rw [HE.out] at hst
      have HST := Lib.hid hst
      have HGG := Lib.hid (grown2 HG.out hgr)
      clear hsw hst hgr
      go_wp2_with fail
      exact bodyPost_end (v := .tuple #[]) (by simp [results, go_sem]) rfl ⟨rfl, HST.out, HGG.out⟩
    · by_cases h2 : j < i
      · have HSW := Lib.hid (fun W (h : StW W base g n cap cs) => swapRange_any base g cap n p m j cs F W h (by omega) (by omega) hn)
        have HP := Lib.hid hp
        have hne : ((i : Int) == (j : Int)) = false := by simp; omega
        have hd : (i : Int) - (j : Int) = ((i - j : Nat) : Int) := by omega
        have HD := Lib.hid hd
        clear hp h1 hd
        go_wp2_with fail
        refine (HSW.out _ HS.out).mono ?_
        rintro e w1 ⟨rfl, ys, hsw, hst, hgr⟩
        have HE := Lib.hid (HR.out.more h2 (by rw [HP.out]; exact hsw))
        have HST := Lib.hid hst
        have HGG := Lib.hid (grown2 HG.out hgr)
        clear hsw hst hgr
        go_wp2_with fail
        go_roundw
        case rel => exact ⟨i - j, j, ys, by rw [HD.out], rfl, by omega, hj, HE.out, HST.out, HGG.out⟩
        case measure => simp [intOf]; omega
      · obtain ⟨q, hq⟩ : ∃ q, m + j - i = q := ⟨_, rfl⟩
        have iq : (m : Int) + (j : Int) - (i : Int) = (q : Int) := by omega
        have HSW := Lib.hid (fun W (h : StW W base g n cap cs) => swapRange_any base g cap n p q i cs F W h (by omega) (by omega) hn)
        have HP := Lib.hid hp
        have HQ := Lib.hid hq
        have hne : ((i : Int) == (j : Int)) = false := by simp; omega
        have hlt : i < j := by omega
        have hd : (j : Int) - (i : Int) = ((j - i : Nat) : Int) := by omega
        have HD := Lib.hid hd
        clear hp hq h1 hd
        go_wp2_with fail
        refine (HSW.out _ HS.out).mono ?_
        rintro e w1 ⟨rfl, ys, hsw, hst, hgr⟩
        have HE := Lib.hid (HR.out.less hlt (by rw [HP.out, HQ.out]; exact hsw))
        have HST := Lib.hid hst
        have HGG := Lib.hid (grown2 HG.out hgr)
        clear hsw hst hgr
        go_wp2_with fail
        go_roundw
        case rel => exact ⟨i, j - i, ys, rfl, by rw [HD.out], hi, by omega, HE.out, HST.out, HGG.out⟩
        case measure => simp [intOf]; omega
end Go.Proofs.Ytmgoakfnmgngoaa
/- cluster's Identity, walked. -/
namespace Go.Proofs.Ytmgoakfnmgngoaa
open Go.RowKit

set_option maxRecDepth 100000 in
set_option maxHeartbeats 1000000 in
theorem prIdentity_any (n : Nat) (w : World) (hn : n ≤ 1000000) :
    Calls Try.prog 21 #[.int .i64 (n : Int)] w fun e w' => ∃ v, e = .returned v ∧ w'.ownsRow w.heap.size 33 4 v n (cellsC (identS n)) ∧ Below w.heap.size w w' := by
  have HLN := Lib.hid (identS_len n)
  go_enter Try.func21, Try.ntmps21
  go_wp2_with (at_make; refine wpList_mkZ rfl _ _ _ rfl Try.underlying22 clusInfo (z0 := .int .i64 0) (by decide) (by intro j hj; match j, hj with | 0, _ => rfl | 1, _ => rfl | 2, _ => rfl | 3, _ => rfl) (base := w.heap.size) (kl := .i64) (kc := .i64) n n n rfl rfl rfl rfl (by omega) (by unfold maxLen; omega) (Nat.le_refl _) ?_; intro w1 hown hg1)
  have hb1 := below_make (w := w) (w' := w1) hg1
  have HO := Lib.hid (show w1.ownsRow w.heap.size 33 4 (.slice (some ⟨w.heap.size, 0, none⟩) n n) n (fillC (identS n) 0) by rw [fillC_start, HLN.out]; exact hown)
  clear hown hg1
  go_loopw [15] (fun i wr => ∃ k : Nat, k ≤ n ∧ i = .int .i64 (k : Int) ∧ wr.ownsRow w.heap.size 33 4 (.slice (some ⟨w.heap.size, 0, none⟩) n n) n (fillC (identS n) k) ∧ Below w.heap.size w wr) (fun i _ => n - (intOf i).toNat)
  case atStart => exact ⟨0, Nat.zero_le _, rfl, HO.out, hb1⟩
  case round =>
    obtain ⟨k, hk, rfl, hown, hbr⟩ := hrel
    clear HO hb1
    by_cases hlt : k < n
    · have HF := Lib.hid (fillC_step (l := identS n) (k := k) (s := (((k : Int), (k : Int) + 1), ((k : Int), (k : Int) + 1))) (by unfold identS; rw [List.getElem?_map, List.getElem?_range hlt]; rfl))
      have ha := hown.alloc (.cells #[.int .i64 (k : Int), .int .i64 ((k : Int) + 1)] 31)
      obtain ⟨⟨u0, x0⟩, z0⟩ := own_slot ha (j := k * 4) (by omega)
      obtain ⟨⟨u1, x1⟩, z1⟩ := own_slot ha (j := k * 4 + 1) (by omega)
      obtain ⟨⟨u2, x2⟩, z2⟩ := own_slot ha (j := k * 4 + 2) (by omega)
      obtain ⟨⟨u3, x3⟩, z3⟩ := own_slot ha (j := k * 4 + 3) (by omega)
      have HS := Lib.hid (own_store4 ha (k * 4) (.int .i64 (k : Int)) (.int .i64 ((k : Int) + 1)) (.int .i64 (k : Int)) (.int .i64 ((k : Int) + 1)))
      have hbe := ((((hbr.alloc hbr.size (.cells #[.int .i64 (k : Int), .int .i64 ((k : Int) + 1)] 31)).setCell (p := ⟨w.heap.size, k * 4, none⟩) (Nat.le_refl _) (.int .i64 (k : Int))).setCell (p := ⟨w.heap.size, k * 4 + 1, none⟩) (Nat.le_refl _) (.int .i64 ((k : Int) + 1))).setCell (p := ⟨w.heap.size, k * 4 + 2, none⟩) (Nat.le_refl _) (.int .i64 (k : Int))).setCell (p := ⟨w.heap.size, k * 4 + 3, none⟩) (Nat.le_refl _) (.int .i64 ((k : Int) + 1))
      clear hown ha
      go_wp2_with fail
      go_roundw
      case rel => exact ⟨k + 1, by omega, by go_num, by rw [← HF.out]; exact HS.out, hbe⟩
      case measure => simp [intOf]; omega
    · have hkn : k = n := by omega
      have HK := Lib.hid hkn
      clear hkn
      go_wp2_with fail
      go_ret
      exact ⟨_, rfl, by have h9 := fillC_end (identS n); rw [HLN.out] at h9; rw [HK.out, h9] at hown; exact hown, hbr⟩
end Go.Proofs.Ytmgoakfnmgngoaa
/- The slice type of spans. -/
namespace Go.Proofs.Ytmgoakfnmgngoaa
open Go.RowKit
theorem spanSlice : SliceOf Try.prog 55 31 2 16 := .mk_ (z := .agg #[.int .i64 0, .int .i64 0]) Try.underlying55 (by kernel_rfl) rfl
end Go.Proofs.Ytmgoakfnmgngoaa
/- The reference's linked: which places of what goes in are in a link. -/
namespace Go.Proofs.Ytmgoakfnmgngoaa
open Go.RowKit

/-- All from lo on, below k, is true. -/
def fillB (xs : List Bool) (lo k : Nat) : List Bool := xs.take lo ++ List.replicate (k - lo) true ++ xs.drop k
theorem fillB_len {xs : List Bool} {lo k : Nat} (h : lo ≤ k) (hk : k ≤ xs.length) : (fillB xs lo k).length = xs.length := by
  simp [fillB]; omega
theorem fillB_start (xs : List Bool) (lo : Nat) : fillB xs lo lo = xs := by simp [fillB]
theorem fillB_step {xs : List Bool} {lo k : Nat} (h : lo ≤ k) (hk : k < xs.length) : (fillB xs lo k).set k true = fillB xs lo (k + 1) := by
  obtain ⟨x, hx⟩ : ∃ x, xs[k]? = some x := ⟨_, List.getElem?_eq_getElem hk⟩
  have hl : (xs.take lo ++ List.replicate (k - lo) true).length = k := by simp; omega
  unfold fillB
  rw [List.set_append_right _ _ (by omega), hl, dropCons hx]
  have e : k + 1 - lo = (k - lo) + 1 := by omega
  rw [e, List.replicate_succ']
  simp
def linkStep (out : List Bool) (c : Cl) : List Bool := fillB out c.1.1.toNat c.1.2.toNat
def linkedS (n : Nat) (l : List Cl) : List Bool := l.foldl linkStep (List.replicate n false)

set_option maxRecDepth 100000 in
set_option maxHeartbeats 2000000 in
theorem refLinked_any (A : Option Addr) (n m c : Nat) (l : List Cl) (w : World) (hr : Rd w 4 A m (cellsC l)) (hm : m ≤ 200000000) (hn : n ≤ 100000000) (hin : ∀ x ∈ l, ∃ lo hi : Nat, x.1 = ((lo : Int), (hi : Int)) ∧ lo ≤ hi ∧ hi ≤ n) :
    Calls Try.prog 52 #[.int .i64 (n : Int), .slice A m c] w fun e w' => ∃ v, e = .returned v ∧ w'.ownsRow w.heap.size 4 1 v n ((linkedS n l).map Value.bool) ∧ Below w.heap.size w w' := by
  have hlen : l.length = m := by have := hr.1; rw [cellsC_len] at this; omega
  have HL := Lib.hid hlen
  clear hlen
  go_enter Try.func52, Try.ntmps52
  go_wp2_with (at_make; refine wpList_mkFull rfl _ _ _ rfl (base := w.heap.size) (z := .bool false) (bytes := 1) Try.underlying77 (by kernel_rfl) rfl _ _ n rfl rfl rfl rfl (by omega) (by unfold maxLen; omega) (Nat.le_refl _) ?_; intro w0 hown0 hg0)
  have hb0 : Below w.heap.size w w0 := (Below.refl _ _).grown hg0 (Nat.le_refl _) (fun k h => by cases h)
  go_loopw [6] (fun i wr => ∃ (k : Nat) (xs : List Bool), k ≤ m ∧ i = .int .i64 k ∧ linkedS n l = (l.drop k).foldl linkStep xs ∧ xs.length = n ∧ wr.ownsRow w.heap.size 4 1 (.slice (some ⟨w.heap.size, 0, none⟩) n n) n (xs.map Value.bool) ∧ Below w.heap.size w wr) (fun i _ => m - (intOf i).toNat)
  case atStart =>
    exact ⟨0, List.replicate n false, Nat.zero_le _, rfl, rfl, by simp, by rw [List.map_replicate]; exact hown0, hb0⟩
  case round =>
    obtain ⟨k, xs, hk, rfl, hh, hxl, hown, hb⟩ := hrel
    have HH := Lib.hid hh
    have HX := Lib.hid hxl
    clear hh hxl hown0 hg0 hb0
    by_cases hlt : k < m
    · obtain ⟨s, hsk⟩ : ∃ s, l[k]? = some s := ⟨_, List.getElem?_eq_getElem (by rw [HL.out]; exact hlt)⟩
      have HD := Lib.hid (dropCons hsk)
      obtain ⟨lo, hi, hs, hlh, hhn⟩ := hin s (List.mem_of_getElem? hsk)
      obtain ⟨ad, rfl, hab, c1, c2, c3, c4⟩ := hr.clus hsk
      clear hsk c3 c4
      obtain ⟨⟨s1, s2⟩, s3, s4⟩ := s
      injection hs with e1 e2
      subst e1 e2
      simp only at c1 c2
      have c1' := (hb.cell (by rw [blockAdd]; exact hab)).trans c1
      have c2' := (hb.cell (p := ⟨(ad.add (k * 4)).block, (ad.add (k * 4)).off + 1, none⟩) (by show (ad.add (k * 4)).block < _; rw [blockAdd]; exact hab)).trans c2
      go_wp2
      go_loopw [7] (fun i ws => ∃ j : Nat, lo ≤ j ∧ j ≤ hi ∧ i = .int .i64 j ∧ ws.ownsRow w.heap.size 4 1 (.slice (some ⟨w.heap.size, 0, none⟩) n n) n ((fillB xs lo j).map Value.bool) ∧ Below w.heap.size w ws) (fun i _ => hi - (intOf i).toNat)
      case atStart => exact ⟨lo, Nat.le_refl _, hlh, rfl, by rw [fillB_start]; exact hown, hb⟩
      case round =>
        obtain ⟨j, hlj, hjh, rfl, hownr, hbr⟩ := hrel
        clear c1' c2'
        have d2 := (hbr.cell (p := ⟨(ad.add (k * 4)).block, (ad.add (k * 4)).off + 1, none⟩) (by show (ad.add (k * 4)).block < _; rw [blockAdd]; exact hab)).trans c2
        by_cases hjt : j < hi
        · have HS := Lib.hid (fillB_step (xs := xs) hlj (by rw [HX.out]; omega))
          have hfx := hownr.frozenAt j
          obtain ⟨bj, hbj⟩ : ∃ bj, wr.cell? ⟨w.heap.size, j, none⟩ = some bj := ⟨_, by rw [hownr.cellAt j (by omega)]; exact List.getElem?_eq_getElem (by rw [List.length_map, fillB_len hlj (by rw [HX.out]; omega), HX.out]; omega)⟩
          have hst := hownr.stored j (.bool true)
          rw [← List.map_set] at hst
          have HST := Lib.hid hst
          have hbe := hbr.setCell (p := ⟨w.heap.size, j, none⟩) (Nat.le_refl _) (.bool true)
          clear hst
          go_wp2
          go_roundw
          case rel => exact ⟨j + 1, by omega, by omega, by go_num, by rw [← HS.out]; exact HST.out.1, hbe⟩
          case measure => simp [intOf]; omega
        · have HJ := Lib.hid (show j = hi by omega)
          have hle : (fillB xs lo hi).length = n := by rw [fillB_len hlh (by rw [HX.out]; exact hhn), HX.out]
          have HE := Lib.hid hle
          clear hle
          go_wp2
          go_roundw
          case rel => exact ⟨k + 1, fillB xs lo hi, by omega, by go_num, by rw [HH.out, HD.out]; rfl, HE.out, by rw [← HJ.out]; exact hownr, hbr⟩
          case measure => simp [intOf]; omega
    · have HZ := Lib.hid (show linkedS n l = xs by rw [HH.out, List.drop_eq_nil_of_le (by rw [HL.out]; omega)]; rfl)
      go_wp2
      go_ret
      exact ⟨_, rfl, by rw [HZ.out]; exact hown, hb⟩
end Go.Proofs.Ytmgoakfnmgngoaa
/- The reference's ahead: joins the places ahead of all that are in a link to the next one. -/
namespace Go.Proofs.Ytmgoakfnmgngoaa
open Go.RowKit

def aheadFrom : List Bool → Nat → List Cl
  | [], _ => []
  | true :: _, k => if 0 < k then [((0, (k : Int) + 1), (0, 0))] else []
  | false :: l, k => aheadFrom l (k + 1)
def aheadS (l : List Bool) : List Cl := aheadFrom l 0

def AheadGives (l : List Bool) (w : World) (e : Ending) (w' : World) : Prop := ∃ A' n' c', e = .returned (.slice A' n' c') ∧ n' ≤ 1 ∧ Rd w' 4 A' n' (cellsC (aheadS l)) ∧ Below w.heap.size w w'

set_option maxRecDepth 100000 in
set_option maxHeartbeats 1000000 in
theorem refAhead_any (A : Option Addr) (n c : Nat) (l : List Bool) (w : World) (hr : Rd w 1 A n (l.map Value.bool)) (hn : n ≤ 100000000) :
    Calls Try.prog 53 #[.slice A n c] w (AheadGives l w) := by
  have hlen : l.length = n := by have := hr.1; rw [List.length_map] at this; omega
  have HL := Lib.hid hlen
  clear hlen
  go_enter Try.func53, Try.ntmps53
  go_wp2
  go_loop [3] (fun i => ∃ k : Nat, k ≤ n ∧ i = .int .i64 k ∧ aheadS l = aheadFrom (l.drop k) k) (fun i => n - (intOf i).toNat)
  case atStart => exact ⟨0, Nat.zero_le _, rfl, rfl⟩
  case round =>
    obtain ⟨k, hk, rfl, hh⟩ := hrel
    have HH := Lib.hid hh
    clear hh
    by_cases hlt : k < n
    · obtain ⟨x, hxk⟩ : ∃ x, l[k]? = some x := ⟨_, List.getElem?_eq_getElem (by rw [HL.out]; exact hlt)⟩
      have HD := Lib.hid (dropCons hxk)
      obtain ⟨ad, rfl, hab, hck⟩ := hr.at_ hlt
      have ck := hck (.bool x) (by rw [List.getElem?_map, hxk]; rfl)
      clear hxk hck
      cases x with
      | false =>
        go_wp2
        go_round
        case rel => exact ⟨k + 1, by omega, by go_num, by rw [HH.out, HD.out]; rfl⟩
        case measure => simp [intOf]; omega
      | true =>
        by_cases h0 : 0 < k
        · have HZ := Lib.hid (show aheadS l = [((0, (k : Int) + 1), (0, 0))] by rw [HH.out, HD.out]; exact if_pos h0)
          go_wp2
          go_ret
          exact ⟨_, _, _, rfl, Nat.le_refl _, by rw [HZ.out]; exact ⟨rfl, fun _ => ⟨_, rfl, by simp, cells_new w [.int .i64 0, .int .i64 ((k : Int) + 1), .int .i64 0, .int .i64 0] _⟩⟩, below_new w _⟩
        · have HZ := Lib.hid (show aheadS l = [] by rw [HH.out, HD.out]; exact if_neg h0)
          go_wp2
          go_ret
          exact ⟨_, _, _, rfl, by omega, by rw [HZ.out]; exact Rd.nil_, Below.refl _ _⟩
    · have HZ := Lib.hid (show aheadS l = [] by rw [HH.out, List.drop_eq_nil_of_le (by rw [HL.out]; omega)]; rfl)
      go_wp2
      go_ret
      exact ⟨_, _, _, rfl, by omega, by rw [HZ.out]; exact Rd.nil_, Below.refl _ _⟩
end Go.Proofs.Ytmgoakfnmgngoaa
/- refRight_any. -/
namespace Go.Proofs.Ytmgoakfnmgngoaa
open Go.RowKit

theorem refRight_any (lo hi : Int) (w : World) :
    Calls Try.prog 80 #[.agg #[.int .i64 lo, .int .i64 hi]] w fun e w' => e = .returned (.bool (rightB (lo, hi))) ∧ Below w.heap.size w w' := by
  have hc : lo < 0 ∨ (0 ≤ lo ∧ lo < hi) ∨ (0 ≤ lo ∧ hi ≤ lo) := by omega
  rcases hc with h | ⟨h, h'⟩ | ⟨h, h'⟩ <;>
    (go_enter Try.func80, Try.ntmps80
     go_wp2
     go_ret
     refine ⟨retB ?_, below_new _ _⟩
     simp [rightB]
     try omega)

end Go.Proofs.Ytmgoakfnmgngoaa
/- Blocks of memory by their cells: what lies in one, what a store leaves of others. -/
namespace Go.Proofs.Ytmgoakfnmgngoaa
open Go.RowKit

def intsZ (l : List Int) : List Value := l.map (Value.int .i64)
theorem intsZ_set (l : List Int) (i : Nat) (x : Int) : intsZ (l.set i x) = (intsZ l).set i (.int .i64 x) := by simp [intsZ, List.map_set]
theorem hp_lt {w : World} {g : Nat} {o : Obj} (h : w.heap[g]? = some o) : g < w.heap.size := by
  by_cases c : g < w.heap.size
  · exact c
  · rw [Array.getElem?_eq_none (by omega)] at h; exact absurd h (by simp)
theorem hp_cell {w : World} {g : Nat} {cs : Array Value} {t : TypeId} (h : w.heap[g]? = some (.cells cs t (0, 0))) {j : Nat} {v : Value} (hj : cs[j]? = some v) : w.cell? ⟨g, j, none⟩ = some v := by
  unfold World.cell?
  rw [show w.heap[(⟨g, j, none⟩ : Addr).block]? = _ from h]
  simpa using hj
theorem hp_froz {w : World} {g : Nat} {cs : Array Value} {t : TypeId} (h : w.heap[g]? = some (.cells cs t (0, 0))) (j : Nat) : w.frozen? ⟨g, j, none⟩ = false := by
  unfold World.frozen?
  rw [show w.heap[(⟨g, j, none⟩ : Addr).block]? = _ from h]
  rfl
theorem hp_far {w : World} {g k : Nat} (h : k ≠ g) (j : Nat) (u : Value) : (w.setCell ⟨g, j, none⟩ u).heap[k]? = w.heap[k]? := Below.heap_setCell w ⟨g, j, none⟩ u k h
theorem hp_row {w : World} {g : Nat} {l : List Int} {t : TypeId} (h : w.heap[g]? = some (.cells (intsZ l).toArray t (0, 0))) (i : Nat) (x : Int) : (w.setCell ⟨g, i, none⟩ (.int .i64 x)).heap[g]? = some (.cells (intsZ (l.set i x)).toArray t (0, 0)) := by
  rw [heap_setCell_same w g i _ t _ h]
  congr 2
  rw [intsZ_set, List.setIfInBounds_toArray]
theorem Rd.belowS {w w' : World} {size n s : Nat} {A : Option Addr} {xs : List Value} (h : Rd w size A n xs) (hA : 0 < n → ∀ ad, A = some ad → ad.block < s) (hb : Below s w w') : Rd w' size A n xs :=
  ⟨h.1, fun hn => by
    obtain ⟨ad, e, hlt, hc⟩ := h.2 hn
    exact ⟨ad, e, Nat.lt_of_lt_of_le hlt hb.size, fun j u hu => (hb.cell (by rw [blockAdd]; exact hA hn ad e)).trans (hc j u hu)⟩⟩
end Go.Proofs.Ytmgoakfnmgngoaa
/- make of ints, as a run. -/
namespace Go.Proofs.Ytmgoakfnmgngoaa
open Go.RowKit
theorem mk_intsZ (n : Nat) (hn : n ≤ 100000000) (w : World) : (Instr.makeSlice 46 (.int .i64 (n : Int)) (.int .i64 (n : Int))).run Try.prog w = .ok (.slice (some ⟨w.heap.size, 0, none⟩) n n) (w.alloc (.cells (intsZ (List.replicate n 0)).toArray 3)) := by
  have hin : (Try.prog.info? 3).map (fun i => (i.zero, i.size, i.bytes)) = some (some (.int .i64 0), 1, 8) := by kernel_rfl
  obtain ⟨i, h1, h2, h3, h4⟩ := info_parts hin
  have h := run_make (P := Try.prog) w 46 3 i (.int .i64 0) Try.underlying46 h1 h2 .i64 .i64 n n (by omega) (Int.le_refl _) (by rw [h4]; omega) (by omega)
  rw [h3] at h
  simp only [Int.toNat_natCast, Nat.mul_one] at h
  rw [h]
  refine congrArg (fun c => Result.ok _ (w.alloc (.cells c _))) ?_
  apply Array.toList_inj.1
  rw [show (Value.int .i64 0).cells = #[.int .i64 0] from rfl, toList_madeCells_one]
  simp [intsZ]
end Go.Proofs.Ytmgoakfnmgngoaa
