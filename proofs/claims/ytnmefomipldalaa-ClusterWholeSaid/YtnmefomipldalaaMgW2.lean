/- Texts of one claim, one behind the other. -/
import Derived.Laws.StructEq
import Derived.Test.YtnmefomipldalaaMgW1
/- cmp.Compare at int. -/
namespace Go.Proofs.Ytnmefomipldalaa
open Go.RowKit

def cmpI (x y : Int) : Int := if x < y then -1 else if y < x then 1 else 0
set_option maxHeartbeats 1000000 in
theorem nanI_any (x : Int) (w : World) : Calls Try.prog 87 #[.int .i64 x] w fun e w' => e = .returned (.bool false) ∧ w = w' := by
  have h : (x != x) = false := by simp
  go_enter Try.func87, Try.ntmps87
  go_wp2
  go_ret
  exact ⟨by simp, rfl⟩
set_option maxHeartbeats 1000000 in
theorem cmpI_any (x y : Int) (w : World) : Calls Try.prog 62 #[.int .i64 x, .int .i64 y] w fun e w' => e = .returned (.int .i64 (cmpI x y)) ∧ w = w' := by
  have hc : x < y ∨ (¬ x < y ∧ y < x) ∨ (¬ x < y ∧ ¬ y < x) := by omega
  rcases hc with h | ⟨h, h'⟩ | ⟨h, h'⟩
  · have HE := Lib.hid (show cmpI x y = -1 from if_pos h)
    go_enter Try.func62, Try.ntmps62
    go_wp2_with (go_at_call 87; refine (nanI_any _ _).mono ?_; rintro e w' ⟨rfl, rfl⟩)
    go_ret
    exact ⟨retI HE.out.symm, rfl⟩
  · have HE := Lib.hid (show cmpI x y = 1 by unfold cmpI; rw [if_neg h, if_pos h'])
    go_enter Try.func62, Try.ntmps62
    go_wp2_with (go_at_call 87; refine (nanI_any _ _).mono ?_; rintro e w' ⟨rfl, rfl⟩)
    go_ret
    exact ⟨retI HE.out.symm, rfl⟩
  · have HE := Lib.hid (show cmpI x y = 0 by unfold cmpI; rw [if_neg h, if_neg h'])
    go_enter Try.func62, Try.ntmps62
    go_wp2_with (go_at_call 87; refine (nanI_any _ _).mono ?_; rintro e w' ⟨rfl, rfl⟩)
    go_ret
    exact ⟨retI HE.out.symm, rfl⟩
end Go.Proofs.Ytnmefomipldalaa
/- Whether spans are parts, as plain mathematics. -/
namespace Go.Proofs.Ytnmefomipldalaa
open Go.RowKit
/-- Whether spans are parts from 'end_' on to n. -/
def partsFrom : Int → List Sp → Int → Bool
  | e, [], n => e == n
  | e, s :: l, n => rightB s && (s.1 == e) && partsFrom s.2 l n
def partsS (l : List Sp) (n : Int) : Bool := partsFrom 0 l n
theorem partsFrom_no {e n : Int} {l : List Sp} {s : Sp} (h : rightB s = false ∨ (s.1 == e) = false) : partsFrom e (s :: l) n = false := by
  unfold partsFrom
  rcases h with h | h <;> simp [h]
theorem partsFrom_yes {e n : Int} {l : List Sp} {s : Sp} (h : rightB s = true) (h' : (s.1 == e) = true) : partsFrom e (s :: l) n = partsFrom s.2 l n := by
  show (rightB s && (s.1 == e) && partsFrom s.2 l n) = _
  rw [h, h']; rfl
theorem dropCons {α : Type} {l : List α} {k : Nat} {x : α} (h : l[k]? = some x) : l.drop k = x :: l.drop (k + 1) := by
  obtain ⟨hk, rfl⟩ := List.getElem?_eq_some_iff.1 h
  exact List.drop_eq_getElem_cons hk
end Go.Proofs.Ytnmefomipldalaa
/- Spans put in order by their Lo, as plain mathematics: put in one by one; which order does not matter where they are parts. -/
namespace Go.Proofs.Ytnmefomipldalaa

def LoSorted (l : List Sp) : Prop := l.Pairwise fun a b => a.1 ≤ b.1
def insLo (acc : List Sp) (s : Sp) : List Sp := acc.takeWhile (fun t => decide (t.1 ≤ s.1)) ++ s :: acc.dropWhile (fun t => decide (t.1 ≤ s.1))
def sortR (l : List Sp) : List Sp := l.foldl insLo []
theorem insLo_at {acc : List Sp} {s : Sp} {j : Nat} (h1 : ∀ t ∈ acc.take j, t.1 ≤ s.1) (h2 : j = acc.length ∨ ∃ t, acc[j]? = some t ∧ ¬ t.1 ≤ s.1) : insLo acc s = acc.take j ++ s :: acc.drop j := by
  induction acc generalizing j with
  | nil => simp [insLo]
  | cons a acc ih =>
    cases j with
    | zero =>
      rcases h2 with h2 | ⟨t, ht, hn⟩
      · simp at h2
      · simp at ht
        subst ht
        have hd : decide (a.1 ≤ s.1) = false := decide_eq_false hn
        simp [insLo, List.takeWhile, List.dropWhile, hd]
    | succ j =>
      have ha := h1 a (by simp)
      have hd : decide (a.1 ≤ s.1) = true := decide_eq_true ha
      have := ih (j := j) (fun t ht => h1 t (by simp [ht])) (by
        rcases h2 with h2 | ⟨t, ht, hn⟩
        · exact .inl (by simpa using h2)
        · exact .inr ⟨t, by simpa using ht, hn⟩)
      unfold insLo at this ⊢
      simp only [List.takeWhile, List.dropWhile, hd, List.take_succ_cons, List.drop_succ_cons, List.cons_append]
      rw [this]
theorem insLo_len (acc : List Sp) (s : Sp) : (insLo acc s).length = acc.length + 1 := by
  have := congrArg List.length (List.takeWhile_append_dropWhile (p := fun t : Sp => decide (t.1 ≤ s.1)) (l := acc))
  rw [List.length_append] at this
  unfold insLo
  rw [List.length_append, List.length_cons]
  omega
theorem insLo_perm (acc : List Sp) (s : Sp) : (insLo acc s).Perm (s :: acc) := by
  unfold insLo
  refine List.perm_middle.trans ?_
  rw [List.takeWhile_append_dropWhile]
theorem insLo_sorted {acc : List Sp} (s : Sp) (h : LoSorted acc) : LoSorted (insLo acc s) := by
  unfold LoSorted at *
  induction acc with
  | nil => simp [insLo]
  | cons a acc ih =>
    rw [List.pairwise_cons] at h
    by_cases ha : a.1 ≤ s.1
    · have hd : decide (a.1 ≤ s.1) = true := decide_eq_true ha
      have e : insLo (a :: acc) s = a :: insLo acc s := by simp [insLo, List.takeWhile, List.dropWhile, hd]
      rw [e, List.pairwise_cons]
      refine ⟨fun b hb => ?_, ih h.2⟩
      have := (insLo_perm acc s).mem_iff.1 hb
      simp at this
      rcases this with rfl | hb'
      · exact ha
      · exact h.1 b hb'
    · have hd : decide (a.1 ≤ s.1) = false := decide_eq_false ha
      have e : insLo (a :: acc) s = s :: a :: acc := by simp [insLo, List.takeWhile, List.dropWhile, hd]
      rw [e, List.pairwise_cons, List.pairwise_cons]
      refine ⟨fun b hb => ?_, h.1, h.2⟩
      simp at hb
      rcases hb with rfl | hb'
      · omega
      · have := h.1 b hb'
        omega
theorem sortR_snoc (l : List Sp) (s : Sp) : sortR (l ++ [s]) = insLo (sortR l) s := by simp [sortR]
theorem sortR_len (l : List Sp) : (sortR l).length = l.length := by
  rw [← List.reverse_reverse l]
  induction l.reverse with
  | nil => rfl
  | cons a t ih => rw [List.reverse_cons, sortR_snoc, insLo_len, ih]; simp
theorem foldIns_perm (l : List Sp) : ∀ acc, (l.foldl insLo acc).Perm (l ++ acc) := by
  induction l with
  | nil => intro acc; exact List.Perm.refl _
  | cons s l ih =>
    intro acc
    refine (ih (insLo acc s)).trans ?_
    refine (List.Perm.append_left l (insLo_perm acc s)).trans ?_
    exact List.perm_middle
theorem sortR_perm (l : List Sp) : (sortR l).Perm l := by
  have := foldIns_perm l []
  rwa [List.append_nil] at this
theorem foldIns_sorted (l : List Sp) : ∀ acc, LoSorted acc → LoSorted (l.foldl insLo acc) := by
  induction l with
  | nil => intro acc h; exact h
  | cons s l ih => intro acc h; exact ih _ (insLo_sorted s h)
theorem sortR_sorted (l : List Sp) : LoSorted (sortR l) := foldIns_sorted l [] List.Pairwise.nil

theorem parts_rise {e n : Int} {l : List Sp} (h : partsFrom e l n = true) : (∀ s ∈ l, e ≤ s.1) ∧ l.Pairwise fun a b => a.1 < b.1 := by
  induction l generalizing e with
  | nil => simp
  | cons s l ih =>
    cases hr : rightB s with
    | false => rw [partsFrom_no (.inl hr)] at h; cases h
    | true =>
      cases he : (s.1 == e) with
      | false => rw [partsFrom_no (.inr he)] at h; cases h
      | true =>
        rw [partsFrom_yes hr he] at h
        have hs := of_decide_eq_true hr
        have he' : s.1 = e := by simpa using he
        obtain ⟨h1, h2⟩ := ih h
        refine ⟨fun t ht => ?_, List.pairwise_cons.2 ⟨fun t ht => ?_, h2⟩⟩
        · simp at ht
          rcases ht with rfl | ht
          · omega
          · have := h1 t ht
            omega
        · have := h1 t ht
          omega
theorem perm_sorted_eq {l l' : List Sp} (hp : l'.Perm l) (h : l.Pairwise fun a b => a.1 < b.1) (h' : LoSorted l') : l' = l := by
  induction l generalizing l' with
  | nil => exact List.Perm.eq_nil hp
  | cons a l ih =>
    cases l' with
    | nil => exact absurd hp.length_eq (by simp)
    | cons b l' =>
      rw [List.pairwise_cons] at h
      unfold LoSorted at h'
      rw [List.pairwise_cons] at h'
      have hb : b ∈ a :: l := hp.mem_iff.1 (by simp)
      have ha : a ∈ b :: l' := hp.mem_iff.2 (by simp)
      have hab : b = a := by
        simp at hb ha
        rcases hb with rfl | hb
        · rfl
        · rcases ha with rfl | ha
          · rfl
          · have := h.1 b hb
            have := h'.1 a ha
            omega
      subst hab
      rw [ih (List.Perm.cons_inv hp) h.2 h'.2]
theorem parts_perm {l l' : List Sp} (hp : l'.Perm l) (h : LoSorted l) (h' : LoSorted l') (m : Int) : partsS l' m = partsS l m := by
  cases h1 : partsS l m with
  | true => rw [perm_sorted_eq hp (parts_rise h1).2 h', h1]
  | false =>
    cases h2 : partsS l' m with
    | false => rfl
    | true =>
      rw [perm_sorted_eq hp.symm (parts_rise h2).2 h, h2] at h1
      cases h1
/-- Whether clusters are a map. -/
def checkC (l : List (Sp × Sp)) (n m : Int) : Bool := partsS (l.map Prod.fst) n && partsS (sortR (l.map Prod.snd)) m
end Go.Proofs.Ytnmefomipldalaa
/- prRight_any. -/
namespace Go.Proofs.Ytnmefomipldalaa
open Go.RowKit

theorem prRight_any (lo hi : Int) (w : World) :
    Calls Try.prog 69 #[.agg #[.int .i64 lo, .int .i64 hi]] w fun e w' => e = .returned (.bool (rightB (lo, hi))) ∧ Below w.heap.size w w' := by
  have hc : lo < 0 ∨ (0 ≤ lo ∧ lo < hi) ∨ (0 ≤ lo ∧ hi ≤ lo) := by omega
  rcases hc with h | ⟨h, h'⟩ | ⟨h, h'⟩ <;>
    (go_enter Try.func69, Try.ntmps69
     go_wp2
     go_ret
     refine ⟨retB ?_, below_new _ _⟩
     simp [rightB]
     try omega)

end Go.Proofs.Ytnmefomipldalaa
/- The project's Parts of spans. -/
namespace Go.Proofs.Ytnmefomipldalaa
open Go.RowKit

set_option maxRecDepth 100000 in
set_option maxHeartbeats 1000000 in
theorem prParts_any (A : Option Addr) (n c : Nat) (l : List Sp) (m : Int) (w : World) (hr : Rd w 2 A n (cellsS l)) (hn : n ≤ maxLen) :
    Calls Try.prog 42 #[.slice A n c, .int .i64 m] w fun e w' => e = .returned (.bool (partsS l m)) ∧ Below w.heap.size w w' := by
  have hlen : l.length = n := by have := hr.1; rw [cellsS_len] at this; omega
  have HL := Lib.hid hlen
  clear hlen
  unfold maxLen at hn
  go_enter Try.func42, Try.ntmps42
  go_wp2
  go_loopw [5, 10] (fun e i wr => ∃ (k : Nat) (x : Int), k ≤ n ∧ i = .int .i64 k ∧ e = .int .i64 x ∧ partsS l m = partsFrom x (l.drop k) m ∧ Below w.heap.size w wr) (fun _ i _ => n - (intOf i).toNat)
  case atStart => exact ⟨0, 0, Nat.zero_le _, rfl, rfl, rfl, Below.refl _ _⟩
  case round =>
    obtain ⟨k, x, hk, rfl, rfl, hp, hb⟩ := hrel
    have HP := Lib.hid hp
    clear hp
    by_cases hlt : k < n
    · obtain ⟨s, hsk⟩ : ∃ s, l[k]? = some s := ⟨_, List.getElem?_eq_getElem (by rw [HL.out]; exact hlt)⟩
      obtain ⟨ad, rfl, hab, c1, c2⟩ := (hr.below hb).span hsk
      have HD := Lib.hid (dropCons hsk)
      clear hsk
      obtain ⟨lo, hi⟩ := s
      simp only at c1 c2
      go_wp2_with fail
      refine (prRight_any lo hi _).mono ?_
      rintro e w1 ⟨rfl, hb1⟩
      have hb2 := hb.trans ((below_self (below_new wr _) hb1).mono hb.size)
      have d1 : w1.cell? ⟨wr.heap.size, 0, none⟩ = some (.int .i64 lo) := cell_below hb1 (by rw [World.cell?_alloc_at _ _ _ _ rfl]; rfl)
      have d2 : w1.cell? ⟨wr.heap.size, 1, none⟩ = some (.int .i64 hi) := cell_below hb1 (by rw [World.cell?_alloc_at _ _ _ _ rfl]; rfl)
      clear hb1 c1 c2
      cases hr1 : rightB (lo, hi) with
      | false =>
        have HF := Lib.hid (show partsS l m = false by rw [HP.out, HD.out]; exact partsFrom_no (.inl hr1))
        go_wp2
        go_ret
        exact ⟨retB (by simp [HF.out]), hb2⟩
      | true =>
        cases he : (lo == x) with
        | false =>
          have hne : (lo != x) = true := by simpa using he
          have HF := Lib.hid (show partsS l m = false by rw [HP.out, HD.out]; exact partsFrom_no (.inr he))
          go_wp2
          go_ret
          exact ⟨retB (by simp [HF.out]), hb2⟩
        | true =>
          have hne : (lo != x) = false := by simpa using he
          have HF := Lib.hid (show partsS l m = partsFrom hi (l.drop (k + 1)) m by rw [HP.out, HD.out]; exact partsFrom_yes hr1 he)
          go_wp2
          go_roundw
          case rel => exact ⟨k + 1, hi, by omega, by go_num, rfl, HF.out, hb2⟩
          case measure => simp [intOf]; omega
    · have HF := Lib.hid (show partsS l m = (x == m) by rw [HP.out, List.drop_eq_nil_of_le (by rw [HL.out]; omega)]; rfl)
      go_wp2
      go_ret
      exact ⟨retB (by simp [HF.out]), hb⟩
end Go.Proofs.Ytnmefomipldalaa
/- Clusters: cells of a slice of clusters; the reference's Identity, and where clusters end on either side. -/
namespace Go.Proofs.Ytnmefomipldalaa
open Go.RowKit

def identS (n : Nat) : List Cl := (List.range n).map fun i : Nat => (((i : Int), (i : Int) + 1), ((i : Int), (i : Int) + 1))
theorem identS_succ (k : Nat) : identS (k + 1) = identS k ++ [(((k : Int), (k : Int) + 1), ((k : Int), (k : Int) + 1))] := by simp [identS, List.range_succ]
theorem identS_len (k : Nat) : (identS k).length = k := by simp [identS]

set_option maxRecDepth 100000 in
set_option maxHeartbeats 2000000 in
theorem refIdentity_any (m : Int) (w : World) (hm : m ≤ 1000000) :
    Calls Try.prog 24 #[.int .i64 m] w fun e w' => ∃ v, e = .returned v ∧ w'.ownsRow w.heap.size 33 4 v m.toNat (cellsC (identS m.toNat)) ∧ Below w.heap.size w w' := by
  go_enter Try.func24, Try.ntmps24
  go_wp2
  go_loopw [3, 4] (fun v i wr => ∃ k : Nat, k ≤ m.toNat ∧ i = .int .i64 k ∧ wr.ownsRow w.heap.size 33 4 v k (cellsC (identS k)) ∧ Below w.heap.size w wr) (fun _ i _ => (m - intOf i).toNat)
  case atStart => exact ⟨0, Nat.zero_le _, rfl, ⟨rfl, .inl ⟨rfl, rfl⟩⟩, Below.refl _ _⟩
  case round =>
    obtain ⟨k, hk, rfl, hown, hb⟩ := hrel
    have HS := Lib.hid (show cellsC (identS (k + 1)) = cellsC (identS k) ++ [.int .i64 (k : Int), .int .i64 ((k : Int) + 1), .int .i64 (k : Int), .int .i64 ((k : Int) + 1)] by rw [identS_succ, cellsC_snoc])
    by_cases hlt : (k : Int) < m
    · have hnw := cells_new (wr.alloc (.cells #[.int .i64 (k : Int), .int .i64 ((k : Int) + 1)] 31)) [.int .i64 (k : Int), .int .i64 ((k : Int) + 1), .int .i64 (k : Int), .int .i64 ((k : Int) + 1)] 33
      rw [World.size_alloc] at hnw
      have HW := Lib.hid hnw
      have hown' := (hown.alloc (.cells #[.int .i64 (k : Int), .int .i64 ((k : Int) + 1)] 31)).alloc (.cells #[.int .i64 (k : Int), .int .i64 ((k : Int) + 1), .int .i64 (k : Int), .int .i64 ((k : Int) + 1)] 33)
      clear hnw
      have hb2 := (hb.alloc hb.size (.cells #[.int .i64 (k : Int), .int .i64 ((k : Int) + 1)] 31)).alloc (Nat.le_trans hb.size (by simp)) (.cells #[.int .i64 (k : Int), .int .i64 ((k : Int) + 1), .int .i64 (k : Int), .int .i64 ((k : Int) + 1)] 33)
      go_wp2_with (at_builtin; refine wpList_app rfl _ _ _ rfl clusSlice (by decide) u3 k _ rfl hown' ⟨wr.heap.size + 1, 0, none⟩ 1 1 _ rfl rfl HW.out (oneInt4 _ _ _ _ _) (by omega) (by unfold maxLen; omega) hb2.size ?_; intro v1 w1 hown1 hg1 hat1)
      have hgr := below_app hb2 hg1 hown' hb2.size
      go_roundw
      case rel => exact ⟨k + 1, by omega, by go_num, by rw [HS.out]; exact hown1, hgr⟩
      case measure => simp [intOf]; omega
    · have HK := Lib.hid (show k = m.toNat by omega)
      go_wp2
      go_ret
      exact ⟨u3, rfl, by rw [← HK.out]; exact hown, hb⟩

def insStep (n : Int) (c : Cl) : Int := if n < c.1.2 then c.1.2 else n
def insS (l : List Cl) : Int := l.foldl insStep 0
set_option maxRecDepth 100000 in
set_option maxHeartbeats 1000000 in
theorem ref_ins_any (A : Option Addr) (n c : Nat) (l : List Cl) (w : World) (hr : Rd w 4 A n (cellsC l)) (hn : n ≤ maxLen) :
    Calls Try.prog 58 #[.slice A n c] w fun e w' => e = .returned (.int .i64 (insS l)) ∧ w' = w := by
  have hlen : l.length = n := by have := hr.1; rw [cellsC_len] at this; omega
  have HL := Lib.hid hlen
  clear hlen
  unfold maxLen at hn
  go_enter Try.func58, Try.ntmps58
  go_wp2
  go_loop [3, 4] (fun x i => ∃ (k : Nat) (y : Int), k ≤ n ∧ i = .int .i64 k ∧ x = .int .i64 y ∧ insS l = (l.drop k).foldl insStep y) (fun _ i => n - (intOf i).toNat)
  case atStart => exact ⟨0, 0, Nat.zero_le _, rfl, rfl, rfl⟩
  case round =>
    obtain ⟨k, y, hk, rfl, rfl, hh⟩ := hrel
    have HH := Lib.hid hh
    clear hh
    by_cases hlt : k < n
    · obtain ⟨s, hsk⟩ : ∃ s, l[k]? = some s := ⟨_, List.getElem?_eq_getElem (by rw [HL.out]; exact hlt)⟩
      have HD := Lib.hid (dropCons hsk)
      obtain ⟨ad, rfl, hab, c1, c2, c3, c4⟩ := hr.clus hsk
      clear hsk
      obtain ⟨⟨s1, s2⟩, s3, s4⟩ := s
      simp only at c1 c2 c3 c4
      go_wp2
      all_goals
        go_round
        case rel => exact ⟨k + 1, insStep y ((s1, s2), (s3, s4)), by omega, by go_num, by first | rfl | (simp only [insStep]; first | rw [if_pos ‹_›] | rw [if_neg ‹_›] | rw [if_neg (by omega)]), by rw [HH.out, HD.out]; rfl⟩
        case measure => simp [intOf]; omega
    · have HZ := Lib.hid (show insS l = y by rw [HH.out, List.drop_eq_nil_of_le (by rw [HL.out]; omega)]; rfl)
      go_wp2
      go_ret
      exact ⟨retI HZ.out.symm, rfl⟩

def outsStep (n : Int) (c : Cl) : Int := if n < c.2.2 then c.2.2 else n
def outsS (l : List Cl) : Int := l.foldl outsStep 0
set_option maxRecDepth 100000 in
set_option maxHeartbeats 1000000 in
theorem ref_outs_any (A : Option Addr) (n c : Nat) (l : List Cl) (w : World) (hr : Rd w 4 A n (cellsC l)) (hn : n ≤ maxLen) :
    Calls Try.prog 59 #[.slice A n c] w fun e w' => e = .returned (.int .i64 (outsS l)) ∧ w' = w := by
  have hlen : l.length = n := by have := hr.1; rw [cellsC_len] at this; omega
  have HL := Lib.hid hlen
  clear hlen
  unfold maxLen at hn
  go_enter Try.func59, Try.ntmps59
  go_wp2
  go_loop [3, 4] (fun x i => ∃ (k : Nat) (y : Int), k ≤ n ∧ i = .int .i64 k ∧ x = .int .i64 y ∧ outsS l = (l.drop k).foldl outsStep y) (fun _ i => n - (intOf i).toNat)
  case atStart => exact ⟨0, 0, Nat.zero_le _, rfl, rfl, rfl⟩
  case round =>
    obtain ⟨k, y, hk, rfl, rfl, hh⟩ := hrel
    have HH := Lib.hid hh
    clear hh
    by_cases hlt : k < n
    · obtain ⟨s, hsk⟩ : ∃ s, l[k]? = some s := ⟨_, List.getElem?_eq_getElem (by rw [HL.out]; exact hlt)⟩
      have HD := Lib.hid (dropCons hsk)
      obtain ⟨ad, rfl, hab, c1, c2, c3, c4⟩ := hr.clus hsk
      clear hsk
      obtain ⟨⟨s1, s2⟩, s3, s4⟩ := s
      simp only at c1 c2 c3 c4
      go_wp2
      all_goals
        go_round
        case rel => exact ⟨k + 1, outsStep y ((s1, s2), (s3, s4)), by omega, by go_num, by first | rfl | (simp only [outsStep]; first | rw [if_pos ‹_›] | rw [if_neg ‹_›] | rw [if_neg (by omega)]), by rw [HH.out, HD.out]; rfl⟩
        case measure => simp [intOf]; omega
    · have HZ := Lib.hid (show outsS l = y by rw [HH.out, List.drop_eq_nil_of_le (by rw [HL.out]; omega)]; rfl)
      go_wp2
      go_ret
      exact ⟨retI HZ.out.symm, rfl⟩
end Go.Proofs.Ytnmefomipldalaa
/- cluster's Identity, walked. -/
namespace Go.Proofs.Ytnmefomipldalaa
open Go.RowKit

set_option maxRecDepth 100000 in
set_option maxHeartbeats 1000000 in
theorem prIdentity_any (n : Nat) (w : World) (hn : n ≤ 1000000) :
    Calls Try.prog 21 #[.int .i64 (n : Int)] w fun e w' => ∃ v, e = .returned v ∧ w'.ownsRow w.heap.size 33 4 v n (cellsC (identS n)) ∧ Below w.heap.size w w' := by
  have HLN := Lib.hid (identS_len n)
  go_enter Try.func21, Try.ntmps21
  go_wp2_with (at_make; refine wpList_mkZ rfl _ _ _ rfl Try.underlying22 clusInfo (z0 := .int .i64 0) (by decide) (by intro j hj; match j, hj with | 0, _ => rfl | 1, _ => rfl | 2, _ => rfl | 3, _ => rfl) (base := w.heap.size) (kl := .i64) (kc := .i64) n n n rfl rfl rfl rfl (by omega) (by unfold maxLen; omega) (Nat.le_refl _) ?_; intro w1 hown hg1)
  have hb1 := below_make (w := w) (w' := w1) hg1
  have HO := Lib.hid (show w1.ownsRow w.heap.size 33 4 (.slice (some ⟨w.heap.size, 0, none⟩) n n) n (fillC (identS n) 0) by rw [fillC_start, HLN.out]; exact hown)
  clear hown hg1
  go_loopw [15] (fun i wr => ∃ k : Nat, k ≤ n ∧ i = .int .i64 (k : Int) ∧ wr.ownsRow w.heap.size 33 4 (.slice (some ⟨w.heap.size, 0, none⟩) n n) n (fillC (identS n) k) ∧ Below w.heap.size w wr) (fun i _ => n - (intOf i).toNat)
  case atStart => exact ⟨0, Nat.zero_le _, rfl, HO.out, hb1⟩
  case round =>
    obtain ⟨k, hk, rfl, hown, hbr⟩ := hrel
    clear HO hb1
    by_cases hlt : k < n
    · have HF := Lib.hid (fillC_step (l := identS n) (k := k) (s := (((k : Int), (k : Int) + 1), ((k : Int), (k : Int) + 1))) (by unfold identS; rw [List.getElem?_map, List.getElem?_range hlt]; rfl))
      have ha := hown.alloc (.cells #[.int .i64 (k : Int), .int .i64 ((k : Int) + 1)] 31)
      obtain ⟨⟨u0, x0⟩, z0⟩ := own_slot ha (j := k * 4) (by omega)
      obtain ⟨⟨u1, x1⟩, z1⟩ := own_slot ha (j := k * 4 + 1) (by omega)
      obtain ⟨⟨u2, x2⟩, z2⟩ := own_slot ha (j := k * 4 + 2) (by omega)
      obtain ⟨⟨u3, x3⟩, z3⟩ := own_slot ha (j := k * 4 + 3) (by omega)
      have HS := Lib.hid (own_store4 ha (k * 4) (.int .i64 (k : Int)) (.int .i64 ((k : Int) + 1)) (.int .i64 (k : Int)) (.int .i64 ((k : Int) + 1)))
      have hbe := ((((hbr.alloc hbr.size (.cells #[.int .i64 (k : Int), .int .i64 ((k : Int) + 1)] 31)).setCell (p := ⟨w.heap.size, k * 4, none⟩) (Nat.le_refl _) (.int .i64 (k : Int))).setCell (p := ⟨w.heap.size, k * 4 + 1, none⟩) (Nat.le_refl _) (.int .i64 ((k : Int) + 1))).setCell (p := ⟨w.heap.size, k * 4 + 2, none⟩) (Nat.le_refl _) (.int .i64 (k : Int))).setCell (p := ⟨w.heap.size, k * 4 + 3, none⟩) (Nat.le_refl _) (.int .i64 ((k : Int) + 1))
      clear hown ha
      go_wp2_with fail
      go_roundw
      case rel => exact ⟨k + 1, by omega, by go_num, by rw [← HF.out]; exact HS.out, hbe⟩
      case measure => simp [intOf]; omega
    · have hkn : k = n := by omega
      have HK := Lib.hid hkn
      clear hkn
      go_wp2_with fail
      go_ret
      exact ⟨_, rfl, by have h9 := fillC_end (identS n); rw [HLN.out] at h9; rw [HK.out, h9] at hown; exact hown, hbr⟩
end Go.Proofs.Ytnmefomipldalaa
/- slices.Equal at []api.Cluster: whether the two slices read alike. -/
namespace Go.Proofs.Ytnmefomipldalaa
open Go.RowKit

theorem eqSpanAt (d : Nat) (a b : Sp) (w : World) : (Op.equalIn (d + 2) 31 (.agg #[.int .i64 a.1, .int .i64 a.2]) (.agg #[.int .i64 b.1, .int .i64 b.2])).run Try.prog w = .ok (decide (a = b)) w := by
  have u3 := Try.underlying3
  have a3 := Try.isAgg3
  have z3 := Try.sizeOf3
  have hS : Try.prog.underlying 31 = some (.struct (Try.prog.fieldsOf 31)) := by kernel_rfl
  have hp : Try.prog.stoodInHeld 31 = false := by kernel_rfl
  rw [show d + 2 = (d + 1) + 1 from rfl, run_equalIn_agg w (d + 1) 31 _ _ hS hp]
  simp only [Program.fieldsOf, Try.underlying31]
  go_simp
  obtain ⟨a1, a2⟩ := a
  obtain ⟨b1, b2⟩ := b
  by_cases h1 : a1 = b1 <;> by_cases h2 : a2 = b2 <;> simp [h1, h2]
theorem eqClusAt (d : Nat) (a b : Cl) (w : World) : (Op.equalIn (d + 3) 33 (.agg #[.int .i64 a.1.1, .int .i64 a.1.2, .int .i64 a.2.1, .int .i64 a.2.2]) (.agg #[.int .i64 b.1.1, .int .i64 b.1.2, .int .i64 b.2.1, .int .i64 b.2.2])).run Try.prog w = .ok (decide (a = b)) w := by
  have hS : Try.prog.underlying 33 = some (.struct (Try.prog.fieldsOf 33)) := by kernel_rfl
  have hp : Try.prog.stoodInHeld 33 = false := by kernel_rfl
  have ag2 := Try.isAgg31
  have z2 := Try.sizeOf31
  have h1 := eqSpanAt d a.1 b.1 w
  have h2 := eqSpanAt d a.2 b.2 w
  rw [show d + 3 = (d + 2) + 1 from rfl, run_equalIn_agg w (d + 2) 33 _ _ hS hp]
  simp only [Program.fieldsOf, Try.underlying33]
  obtain ⟨⟨a1, a2⟩, a3, a4⟩ := a
  obtain ⟨⟨b1, b2⟩, b3, b4⟩ := b
  simp only at h1 h2
  go_simp
  by_cases e1 : a1 = b1 <;> by_cases e2 : a2 = b2 <;> by_cases e3 : a3 = b3 <;> by_cases e4 : a4 = b4 <;> simp [e1, e2, e3, e4]
theorem neqC (a b : Cl) (w : World) : (binOp .neq 33 (.agg #[.int .i64 a.1.1, .int .i64 a.1.2, .int .i64 a.2.1, .int .i64 a.2.2]) (.agg #[.int .i64 b.1.1, .int .i64 b.1.2, .int .i64 b.2.1, .int .i64 b.2.2])).run Try.prog w = .ok (.bool (!(decide (a = b)))) w := by
  rw [run_neq_struct, show (10000 : Nat) = 9997 + 3 from rfl, eqClusAt 9997 a b w]
  rfl
theorem guardC : Try.prog.eqGuardType Try.prog.depth 33 = false := by kernel_rfl

theorem take_eq_succC {xs ys : List Cl} {k : Nat} (h : xs.take k = ys.take k) {x : Cl} (h1 : xs[k]? = some x) (h2 : ys[k]? = some x) : xs.take (k + 1) = ys.take (k + 1) := by
  rw [List.take_add_one, List.take_add_one, h, h1, h2]

set_option maxRecDepth 100000 in
set_option maxHeartbeats 1000000 in
theorem equalC_same (n : Nat) (A B : Option Addr) (c d : Nat) (xs ys : List Cl) (w : World) (hxn : xs.length = n) (hyn : ys.length = n)
    (hx : Rd w 4 A n (cellsC xs)) (hy : Rd w 4 B n (cellsC ys)) (hn : n ≤ maxLen) :
    Calls Try.prog 18 #[.slice A n c, .slice B n d] w fun e w' => e = .returned (.bool (decide (xs = ys))) ∧ ∃ q, w' = w.drewN q := by
  unfold maxLen at hn
  have HX := Lib.hid hxn
  have HY := Lib.hid hyn
  clear hxn hyn
  have hg := guardC
  go_enter Try.func18, Try.ntmps18
  go_wp2
  go_loopw [13] (fun i wr => ∃ k q : Nat, k ≤ n ∧ i = .int .i64 k ∧ wr = w.drewN q ∧ xs.take k = ys.take k) (fun i _ => n - (intOf i).toNat)
  case atStart => exact ⟨0, 0, Nat.zero_le _, rfl, rfl, rfl⟩
  case round =>
    obtain ⟨k, q, hk, rfl, rfl, ht⟩ := hrel
    have HT := Lib.hid ht
    clear ht
    by_cases hlt : k < n
    · obtain ⟨x, hxk⟩ : ∃ x, xs[k]? = some x := ⟨_, List.getElem?_eq_getElem (by rw [HX.out]; exact hlt)⟩
      obtain ⟨y, hyk⟩ : ∃ y, ys[k]? = some y := ⟨_, List.getElem?_eq_getElem (by rw [HY.out]; exact hlt)⟩
      obtain ⟨a, rfl, _, a1, a2, a3, a4⟩ := hx.clus hxk
      obtain ⟨b, rfl, _, b1, b2, b3, b4⟩ := hy.clus hyk
      have hq := neqC x y
      have HXK := Lib.hid hxk
      have HYK := Lib.hid hyk
      clear hxk hyk
      by_cases he : x = y
      · subst he
        simp only [decide_true, Bool.not_true] at hq
        obtain ⟨⟨x1, x2⟩, x3, x4⟩ := x
        simp only at a1 a2 a3 a4 b1 b2 b3 b4 hq
        go_wp2
        go_quiet (fail)
        go_wp2
        go_roundw
        case rel => exact ⟨k + 1, _, by omega, by go_num, rfl, take_eq_succC HT.out HXK.out HYK.out⟩
        case measure => simp [intOf]; omega
      · have hf : decide (xs = ys) = false := decide_eq_false (fun e => he (by have h1 := HXK.out; rw [e, HYK.out] at h1; injection h1 with h1; exact h1.symm))
        rw [decide_eq_false he] at hq
        simp only [Bool.not_false] at hq
        clear he
        obtain ⟨⟨x1, x2⟩, x3, x4⟩ := x
        obtain ⟨⟨y1, y2⟩, y3, y4⟩ := y
        simp only at a1 a2 a3 a4 b1 b2 b3 b4 hq
        go_wp2
        go_quiet (fail)
        go_wp2
        go_ret
        exact ⟨retB (by simp [hf]), _, World.drewN_drewN _ _ _⟩
    · have htr : decide (xs = ys) = true := decide_eq_true (by
        have h := HT.out
        rwa [List.take_of_length_le (by rw [HX.out]; omega), List.take_of_length_le (by rw [HY.out]; omega)] at h)
      go_wp2
      go_ret
      exact ⟨retB (by simp [htr]), _, rfl⟩

theorem equalC_b (A B : Option Addr) (n m c d : Nat) (xs ys : List Cl) (w : World) (hx : Rd w 4 A n (cellsC xs)) (hy : Rd w 4 B m (cellsC ys)) (hn : n ≤ maxLen) (hm : m ≤ maxLen) :
    Calls Try.prog 18 #[.slice A n c, .slice B m d] w fun e w' => e = .returned (.bool (decide (xs = ys))) ∧ Below w.heap.size w w' := by
  have hxl : xs.length = n := by have := hx.1; rw [cellsC_len] at this; omega
  have hyl : ys.length = m := by have := hy.1; rw [cellsC_len] at this; omega
  by_cases h : n = m
  · subst h
    exact (equalC_same n A B c d xs ys w hxl hyl hx hy hn).mono fun _ _ ⟨he, q, hq⟩ => ⟨he, hq ▸ drewBelow q⟩
  · have hne : decide (xs = ys) = false := decide_eq_false (fun e => h (by rw [← hxl, ← hyl, e]))
    have h1 : ((n : Int) == m) = false := by simp; omega
    have h2 : ((n : Int) != m) = true := by simp; omega
    clear hxl hyl
    go_enter Try.func18, Try.ntmps18
    go_wp2
    go_ret
    exact ⟨retB (by simp [hne]), Below.refl _ _⟩
end Go.Proofs.Ytnmefomipldalaa
/- The slice type of spans. -/
namespace Go.Proofs.Ytnmefomipldalaa
open Go.RowKit
theorem spanSlice : SliceOf Try.prog 55 31 2 16 := .mk_ (z := .agg #[.int .i64 0, .int .i64 0]) Try.underlying55 (by kernel_rfl) rfl
end Go.Proofs.Ytnmefomipldalaa
/- refRight_any. -/
namespace Go.Proofs.Ytnmefomipldalaa
open Go.RowKit

theorem refRight_any (lo hi : Int) (w : World) :
    Calls Try.prog 80 #[.agg #[.int .i64 lo, .int .i64 hi]] w fun e w' => e = .returned (.bool (rightB (lo, hi))) ∧ Below w.heap.size w w' := by
  have hc : lo < 0 ∨ (0 ≤ lo ∧ lo < hi) ∨ (0 ≤ lo ∧ hi ≤ lo) := by omega
  rcases hc with h | ⟨h, h'⟩ | ⟨h, h'⟩ <;>
    (go_enter Try.func80, Try.ntmps80
     go_wp2
     go_ret
     refine ⟨retB ?_, below_new _ _⟩
     simp [rightB]
     try omega)

end Go.Proofs.Ytnmefomipldalaa
/- The reference's Parts of spans. -/
namespace Go.Proofs.Ytnmefomipldalaa
open Go.RowKit
set_option maxRecDepth 100000 in
set_option maxHeartbeats 1000000 in
theorem refParts_any (A : Option Addr) (n c : Nat) (l : List Sp) (m : Int) (w : World) (hr : Rd w 2 A n (cellsS l)) (hn : n ≤ maxLen) :
    Calls Try.prog 44 #[.slice A n c, .int .i64 m] w fun e w' => e = .returned (.bool (partsS l m)) ∧ Below w.heap.size w w' := by
  have hlen : l.length = n := by have := hr.1; rw [cellsS_len] at this; omega
  have HL := Lib.hid hlen
  clear hlen
  unfold maxLen at hn
  go_enter Try.func44, Try.ntmps44
  go_wp2
  go_loopw [5, 6] (fun e i wr => ∃ (k : Nat) (x : Int), k ≤ n ∧ i = .int .i64 k ∧ e = .int .i64 x ∧ partsS l m = partsFrom x (l.drop k) m ∧ Below w.heap.size w wr) (fun _ i _ => n - (intOf i).toNat)
  case atStart => exact ⟨0, 0, Nat.zero_le _, rfl, rfl, rfl, Below.refl _ _⟩
  case round =>
    obtain ⟨k, x, hk, rfl, rfl, hp, hb⟩ := hrel
    have HP := Lib.hid hp
    clear hp
    by_cases hlt : k < n
    · obtain ⟨s, hsk⟩ : ∃ s, l[k]? = some s := ⟨_, List.getElem?_eq_getElem (by rw [HL.out]; exact hlt)⟩
      obtain ⟨ad, rfl, hab, c1, c2⟩ := (hr.below hb).span hsk
      have HD := Lib.hid (dropCons hsk)
      clear hsk
      obtain ⟨lo, hi⟩ := s
      simp only at c1 c2
      go_wp2_with fail
      refine (refRight_any lo hi _).mono ?_
      rintro e w1 ⟨rfl, hb1⟩
      have hb2 := hb.trans (hb1.mono hb.size)
      have d1 := cell_below hb1 c1
      have d2 := cell_below hb1 c2
      clear hb1 c1 c2
      cases hr1 : rightB (lo, hi) with
      | false =>
        have HF := Lib.hid (show partsS l m = false by rw [HP.out, HD.out]; exact partsFrom_no (.inl hr1))
        go_wp2
        go_ret
        exact ⟨retB (by simp [HF.out]), hb2⟩
      | true =>
        cases he : (lo == x) with
        | false =>
          have hne : (lo != x) = true := by simpa using he
          have HF := Lib.hid (show partsS l m = false by rw [HP.out, HD.out]; exact partsFrom_no (.inr he))
          go_wp2
          go_ret
          exact ⟨retB (by simp [HF.out]), hb2⟩
        | true =>
          have hne : (lo != x) = false := by simpa using he
          have HF := Lib.hid (show partsS l m = partsFrom hi (l.drop (k + 1)) m by rw [HP.out, HD.out]; exact partsFrom_yes hr1 he)
          go_wp2
          go_roundw
          case rel => exact ⟨k + 1, hi, by omega, by go_num, rfl, HF.out, hb2⟩
          case measure => simp [intOf]; omega
    · have HF := Lib.hid (show partsS l m = (x == m) by rw [HP.out, List.drop_eq_nil_of_le (by rw [HL.out]; omega)]; rfl)
      go_wp2
      go_ret
      exact ⟨retB (by simp [HF.out]), hb⟩
end Go.Proofs.Ytnmefomipldalaa
