/- Texts of one claim, one behind the other. -/
import Derived.Maps.OwnSet
import Derived.Maps.Views
import Derived.BigRegion
import Derived.Test.YtcbiaeeifclieaaGreatDoorMgM1
import Derived.Test.YtcbiaeeifclieaaGreatDoorMgM2
/- Groups of spans, as plain mathematics: spans that share places put together, singles between them; the same as the reference's. -/
namespace Go.Proofs.YtcbiaeeifclieaaGreatDoor

def validB (n : Int) (s : Sp) : Bool := rightB s && decide (s.2 ≤ n)
/-- Spans by their Lo, those that share places put together; 'a' is the last one so far. -/
def mergeGo (a : Sp) : List Sp → List Sp
  | [] => [a]
  | s :: l => if s.1 < a.2 then mergeGo (a.1, if a.2 < s.2 then s.2 else a.2) l else a :: mergeGo s l
def mergeS : List Sp → List Sp
  | [] => []
  | s :: l => mergeGo s l
/-- Spans that rise and share no place, within e and n. -/
def RiseIn (e n : Int) : List Sp → Prop
  | [] => e ≤ n
  | s :: l => e ≤ s.1 ∧ s.1 < s.2 ∧ RiseIn s.2 n l
theorem RiseIn.le {e n : Int} {l : List Sp} (h : RiseIn e n l) : e ≤ n := by
  induction l generalizing e with
  | nil => exact h
  | cons s l ih =>
    have := ih h.2.2
    have := h.1
    have := h.2.1
    omega
theorem RiseIn.low {e e' n : Int} {l : List Sp} (h : RiseIn e n l) (he : e' ≤ e) : RiseIn e' n l := by
  cases l with
  | nil => exact Int.le_trans he h
  | cons s l => exact ⟨Int.le_trans he h.1, h.2⟩
theorem RiseIn.mem {e n : Int} {l : List Sp} (h : RiseIn e n l) : ∀ s ∈ l, e ≤ s.1 ∧ s.1 < s.2 ∧ s.2 ≤ n := by
  induction l generalizing e with
  | nil => simp
  | cons s l ih =>
    intro t ht
    simp at ht
    have h1 := h.1
    have h2 := h.2.1
    have h3 := h.2.2.le
    rcases ht with rfl | ht
    · omega
    · have := ih h.2.2 t ht
      omega
theorem merge_rise {n : Int} {l : List Sp} {a : Sp} (ha : a.1 < a.2 ∧ a.2 ≤ n) (hv : ∀ s ∈ l, s.1 < s.2 ∧ s.2 ≤ n) : RiseIn a.1 n (mergeGo a l) := by
  induction l generalizing a with
  | nil => exact ⟨Int.le_refl _, ha.1, ha.2⟩
  | cons s l ih =>
    have hs := hv s (by simp)
    have hl := fun t ht => hv t (List.mem_cons_of_mem s ht)
    unfold mergeGo
    by_cases hlt : s.1 < a.2
    · rw [if_pos hlt]
      exact ih (a := (a.1, if a.2 < s.2 then s.2 else a.2)) (by simp only; split <;> omega) hl
    · rw [if_neg hlt]
      exact ⟨Int.le_refl _, ha.1, (ih hs hl).low (by omega)⟩
theorem merge_across {l : List Sp} {a : Sp} (hs : ∀ s ∈ l, a.1 ≤ s.1) (hl : LoSorted l) (p : Int) : (∃ h ∈ mergeGo a l, h.1 < p ∧ p < h.2) ↔ ((a.1 < p ∧ p < a.2) ∨ ∃ s ∈ l, s.1 < p ∧ p < s.2) := by
  induction l generalizing a with
  | nil => simp [mergeGo]
  | cons s l ih =>
    unfold LoSorted at hl
    rw [List.pairwise_cons] at hl
    have has := hs s (by simp)
    unfold mergeGo
    by_cases hlt : s.1 < a.2
    · rw [if_pos hlt, ih (a := (a.1, if a.2 < s.2 then s.2 else a.2)) (fun t ht => hs t (by simp [ht])) hl.2]
      simp only
      simp only [List.mem_cons, exists_eq_or_imp]
      constructor
      · rintro (h | h)
        · by_cases hp : p < a.2
          · exact .inl ⟨h.1, hp⟩
          · refine .inr (.inl ?_)
            have := h.2
            split at this <;> omega
        · exact .inr (.inr h)
      · rintro (h | h | h)
        · refine .inl ⟨h.1, ?_⟩
          split <;> omega
        · refine .inl ⟨by omega, ?_⟩
          split <;> omega
        · exact .inr h
    · rw [if_neg hlt]
      simp only [List.mem_cons, exists_eq_or_imp]
      rw [ih hl.1 hl.2]

/-- Each place from e on, t of them, by itself. -/
def singles : Nat → Int → List Sp
  | 0, _ => []
  | t + 1, e => (e, e + 1) :: singles t (e + 1)
/-- The spans, and singles between them, from e to n. -/
def fillG (n : Int) : Int → List Sp → List Sp
  | e, [] => singles (n - e).toNat e
  | e, s :: l => singles (s.1 - e).toNat e ++ s :: fillG n s.2 l

theorem go_singles {n : Int} {l : List Sp} {t f : Nat} {e : Int} (h : ∀ p, e < p → p ≤ e + t → p = n ∨ partedS p n l = true) : groupsGo n l (t + f) e (e + 1) = singles t e ++ groupsGo n l f (e + t) (e + t + 1) := by
  induction t generalizing e with
  | zero => simp [singles]
  | succ t ih =>
    rw [show t + 1 + f = (t + f) + 1 by omega, groupsGo_yes (h (e + 1) (by omega) (by omega)), ih (fun p h1 h2 => h p (by omega) (by omega))]
    simp only [singles, List.cons_append]
    rw [show e + 1 + (t : Int) = e + ((t + 1 : Nat) : Int) by omega]
theorem go_span {n : Int} {l : List Sp} {t f : Nat} {lo p : Int} (h : ∀ q, p ≤ q → q < p + t → ¬ (q = n ∨ partedS q n l = true)) (he : p + t = n ∨ partedS (p + t) n l = true) : groupsGo n l (t + 1 + f) lo p = (lo, p + t) :: groupsGo n l f (p + t) (p + t + 1) := by
  induction t generalizing p with
  | zero =>
    rw [show 0 + 1 + f = f + 1 by omega, groupsGo_yes (by simpa using he)]
    simp
  | succ t ih =>
    rw [show t + 1 + 1 + f = (t + 1 + f) + 1 by omega, groupsGo_no (h p (by omega) (by omega)), ih (fun q h1 h2 => h q (by omega) (by omega)) (by rw [show p + 1 + (t : Int) = p + ((t + 1 : Nat) : Int) by omega]; exact he)]
    rw [show p + 1 + (t : Int) = p + ((t + 1 : Nat) : Int) by omega]
theorem go_fill {n : Int} {l H : List Sp} {e : Int} (he : 0 ≤ e) (hr : RiseIn e n H) (hp : ∀ p, e < p → (partedS p n l = false ↔ ∃ h ∈ H, h.1 < p ∧ p < h.2)) : groupsGo n l (n - e).toNat e (e + 1) = fillG n e H := by
  induction H generalizing e with
  | nil =>
    have hen : e ≤ n := hr
    have := go_singles (n := n) (l := l) (t := (n - e).toNat) (f := 0) (e := e) (fun p h1 h2 => .inr (by
      cases hq : partedS p n l with
      | true => rfl
      | false => obtain ⟨h, hh, _⟩ := (hp p h1).1 hq; cases hh))
    rw [Nat.add_zero] at this
    rw [this]
    simp [fillG, groupsGo]
  | cons s H ih =>
    obtain ⟨h1, h2, h3⟩ := hr
    have h4 := h3.le
    have hmem := h3.mem
    have hout : ∀ p, e < p → p ≤ s.1 → partedS p n l = true := fun p hp1 hp2 => by
      cases hq : partedS p n l with
      | true => rfl
      | false =>
        obtain ⟨h, hh, ha, hb⟩ := (hp p hp1).1 hq
        simp at hh
        rcases hh with rfl | hh
        · omega
        · have := hmem h hh
          omega
    have a1 := go_singles (n := n) (l := l) (t := (s.1 - e).toNat) (f := (s.2 - s.1 - 1).toNat + 1 + (n - s.2).toNat) (e := e) (fun p hp1 hp2 => .inr (hout p hp1 (by omega)))
    rw [show (s.1 - e).toNat + ((s.2 - s.1 - 1).toNat + 1 + (n - s.2).toNat) = (n - e).toNat by omega, show e + ((s.1 - e).toNat : Int) = s.1 by omega] at a1
    have hin : ∀ q, s.1 + 1 ≤ q → q < s.1 + 1 + ((s.2 - s.1 - 1).toNat : Int) → ¬ (q = n ∨ partedS q n l = true) := fun q hq1 hq2 h => by
      rcases h with h | h
      · omega
      · have := (hp q (by omega)).2 ⟨s, by simp, by omega, by omega⟩
        rw [h] at this
        cases this
    have hend : s.1 + 1 + ((s.2 - s.1 - 1).toNat : Int) = n ∨ partedS (s.1 + 1 + ((s.2 - s.1 - 1).toNat : Int)) n l = true := by
      rw [show s.1 + 1 + ((s.2 - s.1 - 1).toNat : Int) = s.2 by omega]
      right
      cases hq : partedS s.2 n l with
      | true => rfl
      | false =>
        obtain ⟨h, hh, ha, hb⟩ := (hp s.2 (by omega)).1 hq
        simp at hh
        rcases hh with rfl | hh
        · omega
        · have := hmem h hh
          omega
    have a2 := go_span (n := n) (l := l) (t := (s.2 - s.1 - 1).toNat) (f := (n - s.2).toNat) (lo := s.1) (p := s.1 + 1) hin hend
    rw [show s.1 + 1 + ((s.2 - s.1 - 1).toNat : Int) = s.2 by omega] at a2
    have a3 := ih (e := s.2) (by omega) h3 (fun p hp1 => by
      rw [hp p (by omega)]
      simp only [List.mem_cons, exists_eq_or_imp]
      constructor
      · rintro (h | h)
        · omega
        · exact h
      · exact .inr)
    rw [a1, a2, a3]
    rfl
theorem singles_parts {t : Nat} {e n : Int} {l : List Sp} (he : 0 ≤ e) : partsFrom e (singles t e ++ l) n = partsFrom (e + t) l n := by
  induction t generalizing e with
  | zero => simp [singles]
  | succ t ih =>
    simp only [singles, List.cons_append]
    rw [partsFrom_yes (by simp [rightB]; omega) (by simp), ih (by omega), show e + 1 + (t : Int) = e + ((t + 1 : Nat) : Int) by omega]
theorem fill_parts {n : Int} {H : List Sp} {e : Int} (he : 0 ≤ e) (hr : RiseIn e n H) : partsFrom e (fillG n e H) n = true := by
  induction H generalizing e with
  | nil =>
    have hen : e ≤ n := hr
    have := singles_parts (t := (n - e).toNat) (e := e) (n := n) (l := []) he
    rw [List.append_nil] at this
    simp only [fillG, this, partsFrom]
    simp
    omega
  | cons s H ih =>
    obtain ⟨h1, h2, h3⟩ := hr
    simp only [fillG]
    rw [singles_parts he, show e + ((s.1 - e).toNat : Int) = s.1 by omega, partsFrom_yes (by simp [rightB]; omega) (by simp)]
    exact ih (by omega) h3
theorem parted_iff {p n : Int} {l : List Sp} : partedS p n l = false ↔ ∃ s ∈ l, validB n s = true ∧ s.1 < p ∧ p < s.2 := by
  unfold partedS
  rw [Bool.not_eq_false', List.any_eq_true]
  constructor
  · rintro ⟨s, hs, h⟩
    unfold acrossB at h
    simp at h
    exact ⟨s, hs, by simp [validB, h.1, h.2.1], h.2.2⟩
  · rintro ⟨s, hs, h1, h2⟩
    unfold validB at h1
    simp at h1
    exact ⟨s, hs, by simp [acrossB, h1, h2]⟩
theorem valid_iff {n : Int} {s : Sp} : validB n s = true ↔ 0 ≤ s.1 ∧ s.1 < s.2 ∧ s.2 ≤ n := by
  simp [validB, rightB]
  omega
theorem groups_eq {n : Int} {l l' : List Sp} (hn : 0 ≤ n) (hp : l'.Perm (l.filter (validB n))) (hs : LoSorted l') : RiseIn 0 n (mergeS l') ∧ groupsS n l = fillG n 0 (mergeS l') := by
  have hv : ∀ s ∈ l', 0 ≤ s.1 ∧ s.1 < s.2 ∧ s.2 ≤ n := fun s h => valid_iff.1 (List.mem_filter.1 (hp.mem_iff.1 h)).2
  have hiff : ∀ p, partedS p n l = false ↔ ∃ s ∈ l', s.1 < p ∧ p < s.2 := fun p => by
    rw [parted_iff]
    constructor
    · rintro ⟨s, h, h1, h2⟩
      exact ⟨s, hp.mem_iff.2 (List.mem_filter.2 ⟨h, h1⟩), h2⟩
    · rintro ⟨s, h, h2⟩
      have := List.mem_filter.1 (hp.mem_iff.1 h)
      exact ⟨s, this.1, this.2, h2⟩
  have key : RiseIn 0 n (mergeS l') ∧ ∀ p, (∃ h ∈ mergeS l', h.1 < p ∧ p < h.2) ↔ ∃ s ∈ l', s.1 < p ∧ p < s.2 := by
    cases l' with
    | nil => exact ⟨hn, fun p => by simp [mergeS]⟩
    | cons a t =>
      have ha := hv a (by simp)
      unfold LoSorted at hs
      rw [List.pairwise_cons] at hs
      refine ⟨(merge_rise ⟨ha.2.1, ha.2.2⟩ (fun s h => (hv s (by simp [h])).2)).low ha.1, fun p => ?_⟩
      unfold mergeS
      rw [merge_across hs.1 hs.2]
      simp only [List.mem_cons, exists_eq_or_imp]
  refine ⟨key.1, ?_⟩
  have := go_fill (n := n) (l := l) (e := 0) (Int.le_refl _) key.1 (fun p _ => by rw [hiff, key.2])
  rw [Int.sub_zero] at this
  exact this
theorem groups_neg {n : Int} {l : List Sp} (hn : n ≤ 0) : groupsS n l = [] := by
  have : n.toNat = 0 := by omega
  unfold groupsS
  rw [this]
  rfl
/-- How many places the spans have but one each. -/
def overS (l : List Sp) : Int := (l.map fun s => s.2 - s.1 - 1).sum
theorem over_le {e n : Int} {l : List Sp} (h : RiseIn e n l) (k : Nat) : 0 ≤ overS (l.take k) ∧ overS (l.take k) ≤ n - e := by
  induction l generalizing e k with
  | nil =>
    have : e ≤ n := h
    simp [overS]
    omega
  | cons s l ih =>
    cases k with
    | zero =>
      have := h.le
      simp [overS]
      omega
    | succ k =>
      have := ih h.2.2 k
      have h1 := h.1
      have h2 := h.2.1
      simp only [overS, List.take_succ_cons, List.map_cons, List.sum_cons] at this ⊢
      omega
theorem singles_len (t : Nat) (e : Int) : (singles t e).length = t := by
  induction t generalizing e with
  | zero => rfl
  | succ t ih => simp [singles, ih]
theorem fill_len {e n : Int} {l : List Sp} (h : RiseIn e n l) : ((fillG n e l).length : Int) = n - e - overS l := by
  induction l generalizing e with
  | nil =>
    have : e ≤ n := h
    simp [fillG, singles_len, overS]
    omega
  | cons s l ih =>
    have h3 := ih h.2.2
    have h1 := h.1
    have h2 := h.2.1
    simp only [fillG, List.length_append, List.length_cons, singles_len, overS, List.map_cons, List.sum_cons] at h3 ⊢
    omega
theorem groups_back (n : Int) (l : List Sp) : groupsS n l.reverse = groupsS n l := by
  have h : ∀ p, partedS p n l.reverse = partedS p n l := fun p => by unfold partedS; rw [List.any_reverse]
  have hg : ∀ f lo p, groupsGo n l.reverse f lo p = groupsGo n l f lo p := by
    intro f
    induction f with
    | zero => intro lo p; rfl
    | succ f ih => intro lo p; unfold groupsGo; rw [h, ih, ih]
  exact hg _ _ _
theorem groups_parts {n : Int} {l l' : List Sp} (hn : 0 ≤ n) (hp : l'.Perm (l.filter (validB n))) (hs : LoSorted l') : partsS (groupsS n l) n = true := by
  obtain ⟨h1, h2⟩ := groups_eq hn hp hs
  rw [h2]
  exact fill_parts (Int.le_refl _) h1
theorem singles_snoc (t : Nat) (e : Int) : singles (t + 1) e = singles t e ++ [(e + t, e + t + 1)] := by
  induction t generalizing e with
  | zero => simp [singles]
  | succ t ih =>
    rw [singles, ih, singles, List.cons_append]
    rw [show e + 1 + (t : Int) = e + ((t + 1 : Nat) : Int) by omega]
end Go.Proofs.YtcbiaeeifclieaaGreatDoor
/- The project's appendSingles. -/
namespace Go.Proofs.YtcbiaeeifclieaaGreatDoor
open Go.RowKit

theorem grown_step {a b c : World} {r r' : Option Nat} (h : a.grownBy b r) (h' : b.grownBy c r') (hr : r' = r ∨ ∀ k, r' = some k → a.heap.size ≤ k) : a.grownBy c r :=
  ⟨h'.os.trans h.os, h'.tape.trans h.tape, h'.output.trans h.output, Nat.le_trans h.size h'.size, fun i hi hne =>
    (h'.block i (Nat.lt_of_lt_of_le hi h.size) (fun e => by
      rcases hr with hr | hr
      · exact hne (by rw [e, hr])
      · have := hr i e.symm
        omega)).trans (h.block i hi hne)⟩

set_option maxRecDepth 100000 in
set_option maxHeartbeats 2000000 in
theorem prSingles_any (base k : Nat) (v : Value) (acc : List Sp) (lo hi : Int) (w : World) (hown : w.ownsRow base 39 2 v k (cellsS acc)) (h0 : 0 ≤ lo) (hh : hi ≤ 100000) (hk : k ≤ 100000) (hbase : base ≤ w.heap.size) :
    Calls Tryz.prog 106 #[v, .int .i64 lo, .int .i64 hi] w fun e w' => ∃ v', e = .returned v' ∧ w'.ownsRow base 39 2 v' (k + (hi - lo).toNat) (cellsS (acc ++ singles (hi - lo).toNat lo)) ∧ w.grownBy w' v.ownBlock ∧ (v'.ownBlock = v.ownBlock ∨ ∀ b, v'.ownBlock = some b → w.heap.size ≤ b) := by
  go_enter Tryz.func106, Tryz.ntmps106
  go_wp2
  go_loopw [0, 7] (fun v' i wr => ∃ t : Nat, t ≤ (hi - lo).toNat ∧ i = .int .i64 (lo + t) ∧ wr.ownsRow base 39 2 v' (k + t) (cellsS (acc ++ singles t lo)) ∧ w.grownBy wr v.ownBlock ∧ (v'.ownBlock = v.ownBlock ∨ ∀ b, v'.ownBlock = some b → w.heap.size ≤ b)) (fun _ i _ => (hi - intOf i).toNat)
  case atStart => exact ⟨0, Nat.zero_le _, by simp, by simpa [singles] using hown, World.grownBy.refl w _, .inl rfl⟩
  case round =>
    obtain ⟨t, ht, rfl, ho, hg, hb⟩ := hrel
    by_cases hlt : lo + (t : Int) < hi
    · have hsz := hg.size
      have HT := Lib.hid (show cellsS (acc ++ singles (t + 1) lo) = cellsS (acc ++ singles t lo) ++ [.int .i64 (lo + t), .int .i64 (lo + t + 1)] by rw [singles_snoc]; simp [cellsS, encS])
      have ha := ho.alloc (.cells #[.int .i64 (lo + t), .int .i64 (lo + t + 1)] 39)
      have HN := Lib.hid (rd_blk (m := 1) (cs := [.int .i64 (lo + t), .int .i64 (lo + t + 1)]) 2 (heap_alloc_new wr (.cells #[.int .i64 (lo + t), .int .i64 (lo + t + 1)] 39)) rfl)
      have HB := Lib.hid hb
      clear hb
      go_wp2_with (at_builtin; refine wpList_appR rfl _ _ _ rfl spanSlice (by decide) u0 (k + t) _ rfl ha _ 1 1 _ rfl HN.out (oneInt2 _ _ _) (by omega) (by unfold maxLen; omega) (by simp; omega) ?_; intro v1 w1 hown1 hg1 hat1)
      have hgr : w.grownBy w1 v.ownBlock := grown_step (grown_step hg (World.grownBy_alloc wr _ none) (.inr (fun k h => by cases h))) hg1 HB.out
      have HB1 := Lib.hid (show v1.ownBlock = v.ownBlock ∨ ∀ b, v1.ownBlock = some b → w.heap.size ≤ b by
        rcases hat1 with h | h
        · rw [h]; exact HB.out
        · right
          intro b hb
          rw [h] at hb
          injection hb with hb
          simp at hb
          omega)
      clear hat1
      go_roundw
      case rel => exact ⟨t + 1, by omega, by go_num, by rw [HT.out]; exact hown1, hgr, HB1.out⟩
      case measure => simp [intOf]; omega
    · have hte : t = (hi - lo).toNat := by omega
      subst hte
      have HO := Lib.hid ho
      have HB := Lib.hid hb
      clear ho hb
      go_wp2
      go_ret
      exact ⟨_, rfl, HO.out, hg, HB.out⟩
end Go.Proofs.YtcbiaeeifclieaaGreatDoor
/- Spans in memory: the first ones, the last ones. -/
namespace Go.Proofs.YtcbiaeeifclieaaGreatDoor
open Go.RowKit
theorem cellsS_one (l : List Sp) : ∀ u ∈ cellsS l, u.oneCell' = true := by
  intro u hu
  obtain ⟨s, _, hs⟩ := List.mem_flatMap.1 hu
  simp [encS] at hs
  rcases hs with rfl | rfl <;> rfl
theorem cellsS_take (l : List Sp) (k : Nat) : (cellsS l).take (k * 2) = cellsS (l.take k) := by
  induction l generalizing k with
  | nil => simp [cellsS]
  | cons s l ih =>
    cases k with
    | zero => simp [cellsS]
    | succ k =>
      have : cellsS (s :: l) = .int .i64 s.1 :: .int .i64 s.2 :: cellsS l := rfl
      rw [this, show (k + 1) * 2 = k * 2 + 1 + 1 by omega, List.take_succ_cons, List.take_succ_cons, ih]
      rfl
theorem cellsS_drop (l : List Sp) (k : Nat) : (cellsS l).drop (k * 2) = cellsS (l.drop k) := by
  induction l generalizing k with
  | nil => simp [cellsS]
  | cons s l ih =>
    cases k with
    | zero => simp
    | succ k =>
      have : cellsS (s :: l) = .int .i64 s.1 :: .int .i64 s.2 :: cellsS l := rfl
      rw [this, show (k + 1) * 2 = k * 2 + 1 + 1 by omega, List.drop_succ_cons, List.drop_succ_cons, ih]
      rfl
/-- The first elements of a slice that reads as spans; and the rest. -/
theorem Rd.takeS {w : World} {A : Option Addr} {n k : Nat} {l : List Sp} (hr : Rd w 2 A n (cellsS l)) (hk : k ≤ n) : Rd w 2 A k (cellsS (l.take k)) := by
  have hl : l.length = n := by have := hr.1; rw [cellsS_len] at this; omega
  refine ⟨by rw [cellsS_len, List.length_take]; omega, fun h0 => ?_⟩
  obtain ⟨ad, e, hb, hc⟩ := hr.2 (by omega)
  refine ⟨ad, e, hb, fun j u hj => hc j u ?_⟩
  rw [← cellsS_take, List.getElem?_take] at hj
  split at hj
  · exact hj
  · cases hj
theorem Rd.dropS {w : World} {A : Option Addr} {n k cap : Nat} {l : List Sp} (hr : Rd w 2 A n (cellsS l)) (hk : k ≤ n) (hc : n ≤ cap) : Rd w 2 (if cap = k then A else A.map (·.add (k * 2))) (n - k) (cellsS (l.drop k)) := by
  have := hr.cut hk hc
  rwa [cellsS_drop] at this
end Go.Proofs.YtcbiaeeifclieaaGreatDoor
/- cmp.Compare at int. -/
namespace Go.Proofs.YtcbiaeeifclieaaGreatDoor
open Go.RowKit

def cmpI (x y : Int) : Int := if x < y then -1 else if y < x then 1 else 0
set_option maxHeartbeats 1000000 in
theorem nanI_any (x : Int) (w : World) : Calls Tryz.prog 133 #[.int .i64 x] w fun e w' => e = .returned (.bool false) ∧ w = w' := by
  have h : (x != x) = false := by simp
  go_enter Tryz.func133, Tryz.ntmps133
  go_wp2
  go_ret
  exact ⟨by simp, rfl⟩
set_option maxHeartbeats 1000000 in
theorem cmpI_any (x y : Int) (w : World) : Calls Tryz.prog 120 #[.int .i64 x, .int .i64 y] w fun e w' => e = .returned (.int .i64 (cmpI x y)) ∧ w = w' := by
  have hc : x < y ∨ (¬ x < y ∧ y < x) ∨ (¬ x < y ∧ ¬ y < x) := by omega
  rcases hc with h | ⟨h, h'⟩ | ⟨h, h'⟩
  · have HE := Lib.hid (show cmpI x y = -1 from if_pos h)
    go_enter Tryz.func120, Tryz.ntmps120
    go_wp2_with (go_at_call 133; refine (nanI_any _ _).mono ?_; rintro e w' ⟨rfl, rfl⟩)
    go_ret
    exact ⟨retI HE.out.symm, rfl⟩
  · have HE := Lib.hid (show cmpI x y = 1 by unfold cmpI; rw [if_neg h, if_pos h'])
    go_enter Tryz.func120, Tryz.ntmps120
    go_wp2_with (go_at_call 133; refine (nanI_any _ _).mono ?_; rintro e w' ⟨rfl, rfl⟩)
    go_ret
    exact ⟨retI HE.out.symm, rfl⟩
  · have HE := Lib.hid (show cmpI x y = 0 by unfold cmpI; rw [if_neg h, if_neg h'])
    go_enter Tryz.func120, Tryz.ntmps120
    go_wp2_with (go_at_call 133; refine (nanI_any _ _).mono ?_; rintro e w' ⟨rfl, rfl⟩)
    go_ret
    exact ⟨retI HE.out.symm, rfl⟩
end Go.Proofs.YtcbiaeeifclieaaGreatDoor
/- slices.Clone at []api.Span: a row of the call's own that reads as the argument does. -/
namespace Go.Proofs.YtcbiaeeifclieaaGreatDoor
open Go.RowKit

theorem cloneS_any (A : Option Addr) (n c : Nat) (xs : List Value) (w : World) (hr : Rd w 2 A n xs) (h1 : ∀ u ∈ xs, u.oneCell' = true) (hm : n ≤ 16777216) :
    Calls Tryz.prog 125 #[.slice A n c] w fun e w' => ∃ v, e = .returned v ∧ w'.ownsRow w.heap.size 39 2 v n xs ∧ Below w.heap.size w w' := by
  rcases A with _ | ad
  · have h0 : n = 0 := by
      rcases Nat.eq_zero_or_pos n with h | h
      · exact h
      · obtain ⟨_, e, _⟩ := hr.2 h
        cases e
    subst h0
    have hx : xs = [] := List.eq_nil_of_length_eq_zero (by simpa using hr.1)
    subst hx
    have hq := fun w => Lib.run_eql_slice_nil (P := Tryz.prog) w 103 39 none 0 c 0 0 Tryz.underlying103
    go_enter Tryz.func125, Tryz.ntmps125
    go_wp2
    go_ret
    exact ⟨_, rfl, ⟨rfl, .inl ⟨rfl, rfl⟩⟩, Below.refl _ _⟩
  · have hq := fun w => Lib.run_eql_slice_nil (P := Tryz.prog) w 103 39 (some ad) n c 0 0 Tryz.underlying103
    have hown : (w.alloc (.cells #[] 39)).ownsRow w.heap.size 39 2 (.slice (some ⟨w.heap.size, 0, none⟩) 0 0) 0 [] := World.ownsRow_made w #[] 0 (Nat.le_refl _) (Nat.zero_le _) rfl
    go_enter Tryz.func125, Tryz.ntmps125
    go_wp2_with (at_builtin; refine wpList_app rfl _ _ _ rfl spanSlice (by decide) _ 0 [] rfl hown ad n c xs rfl hr.1 (hr.alloc _).news h1 (by omega) (by unfold maxLen; omega) (by simp) ?_; intro v1 w1 hown1 hg1 hat1)
    go_ret
    exact ⟨v1, rfl, by simpa using hown1, below_app ((Below.refl _ _).alloc (Nat.le_refl _) _) hg1 hown (by simp)⟩
end Go.Proofs.YtcbiaeeifclieaaGreatDoor
/- The project's Size of a span. -/
namespace Go.Proofs.YtcbiaeeifclieaaGreatDoor
open Go.RowKit
theorem prSizeS_any (lo hi : Int) (w : World) (hf : Fit hi) :
    Calls Tryz.prog 105 #[.agg #[.int .i64 lo, .int .i64 hi]] w fun e w' => e = .returned (.int .i64 (sizeS (lo, hi))) ∧ Below w.heap.size w w' := by
  obtain ⟨f0, f1⟩ := hf
  cases h : rightB (lo, hi) with
  | true =>
    have h' := of_decide_eq_true h
    obtain ⟨h1, h2⟩ := h'
    simp only at h1 h2
    have HS := Lib.hid (show sizeS (lo, hi) = hi - lo from if_pos h)
    go_enter Tryz.func105, Tryz.ntmps105
    go_wp2_with fail
    refine (prRight_any lo hi _).mono ?_
    rintro e w1 ⟨rfl, hb⟩
    have hb1 := below_self (below_new w _) hb
    have c0 : w1.cell? ⟨w.heap.size, 0, none⟩ = some (.int .i64 lo) := cell_below hb (by rw [World.cell?_alloc_at _ _ _ _ rfl]; rfl)
    have c1 : w1.cell? ⟨w.heap.size, 1, none⟩ = some (.int .i64 hi) := cell_below hb (by rw [World.cell?_alloc_at _ _ _ _ rfl]; rfl)
    go_wp2
    go_ret
    exact ⟨retI HS.out.symm, hb1⟩
  | false =>
    have HS := Lib.hid (show sizeS (lo, hi) = 0 from if_neg (by rw [h]; decide))
    go_enter Tryz.func105, Tryz.ntmps105
    go_wp2_with fail
    refine (prRight_any lo hi _).mono ?_
    rintro e w1 ⟨rfl, hb⟩
    have hb1 := below_self (below_new w _) hb
    go_wp2
    go_ret
    exact ⟨retI HS.out.symm, hb1⟩
end Go.Proofs.YtcbiaeeifclieaaGreatDoor
/- Groups are parts, and no more than places. -/
namespace Go.Proofs.YtcbiaeeifclieaaGreatDoor
open Go.RowKit

theorem groups_len {n : Int} {l : List Sp} (hn : n ≤ 1000) : (groupsS n l).length ≤ 1000 := by
  have h : ∀ f lo p, (groupsGo n l f lo p).length ≤ f := by
    intro f
    induction f with
    | zero => intro lo p; exact Nat.le_refl _
    | succ f ih =>
      intro lo p
      unfold groupsGo
      split
      · have := ih p (p + 1)
        simp only [List.length_cons]; omega
      · have := ih lo (p + 1)
        omega
  have := h n.toNat 0 1
  unfold groupsS
  omega
/-- A sorted list of the right spans within n is there. -/
theorem groups_whole {n : Int} (l : List Sp) (hn : 0 ≤ n) : partsS (groupsS n l) n = true :=
  groups_parts hn (sortR_perm _) (sortR_sorted _)
end Go.Proofs.YtcbiaeeifclieaaGreatDoor
/- Clusters as data: the cells of a slice of clusters. -/
namespace Go.Proofs.YtcbiaeeifclieaaGreatDoor
open Go.RowKit

/-- A cluster: In, Out. -/
abbrev Cl := Sp × Sp
def encC (c : Cl) : List Value := [.int .i64 c.1.1, .int .i64 c.1.2, .int .i64 c.2.1, .int .i64 c.2.2]
def cellsC (l : List Cl) : List Value := l.flatMap encC
theorem cellsC_snoc (l : List Cl) (c : Cl) : cellsC (l ++ [c]) = cellsC l ++ [.int .i64 c.1.1, .int .i64 c.1.2, .int .i64 c.2.1, .int .i64 c.2.2] := by simp [cellsC, encC]
theorem cellsC_len (l : List Cl) : (cellsC l).length = l.length * 4 := by
  induction l with
  | nil => rfl
  | cons s l ih =>
    show (encC s ++ cellsC l).length = _
    rw [List.length_append, ih, List.length_cons]
    simp only [encC, List.length_cons, List.length_nil]
    omega
theorem cellsC_at {l : List Cl} {k : Nat} {s : Cl} (h : l[k]? = some s) : (cellsC l)[k * 4]? = some (.int .i64 s.1.1) ∧ (cellsC l)[k * 4 + 1]? = some (.int .i64 s.1.2) ∧ (cellsC l)[k * 4 + 2]? = some (.int .i64 s.2.1) ∧ (cellsC l)[k * 4 + 3]? = some (.int .i64 s.2.2) := by
  induction l generalizing k with
  | nil => simp at h
  | cons t l ih =>
    have hc : cellsC (t :: l) = .int .i64 t.1.1 :: .int .i64 t.1.2 :: .int .i64 t.2.1 :: .int .i64 t.2.2 :: cellsC l := rfl
    cases k with
    | zero =>
      simp at h
      subst h
      exact ⟨rfl, rfl, rfl, rfl⟩
    | succ k =>
      have := ih (k := k) (by simpa using h)
      rw [hc]
      have e0 : (k + 1) * 4 = k * 4 + 1 + 1 + 1 + 1 := by omega
      have e1 : (k + 1) * 4 + 1 = (k * 4 + 1) + 1 + 1 + 1 + 1 := by omega
      have e2 : (k + 1) * 4 + 2 = (k * 4 + 2) + 1 + 1 + 1 + 1 := by omega
      have e3 : (k + 1) * 4 + 3 = (k * 4 + 3) + 1 + 1 + 1 + 1 := by omega
      rw [e3, e2, e1, e0]
      simpa using this
/-- The four cells of a cluster in a slice, as the walk spells them. -/
theorem Rd.clus {w : World} {A : Option Addr} {n k : Nat} {l : List Cl} {s : Cl} (hr : Rd w 4 A n (cellsC l)) (h : l[k]? = some s) : ∃ ad, A = some ad ∧ ad.block < w.heap.size ∧ w.cell? (ad.add (k * 4)) = some (.int .i64 s.1.1) ∧
    w.cell? ⟨(ad.add (k * 4)).block, (ad.add (k * 4)).off + 1, none⟩ = some (.int .i64 s.1.2) ∧ w.cell? ⟨(ad.add (k * 4)).block, (ad.add (k * 4)).off + 2, none⟩ = some (.int .i64 s.2.1) ∧ w.cell? ⟨(ad.add (k * 4)).block, (ad.add (k * 4)).off + 3, none⟩ = some (.int .i64 s.2.2) := by
  have hlen : l.length * 4 = n * 4 := by rw [← cellsC_len]; exact hr.1
  have hk := (List.getElem?_eq_some_iff.1 h).1
  obtain ⟨ad, rfl, hb, hc⟩ := hr.2 (by omega)
  obtain ⟨e0, e1, e2, e3⟩ := cellsC_at h
  have h1 := hc _ _ e1
  have h2 := hc _ _ e2
  have h3 := hc _ _ e3
  rw [addNext ad (k * 4) 0] at h1
  rw [addNext ad (k * 4) 1] at h2
  rw [addNext ad (k * 4) 2] at h3
  exact ⟨ad, rfl, hb, hc _ _ e0, h1, h2, h3⟩
theorem oneInt4 (k : IntKind) (a b c d : Int) : ∀ u ∈ [Value.int k a, .int k b, .int k c, .int k d], u.oneCell' = true := by
  intro u hu
  simp at hu
  rcases hu with rfl | rfl | rfl | rfl <;> rfl
theorem clusSlice : SliceOf Tryz.prog 28 41 4 32 := .mk_ (z := .agg #[.int .i64 0, .int .i64 0, .int .i64 0, .int .i64 0]) Tryz.underlying28 (by kernel_rfl) rfl


theorem clusInfo : (Tryz.prog.info? 41).map (fun i => (i.zero, i.size, i.bytes)) = some (some (.agg #[.int .i64 0, .int .i64 0, .int .i64 0, .int .i64 0]), 4, 32) := by kernel_rfl
/-- A row of clusters while its first k elements are filled. -/
def fillC (l : List Cl) (k : Nat) : List Value := cellsC (l.take k) ++ List.replicate ((l.length - k) * 4) (.int .i64 0)
theorem fillC_start (l : List Cl) : fillC l 0 = List.replicate (l.length * 4) (.int .i64 0) := by simp [fillC, cellsC]
theorem fillC_end (l : List Cl) : fillC l l.length = cellsC l := by simp [fillC]
theorem fillC_step {l : List Cl} {k : Nat} {s : Cl} (h : l[k]? = some s) : ((((fillC l k).set (k * 4) (.int .i64 s.1.1)).set (k * 4 + 1) (.int .i64 s.1.2)).set (k * 4 + 2) (.int .i64 s.2.1)).set (k * 4 + 3) (.int .i64 s.2.2) = fillC l (k + 1) := by
  have hlt := (List.getElem?_eq_some_iff.1 h).1
  have hc : (cellsC (l.take k)).length = k * 4 := by rw [cellsC_len, List.length_take]; omega
  have hs : cellsC (l.take (k + 1)) = cellsC (l.take k) ++ [.int .i64 s.1.1, .int .i64 s.1.2, .int .i64 s.2.1, .int .i64 s.2.2] := by rw [List.take_add_one, h]; simp [cellsC, encC]
  unfold fillC
  obtain ⟨m, hm⟩ : ∃ m, l.length - k = m + 1 := ⟨l.length - k - 1, by omega⟩
  have hm2 : l.length - (k + 1) = m := by omega
  rw [hm, hm2, hs, show (m + 1) * 4 = m * 4 + 1 + 1 + 1 + 1 by omega, List.replicate_succ, List.replicate_succ, List.replicate_succ, List.replicate_succ,
    List.set_append_right _ _ (by omega), hc, Nat.sub_self, List.set_cons_zero, List.set_append_right _ _ (by omega), hc, show k * 4 + 1 - k * 4 = 1 by omega, List.set_append_right _ _ (by omega), hc, show k * 4 + 2 - k * 4 = 2 by omega, List.set_append_right _ _ (by omega), hc, show k * 4 + 3 - k * 4 = 3 by omega]
  simp
end Go.Proofs.YtcbiaeeifclieaaGreatDoor
/- A map of spans that the call itself has made, as a function of the place: looked up, stored, deleted. -/
namespace Go.Proofs.YtcbiaeeifclieaaGreatDoor
open Go.RowKit

def spanD (s : Sp) : DataW Unit := .agg [.lit (.int .i64 s.1), .lit (.int .i64 s.2)]
/-- How a span in a map reads. -/
def spanElem : Value → Option (DataW Unit × List MemPlace)
  | .agg ⟨[.int .i64 a, .int .i64 b]⟩ => some (spanD (a, b), [])
  | _ => none
theorem spanElem_mk (s : Sp) : spanElem (valS s) = some (spanD s, []) := rfl
theorem spanElem_inv {v : Value} {z : DataW Unit × List MemPlace} (h : spanElem v = some z) : ∃ s : Sp, v = valS s ∧ z = (spanD s, []) := by
  unfold spanElem at h
  split at h
  · rename_i a b
    exact ⟨(a, b), rfl, (Option.some.inj h).symm⟩
  · simp at h
theorem spanD_inj {s t : Sp} (h : spanD s = spanD t) : s = t := by
  unfold spanD at h
  simp only [DataW.agg.injEq, List.cons.injEq, DataW.lit.injEq, Lit.int.injEq, true_and, and_true] at h
  exact Prod.ext h.1 h.2
theorem key_wf {k : Nat} (h : k ≤ 100000000) : (Lit.int .i64 (k : Int)).wf = true := by
  simp [Lit.wf, IntKind.min, IntKind.max, IntKind.signed, IntKind.bits]; omega
/-- How many places below n have a span. -/
def cntM (M : Nat → Option Sp) : Nat → Nat
  | 0 => 0
  | n + 1 => cntM M n + (if (M n).isSome = true then 1 else 0)
theorem cntM_le (M : Nat → Option Sp) (n : Nat) : cntM M n ≤ n := by
  induction n with
  | zero => exact Nat.le_refl _
  | succ n ih => unfold cntM; split <;> omega
def putM (M : Nat → Option Sp) (k : Nat) (s : Sp) : Nat → Option Sp := fun j => if j = k then some s else M j
def delM (M : Nat → Option Sp) (k : Nat) : Nat → Option Sp := fun j => if j = k then none else M j
theorem cntM_far {M N : Nat → Option Sp} {n : Nat} (h : ∀ j, j < n → M j = N j) : cntM M n = cntM N n := by
  induction n with
  | zero => rfl
  | succ n ih => unfold cntM; rw [ih (fun j hj => h j (by omega)), h n (by omega)]
theorem cntM_put {M : Nat → Option Sp} {n k : Nat} (hk : k < n) (s : Sp) : cntM (putM M k s) n = if (M k).isSome = true then cntM M n else cntM M n + 1 := by
  induction n with
  | zero => omega
  | succ n ih =>
    by_cases e : k = n
    · subst e
      unfold cntM
      rw [cntM_far (M := putM M k s) (N := M) (fun j hj => if_neg (by omega)), show putM M k s k = some s from if_pos rfl]
      cases hm : (M k).isSome <;> simp
    · have h1 := ih (by omega)
      unfold cntM
      rw [h1, show putM M k s n = M n from if_neg (fun h => e h.symm)]
      cases hm : (M k).isSome <;> simp <;> omega
theorem cntM_del {M : Nat → Option Sp} {n k : Nat} (hk : k < n) : cntM (delM M k) n + (if (M k).isSome = true then 1 else 0) = cntM M n := by
  induction n with
  | zero => omega
  | succ n ih =>
    by_cases e : k = n
    · subst e
      unfold cntM
      rw [cntM_far (M := delM M k) (N := M) (fun j hj => if_neg (by omega)), show delM M k k = none from if_pos rfl]
      simp
    · have h1 := ih (by omega)
      unfold cntM
      rw [show delM M k n = M n from if_neg (fun h => e h.symm)]
      omega
/-- Block m is a map of places below n that has these spans. -/
def MapAt (w : World) (m n : Nat) (M : Nat → Option Sp) : Prop :=
  (∃ D : DataW Unit, w.ownsMap Tryz.prog 3 spanElem m n D ∧ Maps.size D = cntM M n ∧ ∀ k : Nat, Maps.has D (.int .i64 (k : Int)) = (M k).isSome ∧ D.atKey (.int .i64 (k : Int)) (spanD (0, 0)) = spanD ((M k).getD (0, 0)))
section
variable {w w' : World} {m n : Nat} {M : Nat → Option Sp}
theorem MapAt.drew (h : MapAt w m n M) : MapAt w.drew m n M := h
theorem MapAt.lt (h : MapAt w m n M) : m < w.heap.size := by obtain ⟨D, h, _⟩ := h; exact h.lt
theorem MapAt.heap (h : MapAt w m n M) (he : w'.heap[m]? = w.heap[m]?) : MapAt w' m n M := by
  obtain ⟨D, ⟨es, clock, h1, h2, h3, h4⟩, h5⟩ := h
  exact ⟨D, ⟨es, clock, he.trans h1, h2, h3, h4⟩, h5⟩
theorem MapAt.kept {S : List Nat} (h : MapAt w m n M) (hk : Kept w w' S) (hs : m ∉ S) : MapAt w' m n M := h.heap (hk.block m h.lt hs)
theorem fit_none : WideElems.Fit Tryz.prog 3 spanElem #[] 0 := by
  obtain ⟨es, clock, h1, h2, _⟩ := World.ownsMap_made (default : World) Tryz.prog 3 spanElem
  rw [heap_alloc_new] at h1
  injection h1 with h1
  injection h1 with h1 h3
  subst h1 h3
  exact h2
theorem cntM_none (n : Nat) : cntM (fun _ => none) n = 0 := by
  induction n with
  | zero => rfl
  | succ n ih => unfold cntM; rw [ih]; rfl
theorem MapAt.none_ (h : w.heap[m]? = some (.map #[] 0)) (n : Nat) : MapAt w m n (fun _ => none) :=
  ⟨.map [], ⟨#[], 0, h, fit_none, Nat.zero_le _, by simp⟩, by rw [cntM_none]; rfl, fun k => ⟨rfl, rfl⟩⟩
theorem own_fit {k : TypeId} {R : Value → Option (DataW Unit × List MemPlace)} {b c : Nat} {D : DataW Unit} (h : w.ownsMap Tryz.prog k R b c D) {c' : Nat} (hc : Maps.size D ≤ c') : w.ownsMap Tryz.prog k R b c' D := by
  obtain ⟨es, clock, h1, h2, h3, rfl⟩ := h
  refine ⟨es, clock, h1, h2, ?_, rfl⟩
  have := length_read (P := Tryz.prog) (k := k) (R0 := R) es
  unfold Maps.size at hc
  simp only [this] at hc
  exact hc
theorem int_map : Maps.Keyed Tryz.prog 3 := Maps.int_keyed Tryz.underlying3
theorem map_type : Tryz.prog.underlying 170 = some (.map 3 39) := Tryz.underlying170
theorem span_zero (w : World) : (zeroValue 39).run Tryz.prog w = .ok (valS (0, 0)) w := Tryz.zeroValue39 w
theorem MapAt.look (h : MapAt w m n M) {k : Nat} (hk : k ≤ 100000000) : (Instr.lookup 170 (.map (some m)) (.int .i64 (k : Int)) false).run Tryz.prog w = .ok (valS ((M k).getD (0, 0))) w := by
  obtain ⟨D, h1, _, h2⟩ := h
  obtain ⟨v, ps, hrun, hv⟩ := h1.lookup int_map map_type (span_zero w) (spanElem_mk (0, 0)) (Maps.keyOf_int_mk Tryz.underlying3 (key_wf hk))
  obtain ⟨s, rfl, hz⟩ := spanElem_inv hv
  rw [(h2 k).2] at hz
  rw [hrun, spanD_inj (congrArg Prod.fst hz)]
theorem MapAt.look_ok (h : MapAt w m n M) {k : Nat} (hk : k ≤ 100000000) : (Instr.lookup 170 (.map (some m)) (.int .i64 (k : Int)) true).run Tryz.prog w = .ok (.tuple #[valS ((M k).getD (0, 0)), .bool (M k).isSome]) w := by
  obtain ⟨D, h1, _, h2⟩ := h
  obtain ⟨v, ps, hrun, hv⟩ := h1.look_ok int_map map_type (span_zero w) (spanElem_mk (0, 0)) (Maps.keyOf_int_mk Tryz.underlying3 (key_wf hk))
  obtain ⟨s, rfl, hz⟩ := spanElem_inv hv
  rw [(h2 k).2] at hz
  rw [hrun, (h2 k).1, spanD_inj (congrArg Prod.fst hz)]
set_option maxRecDepth 100000 in
theorem MapAt.store (h : MapAt w m n M) {k : Nat} (hk : k < n) (hc : n ≤ 100000000) (s : Sp) : ∃ w', (Instr.mapUpdate 170 (.map (some m)) (.int .i64 (k : Int)) (valS s)).run Tryz.prog w = .ok () w' ∧ MapAt w' m n (putM M k s) ∧ w.mapTurned w' m := by
  obtain ⟨D, h1, hsz, h2⟩ := h
  have hl : WideAt.IsKeyLit (.int .i64 (k : Int)) := trivial
  have htd := h1.tidy int_map
  obtain ⟨w', hrun, h3, h4⟩ := h1.store int_map map_type (by unfold maxLen; omega) (Maps.keyOf_int_mk Tryz.underlying3 (key_wf (k := k) (by omega))) (spanElem_mk s)
  have hsz2 : Maps.size (D.put (.int .i64 (k : Int)) (spanD s)) = cntM (putM M k s) n := by
    rw [Maps.size_put htd, (h2 k).1, hsz, cntM_put hk]
  refine ⟨w', hrun, ⟨_, own_fit h3 (by rw [hsz2]; exact cntM_le _ _), hsz2, fun j => ?_⟩, h4⟩
  unfold putM
  by_cases e : j = k
  · subst e
    rw [if_pos rfl]
    exact ⟨Maps.has_put_same h1.isMap hl _, Maps.atKey_put_same h1.isMap hl _ _⟩
  · rw [if_neg e]
    have hne : (Lit.int .i64 (j : Int)) ≠ .int .i64 (k : Int) := fun e9 => e (by have := (Lit.int.inj e9).2; omega)
    exact ⟨(Maps.has_put_other hne _).trans (h2 j).1, (Maps.atKey_put_other hne _ _).trans (h2 j).2⟩
set_option maxRecDepth 100000 in
theorem MapAt.drop (h : MapAt w m n M) {k : Nat} (hk : k < n) (hc : n ≤ 100000000) (ty : TypeId) : ∃ w', (Builtin.delete_ #[170, 3] ty #[.map (some m), .int .i64 (k : Int)]).run Tryz.prog w = .ok (.tuple #[]) w' ∧ MapAt w' m n (delM M k) ∧ w.mapTurned w' m := by
  obtain ⟨D, h1, hsz, h2⟩ := h
  have htd := h1.tidy int_map
  obtain ⟨w', hrun, h3, h4⟩ := h1.drop int_map map_type (Maps.keyOf_int_mk Tryz.underlying3 (key_wf (k := k) (by omega))) ty
  have hsz2 : Maps.size (D.del (.int .i64 (k : Int))) = cntM (delM M k) n := by
    have e1 := Maps.size_del (k := .int .i64 (k : Int)) htd
    have e2 := cntM_del (M := M) hk
    rw [(h2 k).1] at e1
    omega
  refine ⟨w', hrun, ⟨_, h3, hsz2, fun j => ?_⟩, h4⟩
  unfold delM
  by_cases e : j = k
  · subst e
    rw [if_pos rfl]
    exact ⟨Maps.has_del_same, Maps.atKey_del_same _⟩
  · rw [if_neg e]
    have hne : (Lit.int .i64 (j : Int)) ≠ .int .i64 (k : Int) := fun e9 => e (by have := (Lit.int.inj e9).2; omega)
    exact ⟨(Maps.has_del_other hne).trans (h2 j).1, (Maps.atKey_del_other hne _).trans (h2 j).2⟩
theorem kept_turned (h : w.mapTurned w' m) : Kept w w' [m] := Kept.of_grown h.grown (List.mem_singleton_self _)
end
end Go.Proofs.YtcbiaeeifclieaaGreatDoor
/- The hull of spans, as plain mathematics. -/
namespace Go.Proofs.YtcbiaeeifclieaaGreatDoor
open Go.RowKit
/-- The span around two. -/
def hullMore (st s : Sp) : Sp := (if s.1 < st.1 then s.1 else st.1, if st.2 < s.2 then s.2 else st.2)
def hullStep (st s : Sp) : Sp := if rightB s = true then hullMore (if rightB st = true then st else s) s else st
def hullS (l : List Sp) : Sp := l.foldl hullStep (0, 0)
end Go.Proofs.YtcbiaeeifclieaaGreatDoor
/- slices.Reverse at []int: the row, the other way round. -/
namespace Go.Proofs.YtcbiaeeifclieaaGreatDoor
open Go.RowKit

/-- After k exchanges from both ends. -/
def RvAt (xs ys : List Int) (n k : Nat) : Prop := ys.length = n ∧ ∀ p, p < n → ys[p]? = if p < k ∨ n ≤ p + k then xs[n - 1 - p]? else xs[p]?
theorem RvAt.step {xs ys : List Int} {n k : Nat} (h : RvAt xs ys n k) (hk : k + (k + 1) < n) {a b : Int} (ha : ys[k]? = some a) (hb : ys[n - 1 - k]? = some b) : RvAt xs ((ys.set k b).set (n - 1 - k) a) n (k + 1) := by
  refine ⟨by simp [h.1], fun p hp => ?_⟩
  have h1 := h.2 k (by omega)
  rw [if_neg (by omega), ha] at h1
  have h2 := h.2 (n - 1 - k) (by omega)
  rw [if_neg (by omega), hb] at h2
  by_cases e1 : p = n - 1 - k
  · subst e1
    rw [List.getElem?_set_self (by simp [h.1]; omega), if_pos (by omega), show n - 1 - (n - 1 - k) = k by omega]
    exact h1
  · rw [List.getElem?_set_ne (fun e => e1 e.symm)]
    by_cases e2 : p = k
    · subst e2
      rw [List.getElem?_set_self (by rw [h.1]; omega), if_pos (by omega)]
      exact h2
    · rw [List.getElem?_set_ne (fun e => e2 e.symm), h.2 p hp]
      by_cases e3 : p < k ∨ n ≤ p + k
      · rw [if_pos e3, if_pos (by omega)]
      · rw [if_neg e3, if_neg (by omega)]
theorem RvAt.done {xs ys : List Int} {n k : Nat} (h : RvAt xs ys n k) (hx : xs.length = n) (hk : n ≤ k + (k + 1)) : ys = xs.reverse := by
  apply List.ext_getElem?
  intro p
  by_cases hp : p < n
  · rw [h.2 p hp, List.getElem?_reverse (by omega), hx]
    by_cases e : p < k ∨ n ≤ p + k
    · rw [if_pos e]
    · rw [if_neg e, show n - 1 - p = p by omega]
  · rw [List.getElem?_eq_none (by rw [h.1]; omega), List.getElem?_eq_none (by simp; omega)]
theorem grownRv {a b c : World} {row : Option Nat} (h : a.grownBy b row) (k : b.grownBy c row) : a.grownBy c row :=
  ⟨k.os.trans h.os, k.tape.trans h.tape, k.output.trans h.output, Nat.le_trans h.size k.size, fun i hi hr => (k.block i (Nat.lt_of_lt_of_le hi h.size) hr).trans (h.block i hi hr)⟩
set_option maxRecDepth 100000 in
set_option maxHeartbeats 1000000 in
theorem reverseI_any (base g c n : Nat) (xs : List Int) (w : World) (hown : w.ownsRow base 3 1 (.slice (some ⟨g, 0, none⟩) n c) n (xs.map (Value.int .i64))) (hn : n ≤ 200000000) :
    Calls Tryz.prog 76 #[.slice (some ⟨g, 0, none⟩) n c] w fun e w' => e = .returned (.tuple #[]) ∧ w'.ownsRow base 3 1 (.slice (some ⟨g, 0, none⟩) n c) n (xs.reverse.map (Value.int .i64)) ∧ w.grownBy w' (some g) := by
  have hlen : xs.length = n := by have := hown.1; rw [List.length_map] at this; omega
  have HL := Lib.hid hlen
  have HO := Lib.hid hown
  have HR0 := Lib.hid (show RvAt xs xs n 0 from ⟨hlen, fun p hp => by rw [if_neg (by omega)]⟩)
  clear hlen hown
  go_enter Tryz.func76, Tryz.ntmps76
  go_wp2_with fail
  go_loopw [2, 3] (fun i j ws => ∃ (k : Nat) (jj : Int) (ys : List Int), i = .int .i64 (k : Int) ∧ j = .int .i64 jj ∧ jj = (n : Int) - 1 - (k : Int) ∧ k ≤ n ∧ RvAt xs ys n k ∧ ws.ownsRow base 3 1 (.slice (some ⟨g, 0, none⟩) n c) n (ys.map (Value.int .i64)) ∧ w.grownBy ws (some g)) (fun i _ _ => n - (intOf i).toNat)
  case atStart => exact ⟨0, (n : Int) - 1, xs, rfl, rfl, by omega, Nat.zero_le _, HR0.out, HO.out, World.grownBy.refl w _⟩
  case round =>
    obtain ⟨k, jj, ys, rfl, rfl, hjj, hkn, hrv, hownr, hgr⟩ := hrel
    by_cases hlt : (k : Int) < jj
    · obtain ⟨jn, hjn⟩ : ∃ jn : Nat, jj = (jn : Int) := ⟨jj.toNat, by omega⟩
      subst hjn
      have hjn2 : jn = n - 1 - k := by omega
      have hkj : k < jn := by omega
      have hjl : jn < n := by omega
      have HJ := Lib.hid hjj
      have HJ2 := Lib.hid hjn2
      obtain ⟨a, ha⟩ : ∃ a, ys[k]? = some a := ⟨_, List.getElem?_eq_getElem (by rw [hrv.1]; omega)⟩
      obtain ⟨b, hb⟩ : ∃ b, ys[jn]? = some b := ⟨_, List.getElem?_eq_getElem (by rw [hrv.1]; omega)⟩
      have ck : wr.cell? ⟨g, k, none⟩ = some (.int .i64 a) := by rw [hownr.cellAt k (by omega), List.getElem?_map, ha]; rfl
      have cj : wr.cell? ⟨g, jn, none⟩ = some (.int .i64 b) := by rw [hownr.cellAt jn (by omega), List.getElem?_map, hb]; rfl
      have fk := hownr.frozenAt k
      have fj := hownr.frozenAt jn
      have HRV := Lib.hid (show RvAt xs ((ys.set k b).set jn a) n (k + 1) by rw [hjn2] at hb ⊢; exact hrv.step (by omega) ha hb)
      have HOW := Lib.hid (show ∀ W, W = ((wr.setCell ⟨g, k, none⟩ (.int .i64 b)).setCell ⟨g, jn, none⟩ (.int .i64 a)).drew → W.ownsRow base 3 1 (.slice (some ⟨g, 0, none⟩) n c) n (((ys.set k b).set jn a).map (Value.int .i64)) ∧ w.grownBy W (some g) from fun W e => by
        have h1 := hownr.stored k (.int .i64 b)
        rw [← List.map_set] at h1
        have h2 := h1.1.stored jn (.int .i64 a)
        rw [← List.map_set] at h2
        have h3 := grownRv (grownRv hgr h1.2) h2.2
        rw [e]
        exact ⟨h2.1, ⟨h3.os, h3.tape, h3.output, h3.size, h3.block⟩⟩)
      clear hjj hjn2 ha hb hrv hownr hgr
      go_wp2_with fail
      go_region
      clear ck cj fk fj
      go_wp2_with fail
      go_roundw
      case rel => exact ⟨k + 1, (jn : Int) - 1, _, by go_num, rfl, by have := HJ.out; omega, by omega, HRV.out, (HOW.out _ rfl).1, (HOW.out _ rfl).2⟩
      case measure => simp [intOf]; omega
    · have HD := Lib.hid (hrv.done HL.out (by omega))
      have HO2 := Lib.hid hownr
      rw [HD.out] at HO2
      have HG := Lib.hid hgr
      clear hrv hownr hgr hjj
      go_wp2_with fail
      exact bodyPost_end (v := .tuple #[]) (by simp [results, go_sem]) rfl ⟨rfl, by rw [← List.map_reverse]; exact HO2.out, HG.out⟩
set_option maxRecDepth 100000 in
set_option maxHeartbeats 1000000 in
theorem reverseI_v (base n : Nat) (v : Value) (xs : List Int) (w : World) (hown : w.ownsRow base 3 1 v n (xs.map (Value.int .i64))) (hn : n ≤ 200000000) :
    Calls Tryz.prog 76 #[v] w fun e w' => e = .returned (.tuple #[]) ∧ w'.ownsRow base 3 1 v n (xs.reverse.map (Value.int .i64)) ∧ w.grownBy w' v.ownBlock := by
  rcases hown.2 with ⟨rfl, rfl⟩ | ⟨g, c, _, rfl, _⟩
  · have hx : xs = [] := by
      have := hown.1
      rw [List.length_map] at this
      exact List.eq_nil_of_length_eq_zero (by omega)
    subst hx
    have HO := Lib.hid hown
    clear hown
    go_enter Tryz.func76, Tryz.ntmps76
    go_wp2_with fail
    refine wp_loop_rounds 1 ?_
    rw [rounds_succ]
    go_wp2_with fail
    exact bodyPost_end (v := .tuple #[]) (by simp [results, go_sem]) rfl ⟨rfl, HO.out, World.grownBy.refl w _⟩
  · exact reverseI_any base g c n xs w hown hn
end Go.Proofs.YtcbiaeeifclieaaGreatDoor
/- cells' told, walked: the codes of a part of the cells, in a row of the call's own. -/
namespace Go.Proofs.YtcbiaeeifclieaaGreatDoor
open Go.RowKit

theorem intSliceT : SliceOf Tryz.prog 22 3 1 8 := .mk_ (z := .int .i64 0) Tryz.underlying22 (by kernel_rfl) rfl
set_option maxRecDepth 100000 in
set_option maxHeartbeats 2000000 in
theorem told_any (base b gc n lo hi : Nat) (R : List RC) (va : Value) (ah : List Int) (w : World) (hC : CellsAt w base b gc n R va ah) (h1 : lo < hi) (h2 : hi ≤ n) (hn : n ≤ 100000000) (ht : ah.length + lenR R ≤ 100000000) :
    Calls Tryz.prog 46 #[.pointer (some ⟨b, 0, none⟩), .agg #[.int .i64 (lo : Int), .int .i64 (hi : Int)]] w fun e w' => ∃ v, e = .returned v ∧ w'.ownsRow w.heap.size 3 1 v (toldR R ah lo hi).length ((toldR R ah lo hi).map (Value.int .i64)) ∧ Below w.heap.size w w' := by
  obtain ⟨Aa, ca, rfl, _⟩ := own_form hC.arow
  have hbn := below_new w (.cells #[.int .i64 (lo : Int), .int .i64 (hi : Int)] 39)
  have hC2 := hC.low hbn
  have s1 := SpanBlk.new_ w (lo : Int) (hi : Int) 39
  obtain ⟨W1, hW1⟩ : ∃ W1, w.alloc (.cells #[.int .i64 (lo : Int), .int .i64 (hi : Int)] 39) = W1 := ⟨_, rfl⟩
  rw [hW1] at hbn hC2 s1
  obtain ⟨d0, d1, f0, f1⟩ := s1
  obtain ⟨bs, hbs⟩ : ∃ bs, w.heap.size = bs := ⟨_, rfl⟩
  rw [hbs] at d0 d1
  have HC1 := Lib.hid hC2
  have HB1 := Lib.hid hbn
  have hlo : (lo : Int) < (n : Int) := by omega
  have hhi : (hi : Int) ≤ (n : Int) := by omega
  have hlh : (lo : Int) ≤ (hi : Int) := by omega
  have hne : ¬ (n = lo) := by omega
  have hcl := cntR_le R ah lo hi
  clear hC hC2 hbn f0 f1
  go_enter Tryz.func46, Tryz.ntmps46
  go_wp2_with fail
  refine (count_any base b gc n lo hi R _ ah W1 HC1.out h1 h2 hn ht).mono ?_
  rintro e w2 ⟨rfl, hb2⟩
  have e0 := cell_below hb2 d0
  have e1 := cell_below hb2 d1
  have hC2 := HC1.out.low hb2
  have HB2 := Lib.hid (below_self HB1.out hb2)
  have HC2 := Lib.hid hC2
  obtain ⟨cq, hcq⟩ : ∃ cq, cntR R ah lo hi = cq := ⟨_, rfl⟩
  rw [hcq] at hcl ⊢
  clear hcq d0 d1 hb2 hC2 HC1
  by_cases hz : lo = 0
  · have g0 : ((lo : Int) == 0) = true := by simp; omega
    have HLO := Lib.hid hz
    clear hz
    go_wp2_with (first
      | (at_make; refine wpList_mk rfl _ _ _ rfl (base := w2.heap.size) intSliceT (cq : Int) cq rfl rfl rfl (by omega) (by unfold maxLen; omega) (Nat.le_refl _) ?_; intro v3 w3 hown3 hg3; have hb3 := below_make hg3; have x0 := cell_below hb3 e0; have x1 := cell_below hb3 e1; have y0 := hp_cell (j := 0) (HC2.out.low hb3).hb rfl; have y1 := hp_cell (j := 1) (HC2.out.low hb3).hb rfl)
      | (at_builtin; refine wpList_appR rfl _ _ _ rfl intSliceT (by decide) v3 0 [] rfl hown3 Aa ah.length ca (ah.map (Value.int .i64)) rfl (Rd.of_own (HC2.out.low hb3).arow) (oneInts _ _) (by omega) (by unfold maxLen; omega) hb3.size ?_; intro v4 w4 hown4 hg4 hat4; simp only [Nat.zero_add, List.nil_append] at hown4))
    have hb4 := hb3.grown hg4 hb3.size (fun k hk => (hown3.lt k hk).1)
    have hB4 : v4.ownBlock = none ∨ ∃ g, v4.ownBlock = some g ∧ w2.heap.size ≤ g := by
      rcases h : v4.ownBlock with _ | g
      · exact .inl rfl
      · exact .inr ⟨g, rfl, (hown4.lt g h).1⟩
    refine (reverseI_v w2.heap.size ah.length v4 ah w4 hown4 (by omega)).mono ?_
    rintro e w5 ⟨rfl, hown5, hg5⟩
    have hb5 := hb4.grown hg5 hb4.size (fun k hk => (hown4.lt k hk).1)
    have z0 := hp_cell (j := 0) (HC2.out.low hb5).hb rfl
    have z1 := cell_below hb5 e0
    have z2 := cell_below hb5 e1
    clear e0 e1 x0 x1 y0 y1 hown3 hg3 hb3 hown4 hg4 hat4 hB4 hb4 hg5
    go_wp2_with fail
    go_quiet (fail)
    go_wp2_with fail
    obtain ⟨z, hz⟩ : ∃ z : List Int, z = ah.reverse := ⟨_, rfl⟩
    have HZ := Lib.hid (show toldR R ah lo hi = z ++ codesR (partR R lo hi) by unfold toldR; rw [hz]; simp [HLO.out])
    have hzt : z.length + lenR (partR R lo hi) ≤ 100000000 := by
      have h8 := toldR_len R ah lo hi
      rw [HZ.out, List.length_append, lenR_codes] at h8
      rw [h8]
      exact Nat.le_trans (cntR_le R ah lo hi) ht
    have HOZ0 := Lib.hid (show (w5.drewN nq).ownsRow w2.heap.size 3 1 v4 z.length (z.map (Value.int .i64)) by rw [hz, List.length_reverse]; exact hown5)
    have HBZ0 := Lib.hid (show Below w2.heap.size w2 (w5.drewN nq) from below_drew hb5 nq)
    clear hz hown5 hb5 z0 z1 z2
    go_loopw [5, 33] (fun s i ws => ∃ (k : Nat) (acc : List Int), k ≤ hi - lo ∧ i = .int .i64 (k : Int) ∧ acc = z ++ codesR ((partR R lo hi).take k) ∧ ws.ownsRow w2.heap.size 3 1 s acc.length (acc.map (Value.int .i64)) ∧ Below w2.heap.size w2 ws) (fun _ i _ => (hi - lo) - (intOf i).toNat)
    case atStart => exact ⟨0, z, Nat.zero_le _, rfl, by simp [codesR], HOZ0.out, HBZ0.out⟩
    case round =>
      clear HOZ0 HBZ0
      obtain ⟨k, acc, hk, rfl, hacc, hown, hb⟩ := hrel
      have HACC := Lib.hid hacc
      have hlk := lenR_le (partR R lo hi) k
      by_cases hlt : k < hi - lo
      · obtain ⟨r, hr⟩ : ∃ r, R[lo + k]? = some r := ⟨_, List.getElem?_eq_getElem (by rw [HC2.out.len]; omega)⟩
        have HCW := HC2.out.low hb
        obtain ⟨c0, c1⟩ := HCW.cell hr
        have hrow := HCW.rows _ _ hr
        have hpr : (partR R lo hi)[k]? = some r := by rw [partR_at hlt]; exact hr
        have HT := Lib.hid (codesR_take hpr)
        have hlt1 := lenR_take hpr
        have hlk1 := lenR_le (partR R lo hi) (k + 1)
        have hal : acc.length = z.length + lenR ((partR R lo hi).take k) := by rw [hacc, List.length_append, lenR_codes]
        obtain ⟨v, e, l⟩ := r
        obtain ⟨Ai, ci, hv, _⟩ := own_form hrow
        simp only at hv
        subst hv
        rw [show (lo + k) * 2 = lo * 2 + k * 2 by omega] at c0 c1
        simp only at c0 c1 hlt1 HT hrow
        have hbn := below_new wr (.cells #[.slice Ai l.length ci, .int .i64 e] 139)
        have hnw := cells_new wr [.slice Ai l.length ci, .int .i64 e] 139
        have d0 := hnw 0 _ rfl
        rw [addNew] at d0
        have HRR := Lib.hid (Rd.of_own (own_below hrow hbn))
        have HOW := Lib.hid (own_below hown hbn)
        have HBW := Lib.hid (below_self hb hbn)
        have hbz : acc.length + l.length ≤ 100000000 := by omega
        clear hnw HCW hrow hpr hr hb hbn hacc hown hal hlt1 hlk1 hlk
        go_wp2_with (at_builtin; refine wpList_appR rfl _ _ _ rfl intSliceT (by decide) u5 acc.length _ rfl HOW.out Ai l.length ci _ rfl HRR.out (oneInts _ _) (by omega) (by unfold maxLen; omega) HBW.out.size ?_; intro v9 w9 hown9 hg9 hat9)
        have HB9 := Lib.hid (HBW.out.grown hg9 HBW.out.size (fun b hb => (HOW.out.lt b hb).1))
        have HO9 := Lib.hid (show w9.ownsRow w2.heap.size 3 1 v9 (acc ++ l).length ((acc ++ l).map (Value.int .i64)) by rw [List.length_append, List.map_append]; exact hown9)
        clear hown9 hg9 hat9
        go_roundw
        case rel => exact ⟨k + 1, acc ++ l, by omega, by go_num, by rw [HT.out, HACC.out, List.append_assoc], HO9.out, HB9.out⟩
        case measure => simp [intOf]; omega
      · have hkm : k = hi - lo := by omega
        have HE := Lib.hid (show acc = toldR R ah lo hi by rw [HZ.out, HACC.out, hkm, List.take_of_length_le (Nat.le_of_eq (partR_len HC2.out.len h2))])
        have HO9 := Lib.hid (own_base hown HB2.out.size)
        have HB9 := Lib.hid (below_self HB2.out hb)
        rw [HE.out] at HO9
        clear hkm hown hb hacc hlk
        go_wp2_with fail
        go_ret
        exact ⟨u5, rfl, HO9.out, HB9.out⟩
  · have g0 : ((lo : Int) == 0) = false := by simp; omega
    have HLO := Lib.hid hz
    clear hz
    go_wp2_with (at_make; refine wpList_mk rfl _ _ _ rfl (base := w2.heap.size) intSliceT (cq : Int) cq rfl rfl rfl (by omega) (by unfold maxLen; omega) (Nat.le_refl _) ?_; intro v3 w3 hown3 hg3; have hb3 := below_make hg3; have x0 := cell_below hb3 e0; have x1 := cell_below hb3 e1; have y0 := hp_cell (j := 0) (HC2.out.low hb3).hb rfl; have y1 := hp_cell (j := 1) (HC2.out.low hb3).hb rfl)
    go_quiet (fail)
    go_wp2_with fail
    obtain ⟨z, hz⟩ : ∃ z : List Int, z = [] := ⟨_, rfl⟩
    have HZ := Lib.hid (show toldR R ah lo hi = z ++ codesR (partR R lo hi) by unfold toldR; rw [hz]; simp [HLO.out])
    have hzt : z.length + lenR (partR R lo hi) ≤ 100000000 := by
      have h8 := toldR_len R ah lo hi
      rw [HZ.out, List.length_append, lenR_codes] at h8
      rw [h8]
      exact Nat.le_trans (cntR_le R ah lo hi) ht
    have HOZ0 := Lib.hid (show (w3.drewN nq).ownsRow w2.heap.size 3 1 v3 z.length (z.map (Value.int .i64)) by rw [hz]; exact hown3)
    have HBZ0 := Lib.hid (show Below w2.heap.size w2 (w3.drewN nq) from below_drew hb3 nq)
    clear hz hown3 hg3 hb3 x0 x1 y0 y1 e0 e1
    go_loopw [5, 33] (fun s i ws => ∃ (k : Nat) (acc : List Int), k ≤ hi - lo ∧ i = .int .i64 (k : Int) ∧ acc = z ++ codesR ((partR R lo hi).take k) ∧ ws.ownsRow w2.heap.size 3 1 s acc.length (acc.map (Value.int .i64)) ∧ Below w2.heap.size w2 ws) (fun _ i _ => (hi - lo) - (intOf i).toNat)
    case atStart => exact ⟨0, z, Nat.zero_le _, rfl, by simp [codesR], HOZ0.out, HBZ0.out⟩
    case round =>
      clear HOZ0 HBZ0
      obtain ⟨k, acc, hk, rfl, hacc, hown, hb⟩ := hrel
      have HACC := Lib.hid hacc
      have hlk := lenR_le (partR R lo hi) k
      by_cases hlt : k < hi - lo
      · obtain ⟨r, hr⟩ : ∃ r, R[lo + k]? = some r := ⟨_, List.getElem?_eq_getElem (by rw [HC2.out.len]; omega)⟩
        have HCW := HC2.out.low hb
        obtain ⟨c0, c1⟩ := HCW.cell hr
        have hrow := HCW.rows _ _ hr
        have hpr : (partR R lo hi)[k]? = some r := by rw [partR_at hlt]; exact hr
        have HT := Lib.hid (codesR_take hpr)
        have hlt1 := lenR_take hpr
        have hlk1 := lenR_le (partR R lo hi) (k + 1)
        have hal : acc.length = z.length + lenR ((partR R lo hi).take k) := by rw [hacc, List.length_append, lenR_codes]
        obtain ⟨v, e, l⟩ := r
        obtain ⟨Ai, ci, hv, _⟩ := own_form hrow
        simp only at hv
        subst hv
        rw [show (lo + k) * 2 = lo * 2 + k * 2 by omega] at c0 c1
        simp only at c0 c1 hlt1 HT hrow
        have hbn := below_new wr (.cells #[.slice Ai l.length ci, .int .i64 e] 139)
        have hnw := cells_new wr [.slice Ai l.length ci, .int .i64 e] 139
        have d0 := hnw 0 _ rfl
        rw [addNew] at d0
        have HRR := Lib.hid (Rd.of_own (own_below hrow hbn))
        have HOW := Lib.hid (own_below hown hbn)
        have HBW := Lib.hid (below_self hb hbn)
        have hbz : acc.length + l.length ≤ 100000000 := by omega
        clear hnw HCW hrow hpr hr hb hbn hacc hown hal hlt1 hlk1 hlk
        go_wp2_with (at_builtin; refine wpList_appR rfl _ _ _ rfl intSliceT (by decide) u5 acc.length _ rfl HOW.out Ai l.length ci _ rfl HRR.out (oneInts _ _) (by omega) (by unfold maxLen; omega) HBW.out.size ?_; intro v9 w9 hown9 hg9 hat9)
        have HB9 := Lib.hid (HBW.out.grown hg9 HBW.out.size (fun b hb => (HOW.out.lt b hb).1))
        have HO9 := Lib.hid (show w9.ownsRow w2.heap.size 3 1 v9 (acc ++ l).length ((acc ++ l).map (Value.int .i64)) by rw [List.length_append, List.map_append]; exact hown9)
        clear hown9 hg9 hat9
        go_roundw
        case rel => exact ⟨k + 1, acc ++ l, by omega, by go_num, by rw [HT.out, HACC.out, List.append_assoc], HO9.out, HB9.out⟩
        case measure => simp [intOf]; omega
      · have hkm : k = hi - lo := by omega
        have HE := Lib.hid (show acc = toldR R ah lo hi by rw [HZ.out, HACC.out, hkm, List.take_of_length_le (Nat.le_of_eq (partR_len HC2.out.len h2))])
        have HO9 := Lib.hid (own_base hown HB2.out.size)
        have HB9 := Lib.hid (below_self HB2.out hb)
        rw [HE.out] at HO9
        clear hkm hown hb hacc hlk
        go_wp2_with fail
        go_ret
        exact ⟨u5, rfl, HO9.out, HB9.out⟩
end Go.Proofs.YtcbiaeeifclieaaGreatDoor
/- The project's Seen. -/
namespace Go.Proofs.YtcbiaeeifclieaaGreatDoor
open Go.RowKit
theorem tlSeen_of (c : Int) (v : Bool) (hv : seenB c = v) (w : World) : Calls Tryz.prog 98 #[.int .i64 c] w fun e w' => e = .returned (.bool v) ∧ w = w' := by
  subst hv
  by_cases h1 : 1587 ≤ c
  · by_cases h2 : c ≤ 1590
    · rw [show seenB c = true from (seenB_iff c).2 ⟨h1, h2⟩]
      go_enter Tryz.func98, Tryz.ntmps98
      go_wp2
      go_ret
      exact ⟨rfl, rfl⟩
    · rw [show seenB c = false by simp [seenB, h2]]
      go_enter Tryz.func98, Tryz.ntmps98
      go_wp2
      go_ret
      exact ⟨rfl, rfl⟩
  · rw [show seenB c = false by simp [seenB, h1]]
    go_enter Tryz.func98, Tryz.ntmps98
    go_wp2
    go_ret
    exact ⟨rfl, rfl⟩
end Go.Proofs.YtcbiaeeifclieaaGreatDoor
/- The project's rise. -/
namespace Go.Proofs.YtcbiaeeifclieaaGreatDoor
open Go.RowKit
set_option maxRecDepth 100000 in
set_option maxHeartbeats 1000000 in
theorem prRise_any (A : Option Addr) (n c : Nat) (l : List Rg) (w : World) (hr : Rd w 3 A n (cellsG l)) (hn : n ≤ maxLen) :
    Calls Tryz.prog 56 #[.slice A n c] w fun e w' => e = .returned (.bool (riseB (-1) l)) ∧ Below w.heap.size w w' := by
  have HL := Lib.hid hr.lenG
  unfold maxLen at hn
  go_enter Tryz.func56, Tryz.ntmps56
  go_wp2
  go_loopw [3, 8] (fun z i wr => ∃ (k : Nat) (x : Int), k ≤ n ∧ i = .int .i64 k ∧ z = .int .i64 x ∧ riseB (-1) l = riseB x (l.drop k) ∧ Below w.heap.size w wr) (fun _ i _ => n - (intOf i).toNat)
  case atStart => exact ⟨0, -1, Nat.zero_le _, rfl, rfl, rfl, Below.refl _ _⟩
  case round =>
    obtain ⟨k, x, hk, rfl, rfl, hp, hb⟩ := hrel
    have HP := Lib.hid hp
    clear hp
    by_cases hlt : k < n
    · obtain ⟨s, hsk⟩ : ∃ s, l[k]? = some s := ⟨_, List.getElem?_eq_getElem (by rw [HL.out]; exact hlt)⟩
      obtain ⟨ad, rfl, hab, c1, c2, c3⟩ := (hr.below hb).rg hsk
      have HD := Lib.hid (dropCons hsk)
      clear hsk
      obtain ⟨lo, hi, v⟩ := s
      simp only at c1 c2 c3
      have hba := hb.alloc hb.size (.cells #[.int .i64 lo, .int .i64 hi, .int .i64 v] 118)
      have hc : lo ≤ x ∨ (x < lo ∧ hi < lo) ∨ (x < lo ∧ lo ≤ hi ∧ 1114111 < hi) ∨ (x < lo ∧ lo ≤ hi ∧ hi ≤ 1114111) := by omega
      rcases hc with h | ⟨h, h2⟩ | ⟨h, h2, h3⟩ | ⟨h, h2, h3⟩
      · have HF := Lib.hid (show riseB (-1) l = false by rw [HP.out, HD.out]; exact riseB_no (.inl h))
        go_wp2
        go_ret
        exact ⟨retB (by simp [HF.out]), hba⟩
      · have HF := Lib.hid (show riseB (-1) l = false by rw [HP.out, HD.out]; exact riseB_no (.inr (.inl h2)))
        go_wp2
        go_ret
        exact ⟨retB (by simp [HF.out]), hba⟩
      · have HF := Lib.hid (show riseB (-1) l = false by rw [HP.out, HD.out]; exact riseB_no (.inr (.inr h3)))
        go_wp2
        go_ret
        exact ⟨retB (by simp [HF.out]), hba⟩
      · have HF := Lib.hid (show riseB (-1) l = riseB hi (l.drop (k + 1)) by rw [HP.out, HD.out]; exact riseB_yes (by simp only; omega))
        go_wp2
        go_roundw
        case rel => exact ⟨k + 1, hi, by omega, by go_num, rfl, HF.out, hba⟩
        case measure => simp [intOf]; omega
    · have HF := Lib.hid (show riseB (-1) l = true by rw [HP.out, List.drop_eq_nil_of_le (by rw [HL.out]; omega)]; rfl)
      go_wp2
      go_ret
      exact ⟨retB (by simp [HF.out]), hb⟩
end Go.Proofs.YtcbiaeeifclieaaGreatDoor
/- An array of the call's own: a block of whole numbers. -/
namespace Go.Proofs.YtcbiaeeifclieaaGreatDoor
open Go.RowKit

/-- Block 'b' holds the whole numbers 'xs', none of them frozen. -/
def IntBlk (w : World) (b : Nat) (xs : List Int) : Prop := ∃ t, w.heap[b]? = some (.cells (xs.map (Value.int .i64)).toArray t (0, 0))
theorem IntBlk.lt {w : World} {b : Nat} {xs : List Int} (h : IntBlk w b xs) : b < w.heap.size := by
  obtain ⟨t, h⟩ := h
  exact (Array.getElem?_eq_some_iff.1 h).1
theorem IntBlk.cell {w : World} {b : Nat} {xs : List Int} (h : IntBlk w b xs) {j : Nat} {x : Int} (hj : xs[j]? = some x) : w.cell? ⟨b, j, none⟩ = some (.int .i64 x) := by
  obtain ⟨t, h⟩ := h
  simp [World.cell?, h, hj]
theorem IntBlk.thaw {w : World} {b : Nat} {xs : List Int} (h : IntBlk w b xs) (j : Nat) : w.frozen? ⟨b, j, none⟩ = false := by
  obtain ⟨t, h⟩ := h
  simp [World.frozen?, h]
theorem IntBlk.store {w : World} {b : Nat} {xs : List Int} (h : IntBlk w b xs) (j : Nat) (x : Int) : IntBlk (w.setCell ⟨b, j, none⟩ (.int .i64 x)) b (xs.set j x) := by
  obtain ⟨t, h⟩ := h
  refine ⟨t, ?_⟩
  simp [World.setCell, Array.getElem?_modify, h, List.map_set]
theorem IntBlk.far {w : World} {b b' : Nat} {xs : List Int} (h : IntBlk w b xs) (hne : b ≠ b') (j : Nat) (u : Value) : IntBlk (w.setCell ⟨b', j, none⟩ u) b xs := by
  obtain ⟨t, h⟩ := h
  exact ⟨t, (Below.heap_setCell w ⟨b', j, none⟩ u b hne).trans h⟩
theorem IntBlk.grown {w w' : World} {b : Nat} {xs : List Int} {row : Option Nat} (h : IntBlk w b xs) (hg : w.grownBy w' row) (hne : row ≠ some b) : IntBlk w' b xs := by
  obtain ⟨t, h⟩ := h
  exact ⟨t, blk_grown h hg hne⟩
theorem IntBlk.below {w w' : World} {b : Nat} {xs : List Int} (h : IntBlk w b xs) (hb : Below w.heap.size w w') : IntBlk w' b xs := by
  have hl := h.lt
  obtain ⟨t, h⟩ := h
  exact ⟨t, (hb.block b hl).trans h⟩
theorem IntBlk.drewN {w : World} {b : Nat} {xs : List Int} (h : IntBlk w b xs) (n : Nat) : IntBlk (w.drewN n) b xs := h
/-- A store into a block that the call made leaves what was there before it. -/
theorem below_set {w wr : World} {b : Nat} (h : Below w.heap.size w wr) (hb : w.heap.size ≤ b) (j : Nat) (u : Value) : Below w.heap.size w (wr.setCell ⟨b, j, none⟩ u) :=
  ⟨h.os, h.tape, h.output, by simpa [World.setCell] using h.size, fun i hi => (Below.heap_setCell wr ⟨b, j, none⟩ u i (by simp only; omega)).trans (h.block i hi)⟩
end Go.Proofs.YtcbiaeeifclieaaGreatDoor
/- Filling a block of codes from a range. -/
namespace Go.Proofs.YtcbiaeeifclieaaGreatDoor
open Go.RowKit

/-- The block from the code 'lo' on, 'b', once the codes of 'r' below 'x' have its value. -/
def fillTo (lo : Int) (r : Rg) (x : Int) (b : List Int) : List Int := b.mapIdx fun j y => if r.1 ≤ lo + j ∧ lo + j ≤ r.2.1 ∧ lo + j < x then r.2.2 else y
def fillTB (lo : Int) (r : Rg) (b : List Int) : List Int := b.mapIdx fun j y => if r.1 ≤ lo + j ∧ lo + j ≤ r.2.1 then r.2.2 else y
theorem fillTo_len (lo : Int) (r : Rg) (x : Int) (b : List Int) : (fillTo lo r x b).length = b.length := by simp [fillTo]
theorem fillTB_len (lo : Int) (r : Rg) (b : List Int) : (fillTB lo r b).length = b.length := by simp [fillTB]
theorem fillTo_start (lo : Int) (r : Rg) (b : List Int) (x : Int) (h : x ≤ lo ∨ x ≤ r.1) : fillTo lo r x b = b := by
  apply List.ext_getElem?
  intro j
  simp only [fillTo, List.getElem?_mapIdx]
  cases hb : b[j]? with
  | none => rfl
  | some y =>
    simp only [Option.map_some]
    rw [if_neg (by omega)]
theorem fillTo_step (lo : Int) (r : Rg) (b : List Int) (x : Int) (h0 : lo ≤ x) (h1 : r.1 ≤ x) (h2 : x ≤ r.2.1) : (fillTo lo r x b).set (x - lo).toNat r.2.2 = fillTo lo r (x + 1) b := by
  apply List.ext_getElem?
  intro j
  simp only [List.getElem?_set, fillTo, List.getElem?_mapIdx, List.length_mapIdx]
  by_cases hj : (x - lo).toNat = j
  · subst hj
    rw [if_pos rfl]
    by_cases hl : (x - lo).toNat < b.length
    · rw [if_pos hl, List.getElem?_eq_getElem hl]
      simp only [Option.map_some]
      rw [if_pos (by omega)]
    · rw [if_neg hl, List.getElem?_eq_none (by omega)]
      rfl
  · rw [if_neg hj]
    cases hb : b[j]? with
    | none => rfl
    | some y =>
      simp only [Option.map_some]
      by_cases hc : r.1 ≤ lo + j ∧ lo + j ≤ r.2.1 ∧ lo + j < x
      · rw [if_pos hc, if_pos (by omega)]
      · rw [if_neg hc, if_neg (by omega)]
theorem fillTo_end (lo : Int) (r : Rg) (b : List Int) (x : Int) (h : lo + b.length ≤ x ∨ r.2.1 < x) : fillTo lo r x b = fillTB lo r b := by
  apply List.ext_getElem?
  intro j
  simp only [fillTo, fillTB, List.getElem?_mapIdx]
  cases hb : b[j]? with
  | none => rfl
  | some y =>
    have hj := (List.getElem?_eq_some_iff.1 hb).1
    simp only [Option.map_some]
    by_cases hc : r.1 ≤ lo + j ∧ lo + j ≤ r.2.1
    · rw [if_pos hc, if_pos (by omega)]
    · rw [if_neg hc, if_neg (by omega)]
/-- The block from 'lo' on, and what of the ranges goes on behind it. -/
def cutB (lo : Int) : List Rg → List Int → List Int × List Rg
  | [], b => (b, [])
  | r :: l, b => if r.1 ≤ lo + 127 then (if lo + 127 < r.2.1 then (fillTB lo r b, r :: l) else cutB lo l (fillTB lo r b)) else (b, r :: l)
theorem cutB_far {lo : Int} {r : Rg} {l : List Rg} {b : List Int} (h : lo + 127 < r.1) : cutB lo (r :: l) b = (b, r :: l) := if_neg (by omega)
theorem cutB_over {lo : Int} {r : Rg} {l : List Rg} {b : List Int} (h : r.1 ≤ lo + 127) (h2 : lo + 127 < r.2.1) : cutB lo (r :: l) b = (fillTB lo r b, r :: l) := (if_pos h).trans (if_pos h2)
theorem cutB_on {lo : Int} {r : Rg} {l : List Rg} {b : List Int} (h : r.1 ≤ lo + 127) (h2 : r.2.1 ≤ lo + 127) : cutB lo (r :: l) b = cutB lo l (fillTB lo r b) := (if_pos h).trans (if_neg (by omega))
theorem addZero (a : Addr) : a.add 0 = a := by
  unfold Addr.add
  split
  · rfl
  · rename_i h; cases a; simp_all
/-- The cells of the first range, as the walk spells them. -/
theorem Rd.rg0 {w : World} {A : Option Addr} {n : Nat} {s : Rg} {l : List Rg} (hr : Rd w 3 A n (cellsG (s :: l))) : ∃ ad, A = some ad ∧ ad.block < w.heap.size ∧ w.cell? ad = some (.int .i64 s.1) ∧
    w.cell? ⟨ad.block, ad.off + 1, none⟩ = some (.int .i64 s.2.1) ∧ w.cell? ⟨ad.block, ad.off + 2, none⟩ = some (.int .i64 s.2.2) := by
  obtain ⟨ad, hA, hb, h0, h1, h2⟩ := hr.rg (k := 0) (s := s) rfl
  rw [Nat.zero_mul, addZero] at h0 h1 h2
  exact ⟨ad, hA, hb, h0, h1, h2⟩
theorem addPos (a : Addr) {n : Nat} (h : n ≠ 0) : a.add n = ⟨a.block, a.off + n, none⟩ := by
  unfold Addr.add
  rw [if_neg h]
/-- What is left of a slice of ranges behind its first. -/
theorem Rd.tail {w : World} {ad : Addr} {n : Nat} {s : Rg} {l : List Rg} (hr : Rd w 3 (some ad) n (cellsG (s :: l))) : Rd w 3 (some ⟨ad.block, ad.off + 3, none⟩) (n - 1) (cellsG l) := by
  have hl := hr.lenG
  have h := hr.cut (k := 1) (cap := n + 1) (by rw [← hl]; simp) (by omega)
  rw [if_neg (by rw [← hl]; simp), Option.map_some, addPos ad (by omega)] at h
  exact h
end Go.Proofs.YtcbiaeeifclieaaGreatDoor
/- Blocks of a table as data: what cutting gives, what is kept while the table is laid. -/
namespace Go.Proofs.YtcbiaeeifclieaaGreatDoor
open Go.RowKit

theorem getG_below {l : List Rg} {y c : Int} (h : ∀ s ∈ l, c < s.1) : getG l y c = y := by
  induction l with
  | nil => rfl
  | cons s l ih =>
    have := h s (by simp)
    rw [getG, if_neg (by omega)]
    exact ih fun t ht => h t (by simp [ht])
theorem getG_behind {l : List Rg} {y c : Int} {s : Rg} (h : s.2.1 < c) : getG (s :: l) y c = getG l y c := by rw [getG, if_neg (by omega)]
/-- Ranges that rise. -/
def Srt (l : List Rg) : Prop := l.Pairwise (fun s t => s.2.1 < t.1) ∧ ∀ s ∈ l, s.1 ≤ s.2.1
theorem Srt.tail {s : Rg} {l : List Rg} (h : Srt (s :: l)) : Srt l := ⟨(List.pairwise_cons.1 h.1).2, fun t ht => h.2 t (by simp [ht])⟩
theorem srt_of_rise : ∀ {l : List Rg} {x : Int}, riseB x l = true → Srt l ∧ ∀ s ∈ l, x < s.1 ∧ s.2.1 ≤ 1114111
  | [], _, _ => ⟨⟨List.Pairwise.nil, by simp⟩, by simp⟩
  | s :: l, x, h => by
    by_cases hc : s.1 ≤ x ∨ s.2.1 < s.1 ∨ 1114111 < s.2.1
    · rw [riseB_no hc] at h; cases h
    · rw [riseB_yes hc] at h
      obtain ⟨⟨h1, h2⟩, h3⟩ := srt_of_rise h
      refine ⟨⟨List.pairwise_cons.2 ⟨fun t ht => (h3 t ht).1, h1⟩, ?_⟩, ?_⟩
      · intro t ht
        rcases List.mem_cons.1 ht with rfl | ht
        · omega
        · exact h2 t ht
      · intro t ht
        rcases List.mem_cons.1 ht with rfl | ht
        · omega
        · have := h3 t ht; omega
theorem cutB_one (lo : Int) : ∀ (l : List Rg) (b : List Int), Srt l → b.length = 128 → (cutB lo l b).1 = b.mapIdx (fun j y => getG l y (lo + j))
  | [], b, _, _ => by
    apply List.ext_getElem?
    intro j
    simp [cutB, getG, List.getElem?_mapIdx]
  | s :: l, b, h, hb => by
    have hlt : ∀ t ∈ l, s.2.1 < t.1 := (List.pairwise_cons.1 h.1).1
    have hs := h.2 s (by simp)
    by_cases h1 : s.1 ≤ lo + 127
    · by_cases h2 : lo + 127 < s.2.1
      · rw [cutB_over h1 h2]
        apply List.ext_getElem?
        intro j
        simp only [fillTB, List.getElem?_mapIdx]
        cases hj : b[j]? with
        | none => rfl
        | some y =>
          have hjl := (List.getElem?_eq_some_iff.1 hj).1
          simp only [Option.map_some, getG]
          by_cases hc : s.1 ≤ lo + j ∧ lo + j ≤ s.2.1
          · rw [if_pos hc, if_pos hc]
          · rw [if_neg hc, if_neg hc, getG_below (fun t ht => by have := hlt t ht; omega)]
      · rw [cutB_on h1 (by omega), cutB_one lo l _ h.tail (by rw [fillTB_len, hb])]
        apply List.ext_getElem?
        intro j
        simp only [fillTB, List.getElem?_mapIdx]
        cases hj : b[j]? with
        | none => rfl
        | some y =>
          simp only [Option.map_some, getG]
          by_cases hc : s.1 ≤ lo + j ∧ lo + j ≤ s.2.1
          · rw [if_pos hc, if_pos hc, getG_below (fun t ht => by have := hlt t ht; omega)]
          · rw [if_neg hc, if_neg hc]
    · rw [cutB_far (by omega)]
      apply List.ext_getElem?
      intro j
      simp only [List.getElem?_mapIdx]
      cases hj : b[j]? with
      | none => rfl
      | some y =>
        have hjl := (List.getElem?_eq_some_iff.1 hj).1
        simp only [Option.map_some]
        rw [getG_below (fun t ht => by
          rcases List.mem_cons.1 ht with rfl | ht
          · omega
          · have := hlt t ht; omega)]
theorem cutB_two (lo : Int) : ∀ (l : List Rg) (b : List Int), Srt l → Srt (cutB lo l b).2 ∧ (∀ s ∈ (cutB lo l b).2, lo + 127 < s.2.1) ∧ ∀ y c, lo + 128 ≤ c → getG l y c = getG (cutB lo l b).2 y c
  | [], b, _ => ⟨⟨List.Pairwise.nil, by simp [cutB]⟩, by simp [cutB], fun _ _ _ => rfl⟩
  | s :: l, b, h => by
    have hlt : ∀ t ∈ l, s.2.1 < t.1 := (List.pairwise_cons.1 h.1).1
    have hs := h.2 s (by simp)
    by_cases h1 : s.1 ≤ lo + 127
    · by_cases h2 : lo + 127 < s.2.1
      · rw [cutB_over h1 h2]
        refine ⟨h, fun t ht => ?_, fun _ _ _ => rfl⟩
        rcases List.mem_cons.1 ht with rfl | ht
        · exact h2
        · have := hlt t ht; have := h.2 t (by simp [ht]); omega
      · rw [cutB_on h1 (by omega)]
        obtain ⟨a1, a2, a3⟩ := cutB_two lo l (fillTB lo s b) h.tail
        exact ⟨a1, a2, fun y c hc => by rw [getG_behind (by omega)]; exact a3 y c hc⟩
    · rw [cutB_far (by omega)]
      refine ⟨h, fun t ht => ?_, fun _ _ _ => rfl⟩
      rcases List.mem_cons.1 ht with rfl | ht
      · omega
      · have := hlt t ht; have := h.2 t (by simp [ht]); omega

/-- The values of the codes of block j. -/
def blkAt (l : List Rg) (z : Int) (j : Nat) : List Int := (List.range 128).map fun (t : Nat) => getG l z (128 * (j : Int) + (t : Int))
theorem blkAt_len (l : List Rg) (z : Int) (j : Nat) : (blkAt l z j).length = 128 := by simp [blkAt]
theorem blkAt_at (l : List Rg) (z : Int) (j t : Nat) (ht : t < 128) : (blkAt l z j)[t]? = some (getG l z (128 * (j : Int) + (t : Int))) := by simp [blkAt, ht]
/-- What is left of the ranges when k blocks are cut. -/
def LeftOf (l0 : List Rg) (z : Int) (k : Nat) (l : List Rg) : Prop := Srt l ∧ ∀ c : Int, 128 * (k : Int) ≤ c → getG l0 z c = getG l z c
theorem left_cut {l0 l : List Rg} {z : Int} {k : Nat} (h : LeftOf l0 z k l) : (cutB (128 * (k : Int)) l (List.replicate 128 z)).1 = blkAt l0 z k ∧ LeftOf l0 z (k + 1) (cutB (128 * (k : Int)) l (List.replicate 128 z)).2 := by
  obtain ⟨h1, h2⟩ := h
  refine ⟨?_, ?_⟩
  · rw [cutB_one _ _ _ h1 (by simp)]
    apply List.ext_getElem?
    intro j
    simp only [List.getElem?_mapIdx, List.getElem?_replicate]
    by_cases hj : j < 128
    · rw [if_pos hj, blkAt_at _ _ _ _ hj]
      simp only [Option.map_some]
      rw [h2 _ (by omega)]
    · rw [if_neg hj, List.getElem?_eq_none (by rw [blkAt_len]; omega)]
      rfl
  · obtain ⟨a1, _, a3⟩ := cutB_two (128 * (k : Int)) l (List.replicate 128 z) h1
    exact ⟨a1, fun c hc => by rw [h2 c (by omega)]; exact a3 z c (by omega)⟩

/-- What is kept while the table is laid: k blocks are told, by their places 'wh' among the unlike ones 'bl'. -/
structure StInv (l0 : List Rg) (z : Int) (k : Nat) (bl : List (List Int)) (wh : List Nat) : Prop where
  len : wh.length = k
  at_ : ∀ j, j < k → ∃ q, wh[j]? = some q ∧ bl[q]? = some (blkAt l0 z j)
  nodup : bl.Nodup
  real : ∀ b ∈ bl, ∃ j, j < k ∧ b = blkAt l0 z j
  few : bl.length ≤ k
theorem StInv.start (l0 : List Rg) (z : Int) : StInv l0 z 0 [] [] := ⟨rfl, fun j h => absurd h (by omega), List.nodup_nil, by simp, Nat.le_refl _⟩
theorem StInv.old {l0 : List Rg} {z : Int} {k q : Nat} {bl : List (List Int)} {wh : List Nat} (h : StInv l0 z k bl wh) (hq : bl[q]? = some (blkAt l0 z k)) : StInv l0 z (k + 1) bl (wh ++ [q]) := by
  refine ⟨by simp [h.len], fun j hj => ?_, h.nodup, fun b hb => ?_, by have := h.few; omega⟩
  · by_cases hjk : j < k
    · obtain ⟨q', h1, h2⟩ := h.at_ j hjk
      exact ⟨q', by rw [List.getElem?_append_left (by rw [h.len]; exact hjk)]; exact h1, h2⟩
    · obtain rfl : j = k := by omega
      exact ⟨q, by rw [List.getElem?_append_right (by rw [h.len]; exact Nat.le_refl _), h.len, Nat.sub_self]; rfl, hq⟩
  · obtain ⟨j, h1, h2⟩ := h.real b hb
    exact ⟨j, by omega, h2⟩
theorem StInv.new_ {l0 : List Rg} {z : Int} {k : Nat} {bl : List (List Int)} {wh : List Nat} (h : StInv l0 z k bl wh) (hn : blkAt l0 z k ∉ bl) : StInv l0 z (k + 1) (bl ++ [blkAt l0 z k]) (wh ++ [bl.length]) := by
  refine ⟨by simp [h.len], fun j hj => ?_, ?_, fun b hb => ?_, by have := h.few; simp; omega⟩
  · by_cases hjk : j < k
    · obtain ⟨q', h1, h2⟩ := h.at_ j hjk
      exact ⟨q', by rw [List.getElem?_append_left (by rw [h.len]; exact hjk)]; exact h1, by rw [List.getElem?_append_left ((List.getElem?_eq_some_iff.1 h2).1)]; exact h2⟩
    · obtain rfl : j = k := by omega
      exact ⟨bl.length, by rw [List.getElem?_append_right (by rw [h.len]; exact Nat.le_refl _), h.len, Nat.sub_self]; rfl, by simp⟩
  · rw [List.nodup_append]
    exact ⟨h.nodup, by simp, fun a ha b hb => by simp at hb; subst hb; exact fun e => hn (e ▸ ha)⟩
  · rcases List.mem_append.1 hb with hb | hb
    · obtain ⟨j, h1, h2⟩ := h.real b hb
      exact ⟨j, by omega, h2⟩
    · simp at hb
      exact ⟨k, by omega, hb⟩
end Go.Proofs.YtcbiaeeifclieaaGreatDoor
