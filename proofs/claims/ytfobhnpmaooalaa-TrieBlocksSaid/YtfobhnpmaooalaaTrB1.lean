/- The reference's Blocks of a table: unlike blocks, seen one after the other. -/
import Derived.Test.YtfobhnpmaooalaaTrL4
namespace Go.Proofs.Ytfobhnpmaooalaa
open Go.RowKit

/-- Whether no code of block j is in a range. -/
def plainF (l : List Rg) (j : Nat) : Bool := l.all fun s => !(decide (s.1 ≤ 128 * (j : Int) + 127) && decide (128 * (j : Int) ≤ s.2.1))
theorem plainF_blk {l : List Rg} {z : Int} {j : Nat} (h : plainF l j = true) : blkAt l z j = List.replicate 128 z := by
  apply List.ext_getElem?
  intro t
  by_cases ht : t < 128
  · rw [blkAt_at _ _ _ _ ht, List.getElem?_replicate, if_pos ht]
    congr 1
    have hall : ∀ s ∈ l, ¬ (s.1 ≤ 128 * (j : Int) + (t : Int) ∧ 128 * (j : Int) + (t : Int) ≤ s.2.1) := fun s hs e => by
      have := List.all_eq_true.1 h s hs
      simp at this
      omega
    clear h
    induction l with
    | nil => rfl
    | cons s l ih =>
      rw [getG, if_neg (hall s (by simp))]
      exact ih fun u hu => hall u (by simp [hu])
  · rw [List.getElem?_eq_none (by rw [blkAt_len]; omega), List.getElem?_eq_none (by simp; omega)]
theorem plainF_no {l : List Rg} {j k : Nat} {s : Rg} (hs : l[k]? = some s) (h : s.1 ≤ 128 * (j : Int) + 127 ∧ 128 * (j : Int) ≤ s.2.1) : plainF l j = false := by
  rw [Bool.eq_false_iff]
  intro e
  have := List.all_eq_true.1 e s (List.mem_of_getElem? hs)
  simp at this
  omega
/-- Blocks seen so far: unlike, and all of them. -/
structure SeenInv (l : List Rg) (z : Int) (k : Nat) (seen : List Nat) : Prop where
  nodup : (seen.map (blkAt l z)).Nodup
  cover : ∀ j, j < k → blkAt l z j ∈ seen.map (blkAt l z)
  real : ∀ q ∈ seen, q < k
  few : seen.length ≤ k
theorem SeenInv.start (l : List Rg) (z : Int) : SeenInv l z 0 [] := ⟨by simp, fun j h => absurd h (by omega), by simp, Nat.le_refl _⟩
theorem SeenInv.old {l : List Rg} {z : Int} {k : Nat} {seen : List Nat} (h : SeenInv l z k seen) (hk : blkAt l z k ∈ seen.map (blkAt l z)) : SeenInv l z (k + 1) seen := by
  refine ⟨h.nodup, fun j hj => ?_, fun q hq => by have := h.real q hq; omega, by have := h.few; omega⟩
  by_cases hjk : j < k
  · exact h.cover j hjk
  · obtain rfl : j = k := by omega
    exact hk
theorem SeenInv.new_ {l : List Rg} {z : Int} {k : Nat} {seen : List Nat} (h : SeenInv l z k seen) (hk : blkAt l z k ∉ seen.map (blkAt l z)) : SeenInv l z (k + 1) (seen ++ [k]) := by
  refine ⟨?_, fun j hj => ?_, fun q hq => ?_, by have := h.few; simp; omega⟩
  · rw [List.map_append, List.nodup_append]
    exact ⟨h.nodup, by simp, fun a ha b hb => by simp at hb; subst hb; exact fun e => hk (e ▸ ha)⟩
  · rw [List.map_append, List.mem_append]
    by_cases hjk : j < k
    · exact .inl (h.cover j hjk)
    · obtain rfl : j = k := by omega
      exact .inr (by simp)
  · rcases List.mem_append.1 hq with hq | hq
    · have := h.real q hq; omega
    · simp at hq; omega
theorem SeenInv.count {l : List Rg} {z : Int} {k : Nat} {seen : List Nat} {bl : List (List Int)} {wh : List Nat} (h : SeenInv l z k seen) (hk : k = 8704) (hs : StInv l z 8704 bl wh) : seen.length = bl.length := by
  subst hk
  have e : seen.length = (seen.map (blkAt l z)).length := by simp
  rw [e]
  refine Nat.le_antisymm (sub_len h.nodup fun x hx => ?_) (sub_len hs.nodup fun x hx => ?_)
  · simp only [List.mem_map] at hx
    obtain ⟨q, hq, rfl⟩ := hx
    obtain ⟨p, _, hp⟩ := hs.at_ q (h.real q hq)
    exact List.mem_of_getElem? hp
  · obtain ⟨j, hj, rfl⟩ := hs.real x hx
    exact h.cover j hj

set_option maxRecDepth 100000 in
set_option maxHeartbeats 4000000 in
theorem refPlain_any (A : Option Addr) (n c : Nat) (l : List Rg) (j : Nat) (w : World) (hr : Rd w 3 A n (cellsG l)) (hn : n ≤ 4096) (hj : j ≤ 8704) :
    Calls Try.prog 45 #[.slice A n c, .int .i64 j] w fun e w' => e = .returned (.bool (plainF l j)) ∧ Below w.heap.size w w' := by
  have HL := Lib.hid hr.lenG
  have HYES := Lib.hid (show ∀ k, ¬ k < n → (∀ s ∈ l.take k, ¬ (s.1 ≤ 128 * (j : Int) + 127 ∧ 128 * (j : Int) ≤ s.2.1)) → plainF l j = true from fun k hk h => by
    rw [List.take_of_length_le (by rw [HL.out]; omega)] at h
    refine List.all_eq_true.2 fun s hs => ?_
    have := h s hs
    simp
    omega)
  have HNO := Lib.hid (fun (k : Nat) (s : Rg) => plainF_no (l := l) (j := j) (k := k) (s := s))
  obtain ⟨P, hP⟩ : ∃ P, plainF l j = P := ⟨_, rfl⟩
  rw [hP] at HYES HNO ⊢
  clear hP
  go_enter Try.func45, Try.ntmps45
  go_wp2
  go_loopw [5] (fun i wr => ∃ k : Nat, k ≤ n ∧ i = .int .i64 k ∧ (∀ s ∈ l.take k, ¬ (s.1 ≤ 128 * (j : Int) + 127 ∧ 128 * (j : Int) ≤ s.2.1)) ∧ wr = w) (fun i _ => n - (intOf i).toNat)
  case atStart => exact ⟨0, Nat.zero_le _, rfl, by simp, rfl⟩
  case round =>
    obtain ⟨k, hk, rfl, hno, rfl⟩ := hrel
    have HN := Lib.hid hno
    clear hno
    by_cases hlt : k < n
    · obtain ⟨s, hsk⟩ : ∃ s, l[k]? = some s := ⟨_, List.getElem?_eq_getElem (by rw [HL.out]; exact hlt)⟩
      obtain ⟨ad, rfl, hab, c1, c2, c3⟩ := hr.rg hsk
      have HS := Lib.hid hsk
      clear hsk
      obtain ⟨lo, hi, v⟩ := s
      simp only at c1 c2 c3
      have hcase : (lo ≤ 128 * (j : Int) + 127 ∧ 128 * (j : Int) ≤ hi) ∨ (lo ≤ 128 * (j : Int) + 127 ∧ hi < 128 * (j : Int)) ∨ 128 * (j : Int) + 127 < lo := by omega
      rcases hcase with ⟨h1, h2⟩ | ⟨h1, h2⟩ | h1
      · have HF := Lib.hid (HNO.out k _ HS.out ⟨h1, h2⟩)
        go_wp2
        go_ret
        exact ⟨by rw [HF.out]; rfl, Below.refl _ _⟩
      · have HX := Lib.hid (show ∀ s ∈ l.take (k + 1), ¬ (s.1 ≤ 128 * (j : Int) + 127 ∧ 128 * (j : Int) ≤ s.2.1) by
          intro s hs
          rw [List.take_add_one, HS.out] at hs
          simp only [Option.toList_some, List.mem_append, List.mem_singleton] at hs
          rcases hs with hs | rfl
          · exact HN.out s hs
          · simp only; omega)
        go_wp2
        go_roundw
        case rel => exact ⟨k + 1, by omega, by go_num, HX.out, trivial⟩
        case measure => simp [intOf]; omega
      · have HX := Lib.hid (show ∀ s ∈ l.take (k + 1), ¬ (s.1 ≤ 128 * (j : Int) + 127 ∧ 128 * (j : Int) ≤ s.2.1) by
          intro s hs
          rw [List.take_add_one, HS.out] at hs
          simp only [Option.toList_some, List.mem_append, List.mem_singleton] at hs
          rcases hs with hs | rfl
          · exact HN.out s hs
          · simp only; omega)
        go_wp2
        go_roundw
        case rel => exact ⟨k + 1, by omega, by go_num, HX.out, trivial⟩
        case measure => simp [intOf]; omega
    · have HF := Lib.hid (HYES.out k hlt HN.out)
      go_wp2
      go_ret
      exact ⟨by rw [HF.out]; rfl, Below.refl _ _⟩
set_option maxRecDepth 100000 in
set_option maxHeartbeats 4000000 in
theorem refAlike_any (A : Option Addr) (n c : Nat) (l : List Rg) (z : Int) (a b : Nat) (w : World) (hr : Rd w 3 A n (cellsG l)) (hn : n ≤ maxLen) (ha : a ≤ 8704) (hb : b ≤ 8704) :
    Calls Try.prog 46 #[.slice A n c, .int .i64 z, .int .i64 a, .int .i64 b] w fun e w' => e = .returned (.bool (decide (blkAt l z a = blkAt l z b))) ∧ w = w' := by
  have HR := Lib.hid hr
  have HN := Lib.hid hn
  have HYES := Lib.hid (show ∀ k : Nat, ¬ k < 128 → (∀ t : Nat, t < k → getG l z (128 * (a : Int) + (t : Int)) = getG l z (128 * (b : Int) + (t : Int))) → decide (blkAt l z a = blkAt l z b) = true from fun k hk h => by
    refine decide_eq_true ?_
    unfold blkAt
    exact List.map_congr_left fun t ht => h t (by have := List.mem_range.1 ht; omega))
  have HNO := Lib.hid (show ∀ k : Nat, k < 128 → getG l z (128 * (a : Int) + (k : Int)) ≠ getG l z (128 * (b : Int) + (k : Int)) → decide (blkAt l z a = blkAt l z b) = false from fun k hk h => by
    refine decide_eq_false fun e => h ?_
    have := congrArg (fun x => x[k]?) e
    simp only [blkAt_at _ _ _ _ hk] at this
    exact Option.some.inj this)
  obtain ⟨P, hP⟩ : ∃ P, decide (blkAt l z a = blkAt l z b) = P := ⟨_, rfl⟩
  rw [hP] at HYES HNO ⊢
  clear hP hr hn
  go_enter Try.func46, Try.ntmps46
  go_wp2
  go_loopw [9] (fun i wr => ∃ k : Nat, k ≤ 128 ∧ i = .int .i64 k ∧ (∀ t : Nat, t < k → getG l z (128 * (a : Int) + (t : Int)) = getG l z (128 * (b : Int) + (t : Int))) ∧ wr = w) (fun i _ => 128 - (intOf i).toNat)
  case atStart => exact ⟨0, Nat.zero_le _, rfl, fun t ht => absurd ht (by omega), rfl⟩
  case round =>
    obtain ⟨k, hk, rfl, hno, rfl⟩ := hrel
    have HI := Lib.hid hno
    clear hno
    by_cases hlt : k < 128
    · obtain ⟨x, hx⟩ : ∃ x, getG l z (128 * (a : Int) + (k : Int)) = x := ⟨_, rfl⟩
      obtain ⟨y, hy⟩ : ∃ y, getG l z (128 * (b : Int) + (k : Int)) = y := ⟨_, rfl⟩
      have HX := Lib.hid hx
      have HY := Lib.hid hy
      clear hx hy
      go_wp2_with fail
      refine (refGetG_any A n c l z (128 * (a : Int) + (k : Int)) _ HR.out HN.out).mono ?_
      rintro e w1 ⟨rfl, rfl⟩
      rw [HX.out]
      go_wp2_with fail
      refine (refGetG_any A n c l z (128 * (b : Int) + (k : Int)) _ HR.out HN.out).mono ?_
      rintro e w1 ⟨rfl, rfl⟩
      rw [HY.out]
      by_cases he : x = y
      · have HZ := Lib.hid (show ∀ t : Nat, t < k + 1 → getG l z (128 * (a : Int) + (t : Int)) = getG l z (128 * (b : Int) + (t : Int)) from fun t ht => by
          by_cases htk : t < k
          · exact HI.out t htk
          · obtain rfl : t = k := by omega
            rw [HX.out, HY.out, he])
        subst he
        go_wp2
        go_roundw
        case rel => exact ⟨k + 1, by omega, by go_num, HZ.out, trivial⟩
        case measure => simp [intOf]; omega
      · have HF := Lib.hid (HNO.out k hlt (by rw [HX.out, HY.out]; exact he))
        have g1 : (x != y) = true := by simp [he]
        clear he
        go_wp2
        go_ret
        exact ⟨by rw [HF.out]; rfl, rfl⟩
    · have HF := Lib.hid (HYES.out k hlt HI.out)
      go_wp2
      go_ret
      exact ⟨by rw [HF.out]; rfl, rfl⟩
end Go.Proofs.Ytfobhnpmaooalaa
