/- Texts of one claim, one behind the other. -/
import Derived.Laws.MakeOwn
import Derived.Test.YtpddjojgcenlkaaGreatMgNu1
import Derived.Test.YtpddjojgcenlkaaGreatMgNu2
import Derived.Test.YtpddjojgcenlkaaGreatMgNu3
import Derived.Test.YtpddjojgcenlkaaGreatMgNu4
/- Writes to new blocks, and to one, are writes to that one. -/
namespace Go.Proofs.YtpddjojgcenlkaaGreat
open Go.RowKit

/-- Writes to new blocks, and to one, are writes to that one. -/
theorem Kept.grownN {a b c : World} {S : List Nat} {row : Option Nat} (h : Kept a b S) (hg : b.grownBy c row) (hr : ∀ x, row = some x → a.heap.size ≤ x) : Kept a c S :=
  ⟨hg.os.trans h.os, hg.tape.trans h.tape, hg.output.trans h.output, Nat.le_trans h.size hg.size, fun i hi hn => (hg.block i (Nat.lt_of_lt_of_le hi h.size) (fun e => by have := hr i e.symm; omega)).trans (h.block i hi hn)⟩
end Go.Proofs.YtpddjojgcenlkaaGreat
/- How great the counts of a stack are. No function of the program. -/
namespace Go.Proofs.YtpddjojgcenlkaaGreat
open Go.RowKit

/-- No count is above m. -/
def Few (s : Stk) (m : Nat) : Prop := s.a ≤ m ∧ s.b ≤ m ∧ s.c ≤ m
theorem few_emb {s : Stk} {m : Nat} (h : Few s m) (r : Bool) (o : Int) : Few (embS s r o).2 (m + 1) := by
  obtain ⟨h1, h2, h3⟩ := h
  unfold Few
  cases hr : roomS s r with
  | true => rw [emb_room hr]; exact ⟨by simp only; omega, by simp only; omega, by simp only; omega⟩
  | false =>
    rw [emb_no hr]
    simp only
    split
    · exact ⟨by simp only; omega, by simp only; omega, by simp only; omega⟩
    · omega
theorem few_iso {s : Stk} {m : Nat} (h : Few s m) (r : Bool) : Few (isoS s r).2 (m + 1) := by
  obtain ⟨h1, h2, h3⟩ := h
  unfold Few
  cases hr : roomS s r with
  | true => rw [iso_room hr]; exact ⟨by simp only; omega, by simp only; omega, by simp only; omega⟩
  | false => rw [iso_no hr]; exact ⟨by simp only; omega, by simp only; omega, by simp only; omega⟩
theorem few_endE {s : Stk} {m : Nat} (h : Few s m) : Few (endES s) m := by
  obtain ⟨h1, h2, h3⟩ := h
  unfold Few endES popS
  repeat' split
  all_goals exact ⟨by (first | (simp only; omega) | omega), by (first | (simp only; omega) | omega), by (first | (simp only; omega) | omega)⟩
theorem few_endI {s : Stk} {m : Nat} (h : Few s m) : Few (endIS s) m := by
  obtain ⟨h1, h2, h3⟩ := h
  unfold Few endIS
  repeat' split
  all_goals exact ⟨by (first | (simp only; omega) | omega), by (first | (simp only; omega) | omega), by (first | (simp only; omega) | omega)⟩
theorem Few.up {s : Stk} {m n : Nat} (h : Few s m) (hn : m ≤ n) : Few s n := ⟨Nat.le_trans h.1 hn, Nat.le_trans h.2.1 hn, Nat.le_trans h.2.2 hn⟩
end Go.Proofs.YtpddjojgcenlkaaGreat
/- explicit: the counts along a paragraph, the matches within bounds, the answers as they grow. No function of the program. -/
namespace Go.Proofs.YtpddjojgcenlkaaGreat
open Go.RowKit

theorem few_a {s : Stk} {m : Nat} (h : Few s m) (x : Int) : Few (stepA s x) m := by
  unfold stepA
  split
  · exact few_endI h
  · exact h
theorem few_b {s : Stk} {m : Nat} (h : Few s m) (xs : List Int) (k : Nat) (x : Int) : Few (stepB xs k x s) (m + 1) := by
  unfold stepB
  repeat' split
  all_goals first
    | exact few_emb h _ _
    | exact (few_endE h).up (by omega)
    | exact few_iso h _
    | exact h.up (by omega)
theorem few_st (xs : List Int) (base : Int) : ∀ k, Few (stE xs base k) k
  | 0 => ⟨by simp [stE, newS], by simp [stE, newS], by simp [stE, newS]⟩
  | k + 1 => by rw [stE]; exact few_b (few_a (few_st xs base k) _) _ _ _
/-- What goes together lies within the text, or is -1. -/
theorem mat_in {xs : List Int} {y : Int} (h : y ∈ matF xs) : -1 ≤ y ∧ y ≤ (xs.length : Int) := by
  obtain ⟨j, hj⟩ := List.getElem?_of_mem h
  have hl := (List.getElem?_eq_some_iff.1 hj).1
  have g := matF_good xs
  rw [g.len] at hl
  by_cases ho : OpAt xs j
  · rw [g.op j ho] at hj
    have := ansF_le xs (j + 1) 0
    have := Option.some.inj hj
    omega
  · rcases g.else_ j hl ho with e | ⟨i, hi, e⟩
    · rw [e] at hj
      have := Option.some.inj hj
      omega
    · have hs := g.shut i hi (by omega)
      rw [e, hj] at hs
      have := Option.some.inj hs
      have := opAt_lt hi
      omega
/-- The answers as they stand at place k. -/
def lvZ (xs : List Int) (base : Int) (k n : Nat) : List Int := lvL xs base k ++ List.replicate (n - k) 0
def clZ (xs : List Int) (base : Int) (k n : Nat) : List Int := clL xs base k ++ List.replicate (n - k) 0
theorem lvZ_len {xs : List Int} {base : Int} {k n : Nat} (h : k ≤ n) : (lvZ xs base k n).length = n := by unfold lvZ; rw [List.length_append, lvL_len, List.length_replicate]; omega
theorem clZ_len {xs : List Int} {base : Int} {k n : Nat} (h : k ≤ n) : (clZ xs base k n).length = n := by unfold clZ; rw [List.length_append, clL_len, List.length_replicate]; omega
theorem lvZ_zero (xs : List Int) (base : Int) (n : Nat) : lvZ xs base 0 n = List.replicate n 0 := by simp [lvZ, lvL]
theorem clZ_zero (xs : List Int) (base : Int) (n : Nat) : clZ xs base 0 n = List.replicate n 0 := by simp [clZ, clL]
theorem lvZ_end (xs : List Int) (base : Int) (n : Nat) : lvZ xs base n n = lvL xs base n := by simp [lvZ]
theorem clZ_end (xs : List Int) (base : Int) (n : Nat) : clZ xs base n n = clL xs base n := by simp [clZ]
theorem set_next {l : List Int} {k n : Nat} (hl : l.length = k) (hk : k < n) (x : Int) : (l ++ List.replicate (n - k) 0).set k x = l ++ [x] ++ List.replicate (n - (k + 1)) 0 := by
  rw [show n - k = (n - (k + 1)) + 1 by omega, List.replicate_succ, List.set_append_right _ _ (by omega), hl, Nat.sub_self, List.set_cons_zero, List.append_assoc]
  rfl
theorem lvZ_step {xs : List Int} {base : Int} {k n : Nat} (hk : k < n) : (lvZ xs base k n).set k (exA xs base k).1 = lvZ xs base (k + 1) n := by
  unfold lvZ
  rw [set_next (lvL_len xs base k) hk, lvL_step]
theorem clZ_step {xs : List Int} {base : Int} {k n : Nat} (hk : k < n) : (clZ xs base k n).set k (exA xs base k).2 = clZ xs base (k + 1) n := by
  unfold clZ
  rw [set_next (clL_len xs base k) hk, clL_step]
end Go.Proofs.YtpddjojgcenlkaaGreat
/- make of ints, as a run. -/
namespace Go.Proofs.YtpddjojgcenlkaaGreat
open Go.RowKit
theorem mk_intsZ (n : Nat) (hn : n ≤ 100000000) (w : World) : (Instr.makeSlice 22 (.int .i64 (n : Int)) (.int .i64 (n : Int))).run Tryz.prog w = .ok (.slice (some ⟨w.heap.size, 0, none⟩) n n) (w.alloc (.cells (intsZ (List.replicate n 0)).toArray 3)) := by
  have hin : (Tryz.prog.info? 3).map (fun i => (i.zero, i.size, i.bytes)) = some (some (.int .i64 0), 1, 8) := by kernel_rfl
  obtain ⟨i, h1, h2, h3, h4⟩ := info_parts hin
  have h := run_make (P := Tryz.prog) w 22 3 i (.int .i64 0) Tryz.underlying22 h1 h2 .i64 .i64 n n (by omega) (Int.le_refl _) (by rw [h4]; omega) (by omega)
  rw [h3] at h
  simp only [Int.toNat_natCast, Nat.mul_one] at h
  rw [h]
  refine congrArg (fun c => Result.ok _ (w.alloc (.cells c _))) ?_
  apply Array.toList_inj.1
  rw [show (Value.int .i64 0).cells = #[.int .i64 0] from rfl, toList_madeCells_one]
  simp [intsZ]
end Go.Proofs.YtpddjojgcenlkaaGreat
/- slices.Equal at []int: whether the two slices read alike; the world is as it was, but for draws. -/
namespace Go.Proofs.YtpddjojgcenlkaaGreat
open Go.RowKit

theorem take_eq_succ {xs ys : List Int} {k : Nat} (h : xs.take k = ys.take k) {x : Int} (h1 : xs[k]? = some x) (h2 : ys[k]? = some x) : xs.take (k + 1) = ys.take (k + 1) := by
  rw [List.take_add_one, List.take_add_one, h, h1, h2]

set_option maxRecDepth 100000 in
set_option maxHeartbeats 1000000 in
theorem equalInt_same (n : Nat) (A B : Option Addr) (c d : Nat) (xs ys : List Int) (w : World) (hxn : xs.length = n) (hyn : ys.length = n)
    (hx : Rd w 1 A n (xs.map (Value.int .i64))) (hy : Rd w 1 B n (ys.map (Value.int .i64))) (hn : n ≤ maxLen) :
    Calls Tryz.prog 10 #[.slice A n c, .slice B n d] w fun e w' => e = .returned (.bool (decide (xs = ys))) ∧ ∃ q, w' = w.drewN q := by
  unfold maxLen at hn
  have HX := Lib.hid hxn
  have HY := Lib.hid hyn
  clear hxn hyn
  go_enter Tryz.func10, Tryz.ntmps10
  go_wp2
  go_loopw [13] (fun i wr => ∃ k q : Nat, k ≤ n ∧ i = .int .i64 k ∧ wr = w.drewN q ∧ xs.take k = ys.take k) (fun i _ => n - (intOf i).toNat)
  case atStart => exact ⟨0, 0, Nat.zero_le _, rfl, rfl, rfl⟩
  case round =>
    obtain ⟨k, q, hk, rfl, rfl, ht⟩ := hrel
    have HT := Lib.hid ht
    clear ht
    by_cases hlt : k < n
    · obtain ⟨x, hxk⟩ : ∃ x, xs[k]? = some x := ⟨_, List.getElem?_eq_getElem (by rw [HX.out]; exact hlt)⟩
      obtain ⟨y, hyk⟩ : ∃ y, ys[k]? = some y := ⟨_, List.getElem?_eq_getElem (by rw [HY.out]; exact hlt)⟩
      obtain ⟨a, rfl, _, ha⟩ := hx.at_ hlt
      obtain ⟨b, rfl, _, hb⟩ := hy.at_ hlt
      have ca : w.cell? (a.add k) = some (.int .i64 x) := ha _ (by rw [List.getElem?_map, hxk]; rfl)
      have cb : w.cell? (b.add k) = some (.int .i64 y) := hb _ (by rw [List.getElem?_map, hyk]; rfl)
      have HXK := Lib.hid hxk
      have HYK := Lib.hid hyk
      clear hxk hyk ha hb
      by_cases he : x = y
      · subst he
        go_wp2
        go_quiet (fail)
        go_wp2
        go_roundw
        case rel => exact ⟨k + 1, _, by omega, by go_num, rfl, take_eq_succ HT.out HXK.out HYK.out⟩
        case measure => simp [intOf]; omega
      · have hne : (x == y) = false := by simpa using he
        have hne' : (x != y) = true := by simpa using he
        have hf : decide (xs = ys) = false := decide_eq_false (fun e => he (by have h1 := HXK.out; rw [e, HYK.out] at h1; injection h1 with h1; exact h1.symm))
        clear he
        go_wp2
        go_quiet (fail)
        go_wp2
        go_ret
        exact ⟨retB (by simp [hf]), _, World.drewN_drewN _ _ _⟩
    · have hkn : k = n := by omega
      have htr : decide (xs = ys) = true := decide_eq_true (by
        have h := HT.out
        rwa [List.take_of_length_le (by rw [HX.out]; omega), List.take_of_length_le (by rw [HY.out]; omega)] at h)
      clear hkn
      go_wp2
      go_ret
      exact ⟨retB (by simp [htr]), _, rfl⟩

theorem equalInt_any (A B : Option Addr) (n m c d : Nat) (xs ys : List Int) (w : World) (hx : Rd w 1 A n (xs.map (Value.int .i64))) (hy : Rd w 1 B m (ys.map (Value.int .i64))) (hn : n ≤ maxLen) (hm : m ≤ maxLen) :
    Calls Tryz.prog 10 #[.slice A n c, .slice B m d] w fun e w' => e = .returned (.bool (decide (xs = ys))) ∧ ∃ q, w' = w.drewN q := by
  have hxl : xs.length = n := by simpa using hx.len1
  have hyl : ys.length = m := by simpa using hy.len1
  by_cases h : n = m
  · subst h
    exact equalInt_same n A B c d xs ys w hxl hyl hx hy hn
  · have hne : decide (xs = ys) = false := decide_eq_false (fun e => h (by rw [← hxl, ← hyl, e]))
    have h1 : ((n : Int) == m) = false := by simp; omega
    have h2 : ((n : Int) != m) = true := by simp; omega
    clear hxl hyl
    go_enter Tryz.func10, Tryz.ntmps10
    go_wp2
    go_ret
    exact ⟨retB (by simp [hne]), 0, rfl⟩
theorem equalInt_b (A B : Option Addr) (n m c d : Nat) (xs ys : List Int) (w : World) (hx : Rd w 1 A n (xs.map (Value.int .i64))) (hy : Rd w 1 B m (ys.map (Value.int .i64))) (hn : n ≤ maxLen) (hm : m ≤ maxLen) :
    Calls Tryz.prog 10 #[.slice A n c, .slice B m d] w fun e w' => e = .returned (.bool (decide (xs = ys))) ∧ Below w.heap.size w w' :=
  (equalInt_any A B n m c d xs ys w hx hy hn hm).mono fun _ _ ⟨he, q, hq⟩ => ⟨he, hq ▸ drewBelow q⟩
end Go.Proofs.YtpddjojgcenlkaaGreat
/- The trie's reference: Check and Get; the project's rise. -/
namespace Go.Proofs.YtpddjojgcenlkaaGreat
open Go.RowKit

set_option maxRecDepth 100000 in
set_option maxHeartbeats 1000000 in
theorem refGetG_any (A : Option Addr) (n c : Nat) (l : List Rg) (z x : Int) (w : World) (hr : Rd w 3 A n (cellsG l)) (hn : n ≤ maxLen) :
    Calls Tryz.prog 19 #[.slice A n c, .int .i64 z, .int .i64 x] w fun e w' => e = .returned (.int .i64 (getG l z x)) ∧ w = w' := by
  have HL := Lib.hid hr.lenG
  unfold maxLen at hn
  go_enter Tryz.func19, Tryz.ntmps19
  go_wp2
  go_loopw [7] (fun i wr => ∃ (k : Nat), k ≤ n ∧ i = .int .i64 k ∧ getG l z x = getG (l.drop k) z x ∧ w = wr) (fun i _ => n - (intOf i).toNat)
  case atStart => exact ⟨0, Nat.zero_le _, rfl, rfl, rfl⟩
  case round =>
    obtain ⟨k, hk, rfl, hp, rfl⟩ := hrel
    have HP := Lib.hid hp
    clear hp
    by_cases hlt : k < n
    · obtain ⟨s, hsk⟩ : ∃ s, l[k]? = some s := ⟨_, List.getElem?_eq_getElem (by rw [HL.out]; exact hlt)⟩
      obtain ⟨ad, rfl, hab, c1, c2, c3⟩ := hr.rg hsk
      have HD := Lib.hid (dropCons hsk)
      clear hsk
      obtain ⟨lo, hi, v⟩ := s
      simp only at c1 c2 c3
      by_cases h1 : lo ≤ x
      · by_cases h2 : x ≤ hi
        · have HF := Lib.hid (show getG l z x = v by rw [HP.out, HD.out]; exact if_pos ⟨h1, h2⟩)
          go_wp2
          go_ret
          exact ⟨by simp [HF.out], rfl⟩
        · have HF := Lib.hid (show getG l z x = getG (l.drop (k + 1)) z x by rw [HP.out, HD.out]; exact if_neg (fun h => h2 h.2))
          go_wp2
          go_roundw
          case rel => exact ⟨k + 1, by omega, by go_num, HF.out, trivial⟩
          case measure => simp [intOf]; omega
      · have HF := Lib.hid (show getG l z x = getG (l.drop (k + 1)) z x by rw [HP.out, HD.out]; exact if_neg (fun h => h1 h.1))
        go_wp2
        go_roundw
        case rel => exact ⟨k + 1, by omega, by go_num, HF.out, trivial⟩
        case measure => simp [intOf]; omega
    · have HF := Lib.hid (show getG l z x = z by rw [HP.out, List.drop_eq_nil_of_le (by rw [HL.out]; omega)]; rfl)
      go_wp2
      go_ret
      exact ⟨by simp [HF.out], rfl⟩
end Go.Proofs.YtpddjojgcenlkaaGreat
/- The reference's closes, Matches. -/
namespace Go.Proofs.YtpddjojgcenlkaaGreat
open Go.RowKit
set_option maxRecDepth 100000 in
set_option maxHeartbeats 2000000 in
theorem rfCloses_any (A : Option Addr) (n c i : Nat) (xs : List Int) (w : World) (hr : Rd w 1 A n (xs.map (Value.int .i64))) (hn : n ≤ 1000000) (hi : i < n) :
    Calls Tryz.prog 35 #[.slice A n c, .int .i64 (i : Int)] w fun e w' => e = .returned (.int .i64 (ansF xs (i + 1) 0 : Nat)) ∧ w = w' := by
  have hlen : xs.length = n := by simpa using hr.len1
  obtain ⟨a, ha⟩ : ∃ a, ansF xs (i + 1) 0 = a := ⟨_, rfl⟩
  have HA := Lib.hid ha
  have HL := Lib.hid hlen
  have HR := Lib.hid hr
  rw [ha]
  clear hlen hr ha
  go_enter Tryz.func35, Tryz.ntmps35
  go_wp2_with fail
  go_loopw [5, 6] (fun d k wr => ∃ (j e : Nat), j ≤ n ∧ e ≤ j ∧ k = .int .i64 (j : Int) ∧ d = .int .i64 (e : Int) ∧ wr = w ∧ ansF xs j e = a) (fun _ k _ => n - (intOf k).toNat)
  case atStart => exact ⟨i + 1, 0, by omega, by omega, by go_num, rfl, rfl, HA.out⟩
  case round =>
    obtain ⟨j, d, hj, hdj, rfl, rfl, rfl, hfs⟩ := hrel
    have HS := Lib.hid hfs
    clear hfs
    by_cases hlt : j < n
    · obtain ⟨x, hx⟩ : ∃ x, xs[j]? = some x := ⟨_, List.getElem?_eq_getElem (by rw [HL.out]; exact hlt)⟩
      obtain ⟨ad, rfl, hab, hcell⟩ := HR.out.at_ hlt
      have cx : wr.cell? (ad.add j) = some (.int .i64 x) := hcell _ (by rw [List.getElem?_map, hx]; rfl)
      obtain ⟨o, ho⟩ : ∃ o, opB x = o := ⟨_, rfl⟩
      have HI := Lib.hid (fun W => rfOpens_of x o ho W)
      have HX := Lib.hid hx
      have HO := Lib.hid ho
      clear hcell hx ho
      cases o with
      | true =>
        have HN := Lib.hid ((ansF_open d HX.out HO.out).symm.trans HS.out)
        go_wp2_with (first
          | (go_at_call 34; with_reducible refine (HI.out _).mono ?_; rintro e w2 ⟨rfl, rfl⟩)
          | fail)
        go_roundw
        case rel => exact ⟨j + 1, d + 1, by omega, by omega, by go_num, by go_num, trivial, HN.out⟩
        case measure => simp [intOf]; omega
      | false =>
        by_cases h22 : x = 22
        · subst h22
          rcases Nat.eq_zero_or_pos d with rfl | hd
          · have HN := Lib.hid (show j = a from (ansF_here HX.out).symm.trans HS.out)
            go_wp2_with (first
              | (go_at_call 34; with_reducible refine (HI.out _).mono ?_; rintro e w2 ⟨rfl, rfl⟩)
              | fail)
            go_ret
            exact ⟨retI (by have := HN.out; omega), rfl⟩
          · obtain ⟨f, rfl⟩ : ∃ f, d = f + 1 := ⟨d - 1, by omega⟩
            have HN := Lib.hid ((ansF_shut f HX.out).symm.trans HS.out)
            obtain ⟨D, hD⟩ : ∃ D : Int, ((f + 1 : Nat) : Int) = D := ⟨_, rfl⟩
            have hm4 : D - 1 = (f : Int) := by omega
            obtain ⟨hD1, hD2, hD3⟩ : 0 ≤ D ∧ D ≤ 1000001 ∧ (D == 0) = false := ⟨by omega, by omega, by simp; omega⟩
            rw [hD]
            clear hD hd
            go_wp2_with (first
              | (go_at_call 34; with_reducible refine (HI.out _).mono ?_; rintro e w2 ⟨rfl, rfl⟩)
              | fail)
            go_roundw
            case rel => exact ⟨j + 1, f, by omega, by omega, by go_num, by go_num, trivial, HN.out⟩
            case measure => simp [intOf]; omega
        · have HN := Lib.hid ((ansF_pass d HX.out HO.out h22).symm.trans HS.out)
          have g22 : (x == 22) = false := by simp [h22]
          clear h22
          go_wp2_with (first
            | (go_at_call 34; with_reducible refine (HI.out _).mono ?_; rintro e w2 ⟨rfl, rfl⟩)
            | fail)
          go_roundw
          case rel => exact ⟨j + 1, d, by omega, by omega, by go_num, rfl, trivial, HN.out⟩
          case measure => simp [intOf]; omega
    · obtain rfl : j = n := by omega
      have HN := Lib.hid (show j = a by have := HS.out; rw [← HL.out, ansF_end] at this; rw [← HL.out]; exact this)
      go_wp2
      go_ret
      exact ⟨retI (by have := HN.out; omega), rfl⟩
end Go.Proofs.YtpddjojgcenlkaaGreat
