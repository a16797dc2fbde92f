/- Forms: slices.Index, place, pick; the closure, slices.IndexFunc over letters; Form, Base. -/
import Derived.Test.YtapdfnffpikeeaaFmA
import Derived.Shelf.Abstract
import Derived.Test.YtapdfnffpikeeaaLgB
namespace Go.Proofs.Ytapdfnffpikeeaa
open Go.RowKit

def idx1 (x : Int) : List Int → Nat
  | [] => 0
  | y :: l => if y = x then 1 else match idx1 x l with
    | 0 => 0
    | k + 1 => k + 2
theorem hit_idx (c : Int) (l : List Int) : hitF c l = if c = 0 then 0 else idx1 c l := by
  induction l with
  | nil => simp [hitF, idx1]
  | cons y l ih =>
    rw [hitF, idx1, ih]
    by_cases h : c = 0
    · simp [h]
    · simp only [h, if_false]
      split
      · rfl
      · cases idx1 c l <;> rfl
theorem idx1_none {x : Int} {l : List Int} (h : x ∉ l) : idx1 x l = 0 := by
  induction l with
  | nil => rfl
  | cons y l ih =>
    rw [idx1, if_neg (fun e => h (by simp [e])), ih (fun m => h (by simp [m]))]
theorem idx1_at {x : Int} : ∀ {l : List Int} {k : Nat}, l[k]? = some x → x ∉ l.take k → idx1 x l = k + 1
  | [], _, h, _ => by simp at h
  | y :: l, 0, h, _ => by
    simp at h
    rw [idx1, if_pos h]
  | y :: l, k + 1, h, hn => by
    rw [List.take_succ_cons] at hn
    rw [idx1, if_neg (fun e => hn (by simp [e])), idx1_at (l := l) (k := k) (by simpa using h) (fun m => hn (by simp [m]))]
set_option maxRecDepth 100000 in
theorem indexN_any (A : Option Addr) (n c : Nat) (xs : List Int) (x : Int) (w : World) (hr : Rd w 1 A n (xs.map (Value.int .i64))) (hn : n ≤ 1000) :
    Calls Try.prog 27 #[.slice A n c, .int .i64 x] w fun e w' => e = .returned (.int .i64 ((idx1 x xs : Nat) - 1)) ∧ w = w' := by
  have hlen : xs.length = n := by simpa using hr.len1
  have HL := Lib.hid hlen
  clear hlen
  go_enter Try.func27, Try.ntmps27
  go_wp2
  go_loop [8] (fun i => ∃ k : Nat, k ≤ n ∧ i = .int .i64 k ∧ x ∉ xs.take k) (fun i => n - (intOf i).toNat)
  case atStart => exact ⟨0, Nat.zero_le _, rfl, by simp⟩
  case round =>
    obtain ⟨k, hk, rfl, hno⟩ := hrel
    have HN := Lib.hid hno
    clear hno
    by_cases hlt : k < n
    · obtain ⟨s, hsk⟩ : ∃ s, xs[k]? = some s := ⟨_, List.getElem?_eq_getElem (by rw [HL.out]; exact hlt)⟩
      obtain ⟨ad, rfl, _, hc⟩ := hr.at_ hlt
      have cs : w.cell? (ad.add k) = some (.int .i64 s) := hc _ (by rw [List.getElem?_map, hsk]; rfl)
      have HS := Lib.hid hsk
      clear hsk hc
      by_cases he : x = s
      · have HM := Lib.hid (show (((idx1 x xs : Nat) : Int) - 1) = k by rw [idx1_at (by rw [he]; exact HS.out) HN.out]; omega)
        subst he
        go_wp2
        go_ret
        exact ⟨retI HM.out.symm, rfl⟩
      · have HX := Lib.hid (show x ∉ xs.take (k + 1) by
          rw [List.take_add_one, HS.out]
          simp only [Option.toList_some, List.mem_append, List.mem_singleton, not_or]
          exact ⟨HN.out, he⟩)
        have g1 : (x == s) = false := by simp [he]
        clear he
        go_wp2
        go_round
        case rel => exact ⟨k + 1, by omega, by go_num, HX.out⟩
        case measure => simp [intOf]; omega
    · have HF := Lib.hid (show (((idx1 x xs : Nat) : Int) - 1) = -1 by rw [idx1_none (by have := HN.out; rwa [List.take_of_length_le (by rw [HL.out]; omega)] at this)]; rfl)
      go_wp2
      go_ret
      exact ⟨retI HF.out.symm, rfl⟩
theorem place_any (A : Option Addr) (n d : Nat) (xs : List Int) (c : Int) (h : Nat) (w : World) (hh : hitF c xs = h) (hr : Rd w 1 A n (xs.map (Value.int .i64))) (hn : n ≤ 1000) :
    Calls Try.prog 26 #[.int .i64 c, .slice A n d] w fun e w' => (∃ r : Int, e = .returned (.tuple #[.int .i64 r, .bool (decide (h ≠ 0))]) ∧ (h ≠ 0 → r = (h : Int) - 1)) ∧ w = w' := by
  have HC := Lib.hid (indexN_any A n d xs c w hr hn)
  have HH := Lib.hid (hh.symm.trans (hit_idx c xs))
  clear hr hh
  go_enter Try.func26, Try.ntmps26
  go_wp2_with fail
  refine HC.out.mono ?_
  rintro e w1 ⟨rfl, rfl⟩
  obtain ⟨i, hi⟩ : ∃ i, idx1 c xs = i := ⟨_, rfl⟩
  rw [hi]
  have HI := Lib.hid hi
  clear hi HC
  by_cases h0 : i = 0
  · have HF := Lib.hid (show h = 0 by rw [HH.out, HI.out, h0]; split <;> rfl)
    have HZ : Hid (((i : Nat) : Int) - 1 = -1) := Lib.hid (by omega)
    rw [HZ.out]
    clear h0 HZ HI
    go_wp2
    go_ret2
    exact ⟨⟨_, by rw [HF.out]; rfl, fun h => absurd HF.out h⟩, rfl⟩
  · obtain ⟨j, rfl⟩ : ∃ j, i = j + 1 := ⟨i - 1, by omega⟩
    have HZ : Hid ((((j + 1 : Nat) : Nat) : Int) - 1 = (j : Int)) := Lib.hid (by omega)
    rw [HZ.out]
    clear HZ h0
    by_cases hc : c = 0
    · have HF := Lib.hid (show h = 0 by rw [HH.out, if_pos hc])
      subst hc
      go_wp2
      go_ret2
      exact ⟨⟨_, by rw [HF.out]; rfl, fun h => absurd HF.out h⟩, rfl⟩
    · have HF := Lib.hid (show h = j + 1 by rw [HH.out, if_neg hc, HI.out])
      have g1 : (c != 0) = true := by simp [hc]
      clear hc
      go_wp2
      go_ret2
      exact ⟨⟨_, by rw [HF.out]; rfl, fun _ => by rw [HF.out]; omega⟩, rfl⟩
/-- The closure of Form: whether a letter has this code. -/
def isL (b : Int) (t : Lt) : Bool := decide (t.1 = b)
set_option maxRecDepth 100000 in
theorem formLit_any (b : Int) (t : Lt) (bx : Nat) (w : World) (hc : w.cell? ⟨bx, 0, none⟩ = some (.int .i64 b)) :
    Calls Try.prog 23 #[.agg #[.int .i64 t.1, .int .i64 t.2.1, .int .i64 t.2.2.1, .int .i64 t.2.2.2.1, .int .i64 t.2.2.2.2], .pointer (some ⟨bx, 0, none⟩)] w fun e w' => e = .returned (.bool (isL b t)) ∧ Below w.heap.size w w' := by
  obtain ⟨x, f0, f1, f2, f3⟩ := t
  simp only
  have hc' := cell_below (below_new w (.cells #[.int .i64 x, .int .i64 f0, .int .i64 f1, .int .i64 f2, .int .i64 f3] 42)) hc
  by_cases h : x = b
  · have HF := Lib.hid (show isL b (x, f0, f1, f2, f3) = true by simp [isL, h])
    subst h
    go_enter Try.func23, Try.ntmps23
    go_wp2
    go_ret
    exact ⟨retB (by simp [HF.out]), below_new _ _⟩
  · have HF := Lib.hid (show isL b (x, f0, f1, f2, f3) = false by simp [isL, h])
    have h' : (x == b) = false := by simp [h]
    clear h
    go_enter Try.func23, Try.ntmps23
    go_wp2
    go_ret
    exact ⟨by rw [HF.out]; first | rfl | simp [h'], below_new _ _⟩
def FirstL (P : Lt → Bool) (l : List Lt) (r : Int) : Prop := (r = -1 ∧ l.find? P = none) ∨ ∃ k t, r = (k : Nat) ∧ l[k]? = some t ∧ l.find? P = some t
theorem find_first {P : Lt → Bool} {l : List Lt} {k : Nat} {s : Lt} (hk : l[k]? = some s) (hs : P s = true) (hno : ∀ t ∈ l.take k, P t = false) : l.find? P = some s := by
  rw [List.find?_eq_some_iff_append]
  refine ⟨hs, l.take k, l.drop (k + 1), ?_, fun a ha => by rw [hno a ha]; rfl⟩
  rw [← dropCons hk, List.take_append_drop]
set_option maxRecDepth 100000 in
set_option maxHeartbeats 1000000 in
theorem indexFuncL_any (P : Lt → Bool) (g : FuncId) (lb : Array Value) (eg : ∀ args w, (callFunc g args).run Try.prog w = .ok (.enter g args) w) (A : Option Addr) (n c : Nat) (l : List Lt) (w : World)
    (hr : Rd w 5 A n (cellsL l)) (hn : n ≤ maxLen)
    (hcl : ∀ (t : Lt) W, Below w.heap.size w W → Calls Try.prog g (#[.agg #[.int .i64 t.1, .int .i64 t.2.1, .int .i64 t.2.2.1, .int .i64 t.2.2.2.1, .int .i64 t.2.2.2.2]] ++ lb) W fun e W' => e = .returned (.bool (P t)) ∧ Below W.heap.size W W') :
    Calls Try.prog 22 #[.slice A n c, .func (.func g) #[] lb] w fun e w' => (∃ r, e = .returned (.int .i64 r) ∧ FirstL P l r) ∧ Below w.heap.size w w' := by
  have hlen : l.length = n := by have := hr.1; rw [cellsL_len] at this; omega
  have HL := Lib.hid hlen
  have HC := Lib.hid hcl
  clear hlen hcl
  unfold maxLen at hn
  go_enter Try.func22, Try.ntmps22
  go_wp2
  go_loopw [8] (fun i wr => ∃ k : Nat, k ≤ n ∧ i = .int .i64 k ∧ (∀ s ∈ l.take k, P s = false) ∧ Below w.heap.size w wr) (fun i _ => n - (intOf i).toNat)
  case atStart => exact ⟨0, Nat.zero_le _, rfl, by simp, Below.refl _ _⟩
  case round =>
    obtain ⟨k, hk, rfl, hno, hb⟩ := hrel
    have HN := Lib.hid hno
    clear hno
    by_cases hlt : k < n
    · obtain ⟨s, hsk⟩ : ∃ s, l[k]? = some s := ⟨_, List.getElem?_eq_getElem (by rw [HL.out]; exact hlt)⟩
      obtain ⟨ad, rfl, hab, c0, c1, c2, c3, c4⟩ := (hr.below hb).lt_ hsk
      obtain ⟨x, f0, f1, f2, f3⟩ := s
      simp only at c0 c1 c2 c3 c4
      have HS := Lib.hid hsk
      clear hsk
      have hcall := HC.out (x, f0, f1, f2, f3) wr hb
      simp only at hcall
      cases hh : P (x, f0, f1, f2, f3) with
      | true =>
        have HF := Lib.hid (show FirstL P l k from .inr ⟨k, _, rfl, HS.out, find_first HS.out hh HN.out⟩)
        rw [hh] at hcall
        clear hh
        go_wp2_with (go_at_fn g; refine hcall.mono ?_; rintro e w1 ⟨rfl, hb1⟩; have hb2 := hb.trans (hb1.mono hb.size))
        go_ret
        exact ⟨⟨_, rfl, HF.out⟩, hb2⟩
      | false =>
        have HX := Lib.hid (show ∀ t ∈ l.take (k + 1), P t = false by
          intro t ht
          rw [List.take_add_one, HS.out] at ht
          simp only [Option.toList_some, List.mem_append, List.mem_singleton] at ht
          rcases ht with ht | rfl
          · exact HN.out t ht
          · exact hh)
        rw [hh] at hcall
        clear hh
        go_wp2_with (go_at_fn g; refine hcall.mono ?_; rintro e w1 ⟨rfl, hb1⟩; have hb2 := hb.trans (hb1.mono hb.size))
        go_roundw
        case rel => exact ⟨k + 1, by omega, by go_num, HX.out, hb2⟩
        case measure => simp [intOf]; omega
    · have HF := Lib.hid (show FirstL P l (-1) from .inl ⟨rfl, List.find?_eq_none.2 (fun s hs => by rw [HN.out s (by rwa [List.take_of_length_le (by rw [HL.out]; omega)])]; decide)⟩)
      go_wp2
      go_ret
      exact ⟨⟨_, rfl, HF.out⟩, hb⟩
end Go.Proofs.Ytapdfnffpikeeaa
