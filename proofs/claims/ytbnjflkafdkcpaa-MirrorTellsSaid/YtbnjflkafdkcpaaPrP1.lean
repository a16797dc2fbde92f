/- Pairs: the given lists, the closures, slices.IndexFunc over pairs, the project's find. -/
import Derived.Test.YtbnjflkafdkcpaaPrD
import Derived.Test.YtbnjflkafdkcpaaMem3
import Derived.Test.YtbnjflkafdkcpaaPartsD
import Derived.Shelf.Abstract
import Derived.Laws.ResultCell
import Derived.Test.YtbnjflkafdkcpaaPrNw
namespace Go.Proofs.Ytbnjflkafdkcpaa
open Go.RowKit
theorem opens_any (c : Int) (w : World) : Calls Try.prog 45 #[.int .i64 c] w fun e w' => (∃ b, e = .returned (.func (.func 48) #[] #[.pointer (some ⟨b, 0, none⟩)]) ∧ w'.cell? ⟨b, 0, none⟩ = some (.int .i64 c)) ∧ Below w.heap.size w w' := by
  go_enter Try.func45, Try.ntmps45
  go_wp2
  go_ret
  exact ⟨⟨_, rfl, by rw [World.cell?_alloc_at _ _ _ _ rfl]; rfl⟩, below_new _ _⟩
theorem closes_any (c : Int) (w : World) : Calls Try.prog 46 #[.int .i64 c] w fun e w' => (∃ b, e = .returned (.func (.func 49) #[] #[.pointer (some ⟨b, 0, none⟩)]) ∧ w'.cell? ⟨b, 0, none⟩ = some (.int .i64 c)) ∧ Below w.heap.size w w' := by
  go_enter Try.func46, Try.ntmps46
  go_wp2
  go_ret
  exact ⟨⟨_, rfl, by rw [World.cell?_alloc_at _ _ _ _ rfl]; rfl⟩, below_new _ _⟩
set_option maxRecDepth 100000 in
theorem opensLit_any (c x y : Int) (b : Nat) (w : World) (hc : w.cell? ⟨b, 0, none⟩ = some (.int .i64 c)) :
    Calls Try.prog 48 #[.agg #[.int .i64 x, .int .i64 y], .pointer (some ⟨b, 0, none⟩)] w fun e w' => e = .returned (.bool (opP c (x, y))) ∧ Below w.heap.size w w' := by
  have hc' := cell_below (below_new w (.cells #[.int .i64 x, .int .i64 y] 57)) hc
  by_cases h : x = c
  · have HF := Lib.hid (show opP c (x, y) = true by simp [opP, h])
    subst h
    go_enter Try.func48, Try.ntmps48
    go_wp2
    go_ret
    exact ⟨retB (by simp [HF.out]), below_new _ _⟩
  · have HF := Lib.hid (show opP c (x, y) = false by simp [opP, h])
    have h' : (x == c) = false := by simp [h]
    clear h
    go_enter Try.func48, Try.ntmps48
    go_wp2
    go_ret
    exact ⟨by rw [HF.out]; first | rfl | simp [h'], below_new _ _⟩
set_option maxRecDepth 100000 in
theorem closesLit_any (c x y : Int) (b : Nat) (w : World) (hc : w.cell? ⟨b, 0, none⟩ = some (.int .i64 c)) :
    Calls Try.prog 49 #[.agg #[.int .i64 x, .int .i64 y], .pointer (some ⟨b, 0, none⟩)] w fun e w' => e = .returned (.bool (clP c (x, y))) ∧ Below w.heap.size w w' := by
  have hc' := cell_below (below_new w (.cells #[.int .i64 x, .int .i64 y] 57)) hc
  by_cases h : y = c
  · have HF := Lib.hid (show clP c (x, y) = true by simp [clP, h])
    subst h
    go_enter Try.func49, Try.ntmps49
    go_wp2
    go_ret
    exact ⟨retB (by simp [HF.out]), below_new _ _⟩
  · have HF := Lib.hid (show clP c (x, y) = false by simp [clP, h])
    have h' : (y == c) = false := by simp [h]
    clear h
    go_enter Try.func49, Try.ntmps49
    go_wp2
    go_ret
    exact ⟨by rw [HF.out]; first | rfl | simp [h'], below_new _ _⟩

/-- What IndexFunc tells. -/
def FirstAt (P : Sp → Bool) (l : List Sp) (r : Int) : Prop := (r = -1 ∧ hitP P l = (0, 0, false)) ∨ ∃ k s, r = (k : Nat) ∧ l[k]? = some s ∧ hitP P l = (s.1, s.2, true)
theorem hit_first {P : Sp → Bool} {l : List Sp} {k : Nat} {s : Sp} (hk : l[k]? = some s) (hs : P s = true) (hno : ∀ t ∈ l.take k, P t = false) : hitP P l = (s.1, s.2, true) := by
  have h : l.find? P = some s := by
    rw [List.find?_eq_some_iff_append]
    refine ⟨hs, l.take k, l.drop (k + 1), ?_, fun a ha => by rw [hno a ha]; rfl⟩
    rw [← dropCons hk, List.take_append_drop]
  unfold hitP
  rw [h]
set_option maxRecDepth 100000 in
set_option maxHeartbeats 1000000 in
theorem indexFuncQ_any (P : Sp → Bool) (g : FuncId) (lb : Array Value) (eg : ∀ args w, (callFunc g args).run Try.prog w = .ok (.enter g args) w) (A : Option Addr) (n c : Nat) (l : List Sp) (w : World)
    (hr : Rd w 2 A n (cellsS l)) (hn : n ≤ maxLen)
    (hcl : ∀ lo hi W, Below w.heap.size w W → Calls Try.prog g (#[.agg #[.int .i64 lo, .int .i64 hi]] ++ lb) W fun e W' => e = .returned (.bool (P (lo, hi))) ∧ Below W.heap.size W W') :
    Calls Try.prog 47 #[.slice A n c, .func (.func g) #[] lb] w fun e w' => (∃ r, e = .returned (.int .i64 r) ∧ FirstAt P l r) ∧ Below w.heap.size w w' := by
  have hlen : l.length = n := by have := hr.1; rw [cellsS_len] at this; omega
  have HL := Lib.hid hlen
  have HC := Lib.hid hcl
  clear hlen hcl
  unfold maxLen at hn
  go_enter Try.func47, Try.ntmps47
  go_wp2
  go_loopw [8] (fun i wr => ∃ k : Nat, k ≤ n ∧ i = .int .i64 k ∧ (∀ s ∈ l.take k, P s = false) ∧ Below w.heap.size w wr) (fun i _ => n - (intOf i).toNat)
  case atStart => exact ⟨0, Nat.zero_le _, rfl, by simp, Below.refl _ _⟩
  case round =>
    obtain ⟨k, hk, rfl, hno, hb⟩ := hrel
    have HN := Lib.hid hno
    clear hno
    by_cases hlt : k < n
    · obtain ⟨s, hsk⟩ : ∃ s, l[k]? = some s := ⟨_, List.getElem?_eq_getElem (by rw [HL.out]; exact hlt)⟩
      obtain ⟨ad, rfl, hab, c1, c2⟩ := (hr.below hb).span hsk
      obtain ⟨lo, hi⟩ := s
      simp only at c1 c2
      have HS := Lib.hid hsk
      clear hsk
      have hcall := HC.out lo hi wr hb
      cases hh : P (lo, hi) with
      | true =>
        have HF := Lib.hid (show FirstAt P l k from .inr ⟨k, _, rfl, HS.out, hit_first HS.out hh HN.out⟩)
        rw [hh] at hcall
        clear hh
        go_wp2_with (go_at_fn g; refine hcall.mono ?_; rintro e w1 ⟨rfl, hb1⟩; have hb2 := hb.trans (hb1.mono hb.size))
        go_ret
        exact ⟨⟨_, rfl, HF.out⟩, hb2⟩
      | false =>
        have HX := Lib.hid (show ∀ t ∈ l.take (k + 1), P t = false by
          intro t ht
          rw [List.take_add_one, HS.out] at ht
          simp at ht
          rcases ht with ht | rfl
          · exact HN.out t ht
          · exact hh)
        rw [hh] at hcall
        clear hh
        go_wp2_with (go_at_fn g; refine hcall.mono ?_; rintro e w1 ⟨rfl, hb1⟩; have hb2 := hb.trans (hb1.mono hb.size))
        go_roundw
        case rel => exact ⟨k + 1, by omega, by go_num, HX.out, hb2⟩
        case measure => simp [intOf]; omega
    · have HF := Lib.hid (show FirstAt P l (-1) from .inl ⟨rfl, hit_none (by have := HN.out; rwa [List.take_of_length_le (by rw [HL.out]; omega)] at this)⟩)
      go_wp2
      go_ret
      exact ⟨⟨_, rfl, HF.out⟩, hb⟩
end Go.Proofs.Ytbnjflkafdkcpaa
