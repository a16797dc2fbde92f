/- naskhlaw28.BreaksLines. -/
import Derived.Test.YtdgomaoikeffhaaBrAw
import Derived.Test.YtdgomaoikeffhaaBrS4
import Derived.Test.YtdgomaoikeffhaaPartsP
import Derived.Test.YtdgomaoikeffhaaEqS
namespace Go.Proofs.Ytdgomaoikeffhaa
open Go.RowKit

theorem lines_len (bs : List Int) : ∀ l : List Sp, (linesF l bs).length ≤ (bs.length + 1) * l.length
  | [] => by simp [linesF]
  | s :: l => by
    have h1 := lnCut_len s.2 bs s.1
    have h2 := lines_len bs l
    have h3 : (linesF (s :: l) bs).length = (lnCut s.2 s.1 bs).length + (linesF l bs).length := by simp [linesF]
    rw [h3, List.length_cons, Nat.mul_succ]
    omega
set_option maxRecDepth 100000 in
set_option maxHeartbeats 2000000 in
theorem breaksLines_any (A B : Option Addr) (n m c d : Nat) (l : List Sp) (bs : List Int) (x : Int) (w : World) (hr : Rd w 2 A n (cellsS l)) (hs : Rd w 1 B m (bs.map (Value.int .i64))) (hn : n ≤ maxLen) (hm : m ≤ maxLen) :
    Calls Try.prog 6 #[.slice A n c, .slice B m d, .int .i64 x] w fun e w' => e = .returned (.bool true) ∧ Below w.heap.size w w' := by
  unfold maxLen at hn hm
  have HAW := Lib.hid awakeBr_any
  by_cases hn3 : 60 < n
  · have g1 : decide ((60 : Int) < (n : Int)) = true := decide_eq_true (by omega)
    clear hr hs
    go_enter Try.func6, Try.ntmps6
    go_wp2_with (first
      | (go_at_call 11; refine (HAW.out _).mono ?_; rintro e w1 ⟨rfl, hb1⟩)
      | fail)
    go_ret
    exact ⟨rfl, hb1⟩
  have g1 : decide ((60 : Int) < (n : Int)) = false := decide_eq_false (by omega)
  by_cases hm3 : 60 < m
  · have g2 : decide ((60 : Int) < (m : Int)) = true := decide_eq_true (by omega)
    clear hr hs
    go_enter Try.func6, Try.ntmps6
    go_wp2_with (first
      | (go_at_call 11; refine (HAW.out _).mono ?_; rintro e w1 ⟨rfl, hb1⟩)
      | fail)
    go_ret
    exact ⟨rfl, hb1⟩
  have g2 : decide ((60 : Int) < (m : Int)) = false := decide_eq_false (by omega)
  have hl : l.length = n := by have := hr.1; rw [cellsS_len] at this; omega
  have hl2 : bs.length = m := by simpa using hs.len1
  have hll := lines_len bs l
  rw [hl, hl2] at hll
  have hll2 : (linesF l bs).length ≤ 4000 := Nat.le_trans hll (Nat.le_trans (Nat.mul_le_mul (show m + 1 ≤ 61 by omega) (show n ≤ 60 by omega)) (by omega))
  have H1 := Lib.hid (brLines_any A B n c m d l bs w hr hs (by omega) (by omega))
  have H2 := Lib.hid (fun W (hB : Below w.heap.size w W) => rbLines_any A B n c m d l bs W (hr.below hB) (hs.below hB) (by omega) (by omega))
  have H3 := Lib.hid (fun W (hB : Below w.heap.size w W) => prParts_any A n c l x W (hr.below hB) (by unfold maxLen; omega))
  have hpt : partsS l x = true → partsS (linesF l bs) x = true := fun h => lines_from bs x l 0 h
  obtain ⟨L, hL⟩ : ∃ L, linesF l bs = L := ⟨_, rfl⟩
  rw [hL] at hll2 hpt H1 H2
  obtain ⟨K, hK⟩ : ∃ K, L.length = K := ⟨_, rfl⟩
  rw [hK] at hll2 H1 H2
  clear hr hs hl hl2 hll hL hK
  cases hp : partsS l x with
  | false =>
    rw [hp] at H3
    clear hpt hp
    go_enter Try.func6, Try.ntmps6
    go_wp2_with (first
      | (go_at_call 18; refine H1.out.mono ?_; rintro e w1 ⟨v1, rfl, hv1, hb1⟩; obtain ⟨A1, c1, he1, _⟩ := own_form hv1; subst he1; have HR1 := Lib.hid (Rd.of_own hv1); have HB1 := Lib.hid hb1; clear hv1 hb1)
      | (go_at_call 19; refine (H2.out _ HB1.out).mono ?_; rintro e w2 ⟨v2, rfl, hv2, hb2⟩; obtain ⟨A2, c2, he2, _⟩ := own_form hv2; subst he2; have HR2 := Lib.hid (Rd.of_own hv2); have HR3 := Lib.hid (HR1.out.below hb2); have HB2 := Lib.hid (below_self HB1.out hb2); clear hv2 hb2)
      | (go_at_call 16; refine (equalS_b A1 A2 K K c1 c2 L L _ HR3.out HR2.out (by unfold maxLen; omega) (by unfold maxLen; omega)).mono ?_; rintro e w5 ⟨rfl, hb5⟩; rw [decide_eq_true rfl]; have HB5 := Lib.hid (below_self HB2.out hb5); clear hb5)
      | (go_at_call 17; refine (H3.out _ HB5.out).mono ?_; rintro e w7 ⟨rfl, hb7⟩; have HB7 := Lib.hid (below_self HB5.out hb7); clear hb7)
      | (go_at_call 11; refine (HAW.out _).mono ?_; rintro e w6 ⟨rfl, hb6⟩; have HB6 := Lib.hid (below_self HB7.out hb6); clear hb6)
      | fail)
    go_ret
    exact ⟨rfl, HB6.out⟩
  | true =>
    have HPT := Lib.hid (hpt hp)
    rw [hp] at H3
    clear hpt hp
    go_enter Try.func6, Try.ntmps6
    go_wp2_with (first
      | (go_at_call 18; refine H1.out.mono ?_; rintro e w1 ⟨v1, rfl, hv1, hb1⟩; obtain ⟨A1, c1, he1, _⟩ := own_form hv1; subst he1; have HR1 := Lib.hid (Rd.of_own hv1); have HB1 := Lib.hid hb1; clear hv1 hb1)
      | (go_at_call 19; refine (H2.out _ HB1.out).mono ?_; rintro e w2 ⟨v2, rfl, hv2, hb2⟩; obtain ⟨A2, c2, he2, _⟩ := own_form hv2; subst he2; have HR2 := Lib.hid (Rd.of_own hv2); have HR3 := Lib.hid (HR1.out.below hb2); have HB2 := Lib.hid (below_self HB1.out hb2); clear hv2 hb2)
      | (go_at_call 16; refine (equalS_b A1 A2 K K c1 c2 L L _ HR3.out HR2.out (by unfold maxLen; omega) (by unfold maxLen; omega)).mono ?_; rintro e w5 ⟨rfl, hb5⟩; rw [decide_eq_true rfl]; have HB5 := Lib.hid (below_self HB2.out hb5); have HR5 := Lib.hid (HR3.out.below hb5); clear hb5)
      | (go_at_call 17; with_reducible refine (H3.out _ HB5.out).mono ?_; rintro e w7 ⟨rfl, hb7⟩; have HB7 := Lib.hid (below_self HB5.out hb7); have HR7 := Lib.hid (HR5.out.below hb7); clear hb7)
      | (go_at_call 17; with_reducible refine (prParts_any A1 K c1 L x _ HR7.out (by unfold maxLen; omega)).mono ?_; rintro e w8 ⟨rfl, hb8⟩; rw [HPT.out]; have HB8 := Lib.hid (below_self HB7.out hb8); clear hb8)
      | (go_at_call 11; refine (HAW.out _).mono ?_; rintro e w6 ⟨rfl, hb6⟩; have HB6 := Lib.hid (below_self HB8.out hb6); clear hb6)
      | fail)
    go_ret
    exact ⟨rfl, HB6.out⟩
end Go.Proofs.Ytdgomaoikeffhaa
