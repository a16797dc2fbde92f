/- The calls of a Props: made, Class, Join, Digit, of, Mark, Strong, Control; of what New made, and of what no call made. -/
import Derived.Test.YtfobhnpmaooalaaDoorPpD
namespace Go.Proofs.YtfobhnpmaooalaaDoor
open Go.RowKit

/-- What no call made. -/
def NoProp (w : World) (p : Value) : Prop := p = .pointer none ∨ ∃ b, p = .pointer (some ⟨b, 0, none⟩) ∧ w.cell? ⟨b, 0, none⟩ = some (.pointer none)
theorem ppMade_any (b : Nat) (w : World) (h : PropAt w b) : Calls Tryd.prog 26 #[.pointer (some ⟨b, 0, none⟩)] w fun e w' => e = .returned (.bool true) ∧ w = w' := by
  obtain ⟨b1, b2, n1, n2, h1, _, _, _⟩ := h
  go_enter Tryd.func26, Tryd.ntmps26
  go_wp2
  go_ret
  exact ⟨rfl, rfl⟩
theorem ppMade_no {w : World} {p : Value} (h : NoProp w p) : Calls Tryd.prog 26 #[p] w fun e w' => e = .returned (.bool false) ∧ w = w' := by
  rcases h with rfl | ⟨b, rfl, h⟩
  · go_enter Tryd.func26, Tryd.ntmps26
    go_wp2
    go_ret
    exact ⟨rfl, rfl⟩
  · go_enter Tryd.func26, Tryd.ntmps26
    go_wp2
    go_ret
    exact ⟨rfl, rfl⟩
set_option maxRecDepth 100000 in
theorem ppClass_of (lB : List Rg) (b b1 n1 : Nat) (c : Int) (w : World) (h1 : w.cell? ⟨b, 0, none⟩ = some (.pointer (some ⟨b1, 0, none⟩))) (hT : TabAt w b1 lB 0 n1) (hr : riseB (-1) lB = true) :
    Calls Tryd.prog 27 #[.pointer (some ⟨b, 0, none⟩), .int .i64 c] w fun e w' => e = .returned (.int .i64 (if 0 ≤ c ∧ c ≤ 1114111 then getG lB 0 c else 13)) ∧ Below w.heap.size w w' := by
  have HT := Lib.hid hT
  have HR := Lib.hid hr
  clear hT hr
  have hc : c < 0 ∨ (0 ≤ c ∧ 1114111 < c) ∨ (0 ≤ c ∧ c ≤ 1114111) := by omega
  rcases hc with h | ⟨h, h'⟩ | ⟨h, h'⟩
  · have HV := Lib.hid (show (if 0 ≤ c ∧ c ≤ 1114111 then getG lB 0 c else 13) = 13 from if_neg (by omega))
    go_enter Tryd.func27, Tryd.ntmps27
    go_wp2
    go_ret
    exact ⟨by first | rfl | exact retI HV.out.symm, Below.refl _ _⟩
  · have HV := Lib.hid (show (if 0 ≤ c ∧ c ≤ 1114111 then getG lB 0 c else 13) = 13 from if_neg (by omega))
    go_enter Tryd.func27, Tryd.ntmps27
    go_wp2
    go_ret
    exact ⟨by first | rfl | exact retI HV.out.symm, Below.refl _ _⟩
  · have HV := Lib.hid (show (if 0 ≤ c ∧ c ≤ 1114111 then getG lB 0 c else 13) = getG lB 0 c from if_pos ⟨h, h'⟩)
    go_enter Tryd.func27, Tryd.ntmps27
    go_wp2_with fail
    refine (prGet_any b1 n1 lB 0 c w HT.out HR.out).mono ?_
    rintro e w1 ⟨rfl, hb⟩
    go_wp2
    go_ret
    exact ⟨by first | rfl | exact retI HV.out.symm, hb⟩
set_option maxRecDepth 100000 in
theorem ppJoin_of (lJ : List Rg) (b b2 n2 : Nat) (c : Int) (w : World) (h1 : w.cell? ⟨b, 1, none⟩ = some (.pointer (some ⟨b2, 0, none⟩))) (hT : TabAt w b2 lJ 0 n2) (hr : riseB (-1) lJ = true) :
    Calls Tryd.prog 29 #[.pointer (some ⟨b, 0, none⟩), .int .i64 c] w fun e w' => e = .returned (.int .i64 (getG lJ 0 c)) ∧ Below w.heap.size w w' := by
  have HT := Lib.hid hT
  have HR := Lib.hid hr
  clear hT hr
  go_enter Tryd.func29, Tryd.ntmps29
  go_wp2_with fail
  refine (prGet_any b2 n2 lJ 0 c w HT.out HR.out).mono ?_
  rintro e w1 ⟨rfl, hb⟩
  go_wp2
  go_ret
  exact ⟨rfl, hb⟩
/-- The inner calls, with what they tell as a letter. -/
theorem ppClass_gen (b : Nat) (c v : Int) (w : World) (hP : PropAt w b) (hk : ∀ w' : World, w' = w → Calls Tryd.prog 27 #[.pointer (some ⟨b, 0, none⟩), .int .i64 c] w' fun e w'' => e = .returned (.int .i64 v) ∧ Below w'.heap.size w' w'') :
    Calls Tryd.prog 10 #[.pointer (some ⟨b, 0, none⟩), .int .i64 c] w fun e w' => e = .returned (.int .i64 v) ∧ Below w.heap.size w w' := by
  have HP := Lib.hid hP
  have HK := Lib.hid hk
  clear hP hk
  go_enter Tryd.func10, Tryd.ntmps10
  go_wp2_with fail
  refine (ppMade_any b w HP.out).mono ?_
  rintro e w1 ⟨rfl, rfl⟩
  go_wp2_with fail
  refine (HK.out _ rfl).mono ?_
  rintro e w2 ⟨rfl, hb⟩
  go_wp2
  go_ret
  exact ⟨rfl, hb⟩
theorem ppClass_any (b : Nat) (c v : Int) (hv : classF c = v) (w : World) (hP : PropAt w b) :
    Calls Tryd.prog 10 #[.pointer (some ⟨b, 0, none⟩), .int .i64 c] w fun e w' => e = .returned (.int .i64 v) ∧ Below w.heap.size w w' :=
  ppClass_gen b c v w hP fun w' e => by
    subst e
    obtain ⟨b1, b2, n1, n2, h1, h2, h3, h4⟩ := hP
    have := ppClass_of bidiL b b1 n1 c w' h1 h3 bidi_rise
    rw [← hv]
    exact this
theorem ppJoin_gen (b : Nat) (c v : Int) (w : World) (hP : PropAt w b) (hk : ∀ w' : World, w' = w → Calls Tryd.prog 29 #[.pointer (some ⟨b, 0, none⟩), .int .i64 c] w' fun e w'' => e = .returned (.int .i64 v) ∧ Below w'.heap.size w' w'') :
    Calls Tryd.prog 12 #[.pointer (some ⟨b, 0, none⟩), .int .i64 c] w fun e w' => e = .returned (.int .i64 v) ∧ Below w.heap.size w w' := by
  have HP := Lib.hid hP
  have HK := Lib.hid hk
  clear hP hk
  go_enter Tryd.func12, Tryd.ntmps12
  go_wp2_with fail
  refine (ppMade_any b w HP.out).mono ?_
  rintro e w1 ⟨rfl, rfl⟩
  go_wp2_with fail
  refine (HK.out _ rfl).mono ?_
  rintro e w2 ⟨rfl, hb⟩
  go_wp2
  go_ret
  exact ⟨rfl, hb⟩
theorem ppJoin_any (b : Nat) (c v : Int) (hv : joinF c = v) (w : World) (hP : PropAt w b) :
    Calls Tryd.prog 12 #[.pointer (some ⟨b, 0, none⟩), .int .i64 c] w fun e w' => e = .returned (.int .i64 v) ∧ Below w.heap.size w w' :=
  ppJoin_gen b c v w hP fun w' e => by
    subst e
    obtain ⟨b1, b2, n1, n2, h1, h2, h3, h4⟩ := hP
    have := ppJoin_of joinL b b2 n2 c w' h2 h4 join_rise
    rw [← hv]
    exact this
theorem ppClass_no {w : World} {p : Value} (h : NoProp w p) (c : Int) : Calls Tryd.prog 10 #[p, .int .i64 c] w fun e w' => e = .returned (.int .i64 13) ∧ w = w' := by
  have H := Lib.hid h
  clear h
  go_enter Tryd.func10, Tryd.ntmps10
  go_wp2_with fail
  refine (ppMade_no H.out).mono ?_
  rintro e w1 ⟨rfl, rfl⟩
  go_wp2
  go_ret
  exact ⟨rfl, rfl⟩
theorem ppJoin_no {w : World} {p : Value} (h : NoProp w p) (c : Int) : Calls Tryd.prog 12 #[p, .int .i64 c] w fun e w' => e = .returned (.int .i64 0) ∧ w = w' := by
  have H := Lib.hid h
  clear h
  go_enter Tryd.func12, Tryd.ntmps12
  go_wp2_with fail
  refine (ppMade_no H.out).mono ?_
  rintro e w1 ⟨rfl, rfl⟩
  go_wp2
  go_ret
  exact ⟨rfl, rfl⟩
/-- The zeros of the three kinds of digits, as the program lays them. -/
def ZerosAt (w : World) : Prop := w.cell? ⟨0, 0, none⟩ = some (.int .i64 48) ∧ w.cell? ⟨0, 1, none⟩ = some (.int .i64 1632) ∧ w.cell? ⟨0, 2, none⟩ = some (.int .i64 1776)
theorem ZerosAt.below {w w' : World} (h : ZerosAt w) (hb : Below w.heap.size w w') : ZerosAt w' := ⟨cell_below hb h.1, cell_below hb h.2.1, cell_below hb h.2.2⟩
set_option maxRecDepth 100000 in
set_option maxHeartbeats 2000000 in
theorem ppDigit_any (b : Nat) (c d k : Int) (hd : digF c = (d, k)) (w : World) (hP : PropAt w b) (hZ : ZerosAt w) :
    Calls Tryd.prog 30 #[.pointer (some ⟨b, 0, none⟩), .int .i64 c] w fun e w' => e = .returned (.tuple #[.int .i64 d, .int .i64 k]) ∧ w = w' := by
  have HP := Lib.hid hP
  obtain ⟨z0, z1, z2⟩ := hZ
  clear hP
  have hcase : (48 ≤ c ∧ c ≤ 57) ∨ ((c < 48 ∨ 57 < c) ∧ 1632 ≤ c ∧ c ≤ 1641) ∨ ((c < 48 ∨ 57 < c) ∧ (c < 1632 ∨ 1641 < c) ∧ 1776 ≤ c ∧ c ≤ 1785) ∨ ((c < 48 ∨ 57 < c) ∧ (c < 1632 ∨ 1641 < c) ∧ (c < 1776 ∨ 1785 < c)) := by omega
  have hval : (48 ≤ c ∧ c ≤ 57 → d = c - 48 ∧ k = 1) ∧ ((c < 48 ∨ 57 < c) ∧ 1632 ≤ c ∧ c ≤ 1641 → d = c - 1632 ∧ k = 2) ∧ ((c < 48 ∨ 57 < c) ∧ (c < 1632 ∨ 1641 < c) ∧ 1776 ≤ c ∧ c ≤ 1785 → d = c - 1776 ∧ k = 3) ∧ ((c < 48 ∨ 57 < c) ∧ (c < 1632 ∨ 1641 < c) ∧ (c < 1776 ∨ 1785 < c) → d = 0 ∧ k = 0) := by
    unfold digF at hd
    refine ⟨fun h => ?_, fun h => ?_, fun h => ?_, fun h => ?_⟩
    · rw [if_pos h] at hd; injection hd with e1 e2; exact ⟨e1.symm, e2.symm⟩
    · rw [if_neg (by omega), if_pos h.2] at hd; injection hd with e1 e2; exact ⟨e1.symm, e2.symm⟩
    · rw [if_neg (by omega), if_neg (by omega), if_pos h.2.2] at hd; injection hd with e1 e2; exact ⟨e1.symm, e2.symm⟩
    · rw [if_neg (by omega), if_neg (by omega), if_neg (by omega)] at hd; injection hd with e1 e2; exact ⟨e1.symm, e2.symm⟩
  have HV := Lib.hid hval
  have HC := Lib.hid hcase
  clear hval hcase hd
  go_enter Tryd.func30, Tryd.ntmps30
  go_wp2_with fail
  refine (ppMade_any b w HP.out).mono ?_
  rintro e w1 ⟨rfl, rfl⟩
  go_wp2
  go_loop [12] (fun i => ∃ j : Nat, j ≤ 3 ∧ i = .int .i64 j ∧ (1 ≤ j → c < 48 ∨ 57 < c) ∧ (2 ≤ j → c < 1632 ∨ 1641 < c) ∧ (3 ≤ j → c < 1776 ∨ 1785 < c)) (fun i => 3 - (intOf i).toNat)
  case atStart => exact ⟨0, by omega, rfl, by omega, by omega, by omega⟩
  case round =>
    obtain ⟨j, hj, rfl, g1, g2, g3⟩ := hrel
    have hj4 : j = 0 ∨ j = 1 ∨ j = 2 ∨ j = 3 := by omega
    rcases hj4 with rfl | rfl | rfl | rfl
    · clear g1 g2 g3
      by_cases hin : 48 ≤ c ∧ c ≤ 57
      · obtain ⟨rfl, rfl⟩ := HV.out.1 hin
        obtain ⟨i1, i2⟩ := hin
        go_wp2_with (first | ((with_reducible refine Great.wpList_readTo rfl (some 15) rfl (.int .i64 48) ?_ ?_); kernel_rfl) | fail)
        go_ret2
        exact ⟨rfl, rfl⟩
      · have hout : c < 48 ∨ 57 < c := by omega
        have HO := Lib.hid hout
        clear hin
        rcases hout with h | h
        · go_wp2_with (first | ((with_reducible refine Great.wpList_readTo rfl (some 15) rfl (.int .i64 48) ?_ ?_); kernel_rfl) | fail)
          go_round
          case rel => exact ⟨1, by omega, by simp, fun _ => HO.out, by omega, by omega⟩
          case measure => simp [intOf]
        · have h' : 48 ≤ c := by omega
          go_wp2_with (first | ((with_reducible refine Great.wpList_readTo rfl (some 15) rfl (.int .i64 48) ?_ ?_); kernel_rfl) | fail)
          go_round
          case rel => exact ⟨1, by omega, by simp, fun _ => HO.out, by omega, by omega⟩
          case measure => simp [intOf]
    · have G1 := Lib.hid (g1 (by omega))
      clear g1 g2 g3
      by_cases hin : 1632 ≤ c ∧ c ≤ 1641
      · obtain ⟨rfl, rfl⟩ := HV.out.2.1 ⟨G1.out, hin⟩
        obtain ⟨i1, i2⟩ := hin
        go_wp2_with (first | ((with_reducible refine Great.wpList_readTo rfl (some 15) rfl (.int .i64 1632) ?_ ?_); kernel_rfl) | fail)
        go_ret2
        exact ⟨rfl, rfl⟩
      · have hout : c < 1632 ∨ 1641 < c := by omega
        have HO := Lib.hid hout
        clear hin
        rcases hout with h | h
        · go_wp2_with (first | ((with_reducible refine Great.wpList_readTo rfl (some 15) rfl (.int .i64 1632) ?_ ?_); kernel_rfl) | fail)
          go_round
          case rel => exact ⟨2, by omega, by simp, fun _ => G1.out, fun _ => HO.out, by omega⟩
          case measure => simp [intOf]
        · have h' : 1632 ≤ c := by omega
          go_wp2_with (first | ((with_reducible refine Great.wpList_readTo rfl (some 15) rfl (.int .i64 1632) ?_ ?_); kernel_rfl) | fail)
          go_round
          case rel => exact ⟨2, by omega, by simp, fun _ => G1.out, fun _ => HO.out, by omega⟩
          case measure => simp [intOf]
    · have G1 := Lib.hid (g1 (by omega))
      have G2 := Lib.hid (g2 (by omega))
      clear g1 g2 g3
      by_cases hin : 1776 ≤ c ∧ c ≤ 1785
      · obtain ⟨rfl, rfl⟩ := HV.out.2.2.1 ⟨G1.out, G2.out, hin⟩
        obtain ⟨i1, i2⟩ := hin
        go_wp2_with (first | ((with_reducible refine Great.wpList_readTo rfl (some 15) rfl (.int .i64 1776) ?_ ?_); kernel_rfl) | fail)
        go_ret2
        exact ⟨rfl, rfl⟩
      · have hout : c < 1776 ∨ 1785 < c := by omega
        have HO := Lib.hid hout
        clear hin
        rcases hout with h | h
        · go_wp2_with (first | ((with_reducible refine Great.wpList_readTo rfl (some 15) rfl (.int .i64 1776) ?_ ?_); kernel_rfl) | fail)
          go_round
          case rel => exact ⟨3, by omega, by simp, fun _ => G1.out, fun _ => G2.out, fun _ => HO.out⟩
          case measure => simp [intOf]
        · have h' : 1776 ≤ c := by omega
          go_wp2_with (first | ((with_reducible refine Great.wpList_readTo rfl (some 15) rfl (.int .i64 1776) ?_ ?_); kernel_rfl) | fail)
          go_round
          case rel => exact ⟨3, by omega, by simp, fun _ => G1.out, fun _ => G2.out, fun _ => HO.out⟩
          case measure => simp [intOf]
    · obtain ⟨rfl, rfl⟩ := HV.out.2.2.2 ⟨g1 (by omega), g2 (by omega), g3 (by omega)⟩
      clear g1 g2 g3
      go_wp2
      go_ret2
      exact ⟨rfl, rfl⟩
theorem ppDigit_no {w : World} {p : Value} (h : NoProp w p) (c : Int) : Calls Tryd.prog 30 #[p, .int .i64 c] w fun e w' => e = .returned (.tuple #[.int .i64 0, .int .i64 0]) ∧ w = w' := by
  have H := Lib.hid h
  clear h
  go_enter Tryd.func30, Tryd.ntmps30
  go_wp2_with fail
  refine (ppMade_no H.out).mono ?_
  rintro e w1 ⟨rfl, rfl⟩
  go_wp2
  go_ret2
  exact ⟨rfl, rfl⟩
end Go.Proofs.YtfobhnpmaooalaaDoor
