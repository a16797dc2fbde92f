/- naskhlaw05.IndexClusters returns true for all sizes and clusters. -/
import Derived.Test.YtpllgonjhljjkaaIdxL1
import Derived.Test.YtpllgonjhljjkaaIdxC3
import Derived.Test.YtpllgonjhljjkaaEqC
namespace Go.Proofs.Ytpllgonjhljjkaa
open Go.RowKit

theorem prNew_gen (A : Option Addr) (n c : Nat) (l : List Int) (w : World) (hr : Rd w 1 A n (l.map (Value.int .i64))) (hn : n ≤ maxLen) :
    Calls Try.prog 14 #[.slice A n c] w fun e w' => ∃ p, e = .returned (.tuple #[.pointer p, .int .i64 (errX l)]) ∧ Below w.heap.size w w' ∧ (errX l = 0 → ∃ b, p = some ⟨b, 0, none⟩ ∧ IdxAt w' b l) :=
  (prNew_any A n c l w hr hn).mono fun e w' h => by
    rcases h with ⟨h, he, hb⟩ | ⟨h, b, he, hx, hb⟩
    · exact ⟨_, he, hb, fun h' => absurd h' h⟩
    · exact ⟨_, by rw [h]; exact he, hb, fun _ => ⟨b, rfl, hx⟩⟩
theorem refNew_gen (A : Option Addr) (n c : Nat) (l : List Int) (w : World) (hr : Rd w 1 A n (l.map (Value.int .i64))) (hn : n ≤ maxLen) :
    Calls Try.prog 15 #[.slice A n c] w fun e w' => ∃ p, e = .returned (.tuple #[.pointer p, .int .i64 (errX l)]) ∧ Below w.heap.size w w' ∧ (errX l = 0 → ∃ b, p = some ⟨b, 0, none⟩ ∧ IdrAt w' b l) :=
  (refNewX_any A n c l w hr hn).mono fun e w' h => by
    rcases h with ⟨h, he, hb⟩ | ⟨h, b, he, hx, hb⟩
    · exact ⟨_, he, hb, fun h' => absurd h' h⟩
    · exact ⟨_, by rw [h]; exact he, hb, fun _ => ⟨b, rfl, hx⟩⟩

set_option maxRecDepth 100000 in
set_option maxHeartbeats 4000000 in
theorem indexClusters_any (A B C : Option Addr) (n m q ca cb cc : Nat) (a b : List Int) (l : List Cl) (w : World) (ha : Rd w 1 A n (a.map (Value.int .i64))) (hn : n ≤ maxLen) (hb : Rd w 1 B m (b.map (Value.int .i64))) (hm : m ≤ maxLen) (hl : Rd w 4 C q (cellsC l)) (hq : q ≤ maxLen) :
    Calls Try.prog 5 #[.slice A n ca, .slice B m cb, .slice C q cc] w fun e w' => e = .returned (.bool true) ∧ Below w.heap.size w w' := by
  have HN := Lib.hid hn
  have HM := Lib.hid hm
  have HQ := Lib.hid hq
  unfold maxLen at hq
  clear hn hm
  go_enter Try.func5, Try.ntmps5
  go_wp2_with fail
  refine (smallX_any A n ca a w ha HN.out).mono ?_
  rintro e w' ⟨rfl | ⟨rfl, h60⟩, rfl⟩
  · go_wp2_with fail
    refine (awakeX_any _).mono ?_
    rintro e w1 ⟨rfl, hb1⟩
    go_wp2
    go_ret
    exact ⟨rfl, hb1⟩
  go_wp2_with fail
  refine (smallX_any B m cb b w hb HM.out).mono ?_
  rintro e w' ⟨rfl | ⟨rfl, h61⟩, rfl⟩
  · go_wp2_with fail
    refine (awakeX_any _).mono ?_
    rintro e w1 ⟨rfl, hb1⟩
    go_wp2
    go_ret
    exact ⟨rfl, hb1⟩
  by_cases hq6 : 60 < q
  · go_wp2_with fail
    refine (awakeX_any _).mono ?_
    rintro e w1 ⟨rfl, hb1⟩
    go_wp2
    go_ret
    exact ⟨rfl, hb1⟩
  go_wp2_with fail
  refine (prNew_gen A n ca a w ha HN.out).mono ?_
  rintro e w1 ⟨p1, rfl, hb1, hx⟩
  have HX := Lib.hid hx
  clear hx
  go_wp2_with fail
  refine (prNew_gen B m cb b w1 (hb.below hb1) HM.out).mono ?_
  rintro e w2 ⟨p2, rfl, hb2, hy⟩
  have HY := Lib.hid hy
  clear hy
  have hb3 := below_self hb1 hb2
  go_wp2_with fail
  refine (refNew_gen A n ca a w2 (ha.below hb3) HN.out).mono ?_
  rintro e w3 ⟨p3, rfl, hb4, hx⟩
  have HX3 := Lib.hid hx
  clear hx
  have hb5 := below_self hb3 hb4
  go_wp2_with fail
  refine (refNew_gen B m cb b w3 (hb.below hb5) HM.out).mono ?_
  rintro e w4 ⟨p4, rfl, hb6, hy⟩
  have HY4 := Lib.hid hy
  clear hy
  have hb7 := below_self hb5 hb6
  by_cases hea : ¬ errX a = 0
  · have hne : (errX a != 0) = true := by simpa using hea
    clear hea
    go_wp2_with fail
    refine (awakeX_any _).mono ?_
    rintro e w5 ⟨rfl, hb8⟩
    have hb9 := below_self hb7 hb8
    go_wp2
    go_ret
    exact ⟨rfl, hb9⟩
  replace hea := Decidable.not_not.1 hea
  by_cases heb : ¬ errX b = 0
  · have hne : (errX b != 0) = true := by simpa using heb
    rw [hea]
    clear hea heb
    go_wp2_with fail
    refine (awakeX_any _).mono ?_
    rintro e w5 ⟨rfl, hb8⟩
    have hb9 := below_self hb7 hb8
    go_wp2
    go_ret
    exact ⟨rfl, hb9⟩
  replace heb := Decidable.not_not.1 heb
  have HGA := Lib.hid (errX_ok hea)
  have HGB := Lib.hid (errX_ok heb)
  obtain ⟨x, rfl, hx⟩ := HX.out hea
  obtain ⟨y, rfl, hy⟩ := HY.out heb
  obtain ⟨x3, rfl, hx3⟩ := HX3.out hea
  obtain ⟨y4, rfl, hy4⟩ := HY4.out heb
  rw [hea, heb]
  have KX := Lib.hid (((hx.below hb2).below hb4).below hb6)
  have KY := Lib.hid ((hy.below hb4).below hb6)
  have KX3 := Lib.hid (hx3.below hb6)
  have KY4 := Lib.hid hy4
  clear hea heb HX HY HX3 HY4 hx hy hx3 hy4 hb1 hb2 hb3 hb4 hb5 hb6
  have hlen : l.length = q := by have := hl.1; rw [cellsC_len] at this; omega
  have HLQ := Lib.hid hlen
  clear hlen
  go_wp2_with fail
  refine (prClusters_any C q cc x y l a b w4 (hl.below hb7) (by omega) HGA.out HGB.out KX.out KY.out).mono ?_
  rintro e w5 (⟨hc, rfl, hb8⟩ | ⟨hc, v, rfl, hv, hb8⟩)
  · have HC := Lib.hid hc
    clear hc
    have hb9 := below_self hb7 hb8
    have KX5 := Lib.hid (KX.out.below hb8)
    have KX35 := Lib.hid (KX3.out.below hb8)
    have KY45 := Lib.hid (KY4.out.below hb8)
    clear hb7 hb8 KX KX3 KY4 KY
    go_wp2_with fail
    refine (refClusters_any C q cc x3 y4 l a b w5 (hl.below hb9) (by omega) HGA.out HGB.out KX35.out KY45.out).mono ?_
    rintro e w6 (⟨_, rfl, hb8⟩ | ⟨hc, _⟩)
    rotate_left
    · rw [HC.out] at hc; cases hc
    have hb10 := below_self hb9 hb8
    have KX6 := Lib.hid (KX5.out.below hb8)
    clear hb9 hb8
    go_wp2_with fail
    refine (prClusters_nil C q cc x a w6 KX6.out).mono ?_
    rintro e w' ⟨rfl, rfl⟩
    go_wp2_with fail
    refine (equalC_b none none 0 0 0 0 [] [] w6 Rd.nil_ Rd.nil_ (by unfold maxLen; omega) (by unfold maxLen; omega)).mono ?_
    rintro e w7 ⟨rfl, hb8⟩
    have hb11 := below_self hb10 hb8
    have hdd : decide (([] : List Cl) = []) = true := by decide
    rw [hdd]
    clear hdd
    go_wp2_with fail
    refine (awakeX_any _).mono ?_
    rintro e w8 ⟨rfl, hb9⟩
    have hb12 := below_self hb11 hb9
    go_wp2
    go_ret
    exact ⟨rfl, hb12⟩
  · have HC := Lib.hid hc
    clear hc
    have hb9 := below_self hb7 hb8
    have KX5 := Lib.hid (KX.out.below hb8)
    have KY5 := Lib.hid (KY.out.below hb8)
    have KX35 := Lib.hid (KX3.out.below hb8)
    have KY45 := Lib.hid (KY4.out.below hb8)
    obtain ⟨V, cv, rfl, hcv⟩ := own_form hv
    have hrv := Rd.of_own hv
    clear hb7 hb8 KX KX3 KY4 KY hv
    go_wp2_with fail
    refine (refClusters_any C q cc x3 y4 l a b w5 (hl.below hb9) (by omega) HGA.out HGB.out KX35.out KY45.out).mono ?_
    rintro e w6 (⟨hc, _⟩ | ⟨_, v2, rfl, hv2, hb8⟩)
    · rw [HC.out] at hc; cases hc
    have hb10 := below_self hb9 hb8
    have KX6 := Lib.hid (KX5.out.below hb8)
    have KY6 := Lib.hid (KY5.out.below hb8)
    obtain ⟨V2, cv2, rfl, hcv2⟩ := own_form hv2
    have hrv2 := Rd.of_own hv2
    replace hrv := hrv.below hb8
    clear hb9 hb8 hv2 KX5 KY5 KX35 KY45
    go_wp2_with fail
    refine (prClusters_nil C q cc x a w6 KX6.out).mono ?_
    rintro e w' ⟨rfl, rfl⟩
    have hlm : l.length ≤ maxLen := by rw [HLQ.out]; exact HQ.out
    have HLM := Lib.hid hlm
    clear hlm
    go_wp2_with fail
    refine (equalC_b V V2 l.length l.length cv cv2 (l.map (clU a b)) (l.map (clU a b)) w6 hrv hrv2 HLM.out HLM.out).mono ?_
    rintro e w7 ⟨rfl, hb8⟩
    rw [decide_eq_true rfl]
    have hb11 := below_self hb10 hb8
    have KX7 := Lib.hid (KX6.out.below hb8)
    have KY7 := Lib.hid (KY6.out.below hb8)
    replace hrv := hrv.below hb8
    clear hb8 KX6 KY6 hb10 hrv2
    go_wp2_with fail
    refine (prUnits_any x a _ HGA.out KX7.out).mono ?_
    rintro e w8 ⟨rfl, hb8⟩
    have hb12 := below_self hb11 hb8
    have KY8 := Lib.hid (KY7.out.below hb8)
    replace hrv := hrv.below hb8
    clear hb8 KX7 KY7 hb11
    go_wp2_with fail
    refine (prUnits_any y b _ HGB.out KY8.out).mono ?_
    rintro e w9 ⟨rfl, hb8⟩
    have hb13 := below_self hb12 hb8
    replace hrv := hrv.below hb8
    clear hb8 KY8 hb12
    have HCU := Lib.hid (check_units HGA.out.1 HGB.out.1 HC.out)
    have hl6 : l.length ≤ 1000000 := by have := HLQ.out; omega
    go_wp2_with fail
    refine (prCheckC_any V l.length cv (l.map (clU a b)) a.sum b.sum w9 hrv hl6).mono ?_
    rintro e w10 ⟨rfl, hb8⟩
    rw [HCU.out]
    have hb14 := below_self hb13 hb8
    go_wp2_with fail
    refine (awakeX_any _).mono ?_
    rintro e w11 ⟨rfl, hb9⟩
    have hb15 := below_self hb14 hb9
    go_wp2
    go_ret
    exact ⟨rfl, hb15⟩
end Go.Proofs.Ytpllgonjhljjkaa
