/- The project's index: where a unit lies; Codes, Units, Span, Code and Break of an index that New made. -/
import Derived.Test.YtpllgonjhljjkaaIdxP2
import Derived.Test.YtpllgonjhljjkaaBinS
import Derived.Test.YtpllgonjhljjkaaSpHasP
import Derived.Test.YtpllgonjhljjkaaSpBlk
import Derived.Laws.StructEq
namespace Go.Proofs.Ytpllgonjhljjkaa
open Go.RowKit

section
variable (b : Nat) (l : List Int) (w : World)
set_option maxRecDepth 100000 in
theorem prAhead_any (u : Int) (i : Nat) (hg : Good l) (h : IdxAt w b l) (hi : InCode l u i) :
    Calls Try.prog 48 #[.pointer (some ⟨b, 0, none⟩), .int .i64 u] w fun e w' => e = .returned (.tuple #[.int .i64 (if u = pre l i then i else i + 1 : Nat), .bool (decide (u = pre l i))]) ∧ Below w.heap.size w w' := by
  obtain ⟨g, c, k1, k2, k3, k4⟩ := h
  obtain ⟨s1, s2⟩ := strk_count hg.1 hi
  have hlen := good_len hg
  have C := binS_any g (l.length + 1) c (strk 0 l) u w (strk_len 0 l) (by omega) k4 (strk_sorted hg.1)
  rw [s1, s2] at C
  obtain ⟨m, hm⟩ : ∃ m : Nat, (if u = pre l i then i else i + 1) = m := ⟨_, rfl⟩
  obtain ⟨d, hd⟩ : ∃ d : Bool, decide (u = pre l i) = d := ⟨_, rfl⟩
  rw [hm, hd] at C ⊢
  have CC := Lib.hid C
  clear s1 s2 k4 k3 hi hg hm hd C
  go_enter Try.func48, Try.ntmps48
  go_wp2_with (go_at_call 64; refine CC.out.mono ?_; rintro e w1 ⟨rfl, hb⟩)
  go_ret2
  exact ⟨rfl, hb⟩
set_option maxRecDepth 100000 in
theorem prCodes_any (hg : Good l) (h : IdxAt w b l) : Calls Try.prog 23 #[.pointer (some ⟨b, 0, none⟩)] w fun e w' => e = .returned (.int .i64 l.length) ∧ w = w' := by
  have HG := Lib.hid hg
  have HI := Lib.hid h
  clear hg h
  go_enter Try.func23, Try.ntmps23
  go_wp2_with (first
    | (go_at_call 50; refine (prMade_any b l _ HI.out).mono ?_; rintro e w' ⟨rfl, rfl⟩)
    | (go_at_call 52; refine (prCodesR_any b l _ HG.out HI.out).mono ?_; rintro e w' ⟨rfl, rfl⟩))
  go_ret
  exact ⟨rfl, rfl⟩
set_option maxRecDepth 100000 in
theorem prUnits_any (hg : Good l) (h : IdxAt w b l) : Calls Try.prog 25 #[.pointer (some ⟨b, 0, none⟩)] w fun e w' => e = .returned (.int .i64 l.sum) ∧ Below w.heap.size w w' := by
  have HG := Lib.hid hg
  have HI := Lib.hid h
  clear hg h
  go_enter Try.func25, Try.ntmps25
  go_wp2_with (first
    | (go_at_call 50; refine (prMade_any b l _ HI.out).mono ?_; rintro e w' ⟨rfl, rfl⟩)
    | (go_at_call 51; refine (prUnitsR_any b l _ HG.out HI.out).mono ?_; rintro e w' ⟨rfl, hb⟩))
  go_ret
  exact ⟨rfl, hb⟩

/-- What Span tells of a code. -/
def spanX (l : List Int) (c : Int) : Value := if 0 ≤ c ∧ c < l.length then .tuple #[.agg #[.int .i64 (pre l c.toNat), .int .i64 (pre l (c.toNat + 1))], .int .i64 0] else .tuple #[.agg #[.int .i64 0, .int .i64 0], .int .i64 1]
set_option maxRecDepth 100000 in
set_option maxHeartbeats 2000000 in
theorem prSpan_any (x : Int) (hg : Good l) (h : IdxAt w b l) : Calls Try.prog 17 #[.pointer (some ⟨b, 0, none⟩), .int .i64 x] w fun e w' => e = .returned (spanX l x) ∧ Below w.heap.size w w' := by
  have hlen := good_len hg
  have HG := Lib.hid hg
  have HI := Lib.hid (h.below (below_new w (.cells #[.int .i64 0, .int .i64 0] 35)))
  clear hg h
  have HB0 := below_new w (.cells #[.int .i64 0, .int .i64 0] 35)
  by_cases hx : 0 ≤ x ∧ x < l.length
  · have HS := Lib.hid (show spanX l x = _ from if_pos hx)
    have hh : hasB (0, (l.length : Int)) x = true := by simp [hasB]; omega
    obtain ⟨k, rfl⟩ : ∃ k : Nat, x = k := ⟨x.toNat, by omega⟩
    have hk : k < l.length := by omega
    clear hx
    have HK := Lib.hid (SpanBlk.new_ w 0 0 35)
    go_enter Try.func17, Try.ntmps17
    go_wp2_with fail
    refine (prCodes_any b l _ HG.out HI.out).mono ?_
    rintro e w' ⟨rfl, rfl⟩
    go_wp2_with fail
    refine (prHas_any 0 l.length k _).mono ?_
    rintro e w1 ⟨rfl, hb⟩
    rw [hh]
    have HK1 := Lib.hid (HK.out.below hb)
    have HI1 := Lib.hid (HI.out.below hb)
    have hb1 := below_self HB0 hb
    clear HK HI hb
    go_wp2_with fail
    refine (prStretch_any b l _ k (k + 1) HG.out HI1.out (by omega) (by omega)).mono ?_
    rintro e w2 ⟨rfl, hb⟩
    obtain ⟨t0, t1, t2, t3⟩ := HK1.out.below hb
    have hb2 := below_self hb1 hb
    have HP := Lib.hid (SpanBlk.put (w := w2) (b := w.heap.size) (s := (0, 0)) ⟨t0, t1, t2, t3⟩ (pre l k) (pre l (k + 1)))
    have hbe := (hb2.setCell (p := ⟨w.heap.size, 0, none⟩) (by simp) (.int .i64 (pre l k))).setCell (p := ⟨w.heap.size, 1, none⟩) (by simp) (.int .i64 (pre l (k + 1)))
    simp only at t0 t1
    go_wp2
    generalize ((w2.setCell ⟨w.heap.size, 0, none⟩ (.int .i64 (pre l k))).setCell ⟨w.heap.size, 1, none⟩ (.int .i64 (pre l (k + 1)))) = w5 at *
    obtain ⟨u0, u1, _, _⟩ := HP.out
    simp only at u0 u1
    exact bodyPost_ret (v := .tuple #[.agg #[.int .i64 (pre l k), .int .i64 (pre l (k + 1))], .int .i64 0]) (by simp [results, Try.results17, go_sem, u0, u1]) rfl ⟨by rw [HS.out]; simp, hbe⟩
  · have HS := Lib.hid (show spanX l x = _ from if_neg hx)
    have hh : hasB (0, (l.length : Int)) x = false := by simp [hasB]; omega
    have HK := Lib.hid (SpanBlk.new_ w 0 0 35)
    clear hx
    go_enter Try.func17, Try.ntmps17
    go_wp2_with fail
    refine (prCodes_any b l _ HG.out HI.out).mono ?_
    rintro e w' ⟨rfl, rfl⟩
    go_wp2_with fail
    refine (prHas_any 0 l.length x _).mono ?_
    rintro e w1 ⟨rfl, hb⟩
    rw [hh]
    obtain ⟨t0, t1, t2, t3⟩ := HK.out.below hb
    have hb1 := below_self HB0 hb
    have HP := Lib.hid (SpanBlk.put (w := w1) (b := w.heap.size) (s := (0, 0)) ⟨t0, t1, t2, t3⟩ 0 0)
    have hbe := (hb1.setCell (p := ⟨w.heap.size, 0, none⟩) (by simp) (.int .i64 0)).setCell (p := ⟨w.heap.size, 1, none⟩) (by simp) (.int .i64 0)
    simp only at t0 t1
    clear HK HI hb
    go_wp2
    generalize ((w1.setCell ⟨w.heap.size, 0, none⟩ (.int .i64 0)).setCell ⟨w.heap.size, 1, none⟩ (.int .i64 0)) = w5 at *
    obtain ⟨u0, u1, _, _⟩ := HP.out
    simp only at u0 u1
    exact bodyPost_ret (v := .tuple #[.agg #[.int .i64 0, .int .i64 0], .int .i64 1]) (by simp [results, Try.results17, go_sem, u0, u1]) rfl ⟨by rw [HS.out], hbe⟩

set_option maxRecDepth 100000 in
set_option maxHeartbeats 2000000 in
theorem prCode_out (u : Int) (hg : Good l) (h : IdxAt w b l) (hu : ¬ (0 ≤ u ∧ u < l.sum)) : Calls Try.prog 19 #[.pointer (some ⟨b, 0, none⟩), .int .i64 u] w fun e w' => e = .returned (.tuple #[.int .i64 0, .int .i64 0, .int .i64 1]) ∧ Below w.heap.size w w' := by
  have hh : hasB (0, l.sum) u = false := by simp [hasB]; omega
  have HG := Lib.hid hg
  have HI := Lib.hid h
  clear hg h hu
  go_enter Try.func19, Try.ntmps19
  go_wp2_with fail
  refine (prUnits_any b l _ HG.out HI.out).mono ?_
  rintro e w1 ⟨rfl, hb⟩
  go_wp2_with fail
  refine (prHas_any 0 l.sum u _).mono ?_
  rintro e w2 ⟨rfl, hb2⟩
  rw [hh]
  have hb3 := below_self hb hb2
  go_wp2
  go_ret3
  exact ⟨rfl, hb3⟩

set_option maxRecDepth 100000 in
set_option maxHeartbeats 2000000 in
theorem prCode_in (u : Int) (i : Nat) (hg : Good l) (h : IdxAt w b l) (hi : InCode l u i) (hlt : i < l.length) : Calls Try.prog 19 #[.pointer (some ⟨b, 0, none⟩), .int .i64 u] w fun e w' => e = .returned (.tuple #[.int .i64 i, .int .i64 (u - pre l i), .int .i64 0]) ∧ Below w.heap.size w w' := by
  have hlen := good_len hg
  have p0 := pre_bd hg i
  have p1 := pre_bd hg (i + 1)
  have hu0 : 0 ≤ u := by have := hi.2.1; omega
  have hu1 : u < pre l (i + 1) := hi.2.2.1 hlt
  have hu2 := hi.2.1
  have hu3 : u < l.sum := by
    have := pre_mono hg.1 (i := i + 1) (j := l.length) (by omega) (Nat.le_refl _)
    rw [pre_len] at this
    omega
  have hh : hasB (0, l.sum) u = true := by simp [hasB]; omega
  have HG := Lib.hid hg
  have HI := Lib.hid h
  have HC := Lib.hid hi
  clear hg h hi hu3
  go_enter Try.func19, Try.ntmps19
  go_wp2_with fail
  refine (prUnits_any b l _ HG.out HI.out).mono ?_
  rintro e w1 ⟨rfl, hb⟩
  have HI1 := Lib.hid (HI.out.below hb)
  clear HI
  go_wp2_with fail
  refine (prHas_any 0 l.sum u _).mono ?_
  rintro e w2 ⟨rfl, hb2⟩
  rw [hh]
  have hb3 := below_self hb hb2
  have HI2 := Lib.hid (HI1.out.below hb2)
  clear HI1 hb hb2
  have A := prAhead_any b l w2 u i HG.out HI2.out HC.out
  by_cases he : u = pre l i
  · rw [if_pos he, decide_eq_true he] at A
    have A2 := Lib.hid A
    clear A he
    go_wp2_with fail
    refine A2.out.mono ?_
    rintro e w3 ⟨rfl, hb⟩
    have hb4 := below_self hb3 hb
    obtain ⟨g, c, k1, k2, k3⟩ := (HI2.out.below hb).stroke
    have k4 : w3.cell? ⟨g, i, none⟩ = some (.int .i64 (pre l i)) := k3 i (by omega)
    clear k3 hb3 hb
    go_wp2
    go_quiet (fail)
    go_wp2
    go_ret3
    exact ⟨rfl, below_drewN hb4 _⟩
  · rw [if_neg he, decide_eq_false he] at A
    have A2 := Lib.hid A
    clear A he
    go_wp2_with fail
    refine A2.out.mono ?_
    rintro e w3 ⟨rfl, hb⟩
    have hb4 := below_self hb3 hb
    obtain ⟨g, c, k1, k2, k3⟩ := (HI2.out.below hb).stroke
    have k4 : w3.cell? ⟨g, i, none⟩ = some (.int .i64 (pre l i)) := k3 i (by omega)
    clear k3 hb3 hb
    go_wp2
    go_quiet (fail)
    go_wp2
    go_ret3
    exact ⟨rfl, below_drewN hb4 _⟩

set_option maxRecDepth 100000 in
set_option maxHeartbeats 2000000 in
theorem prBreak_out (u : Int) (hg : Good l) (h : IdxAt w b l) (hu : ¬ (0 ≤ u ∧ u ≤ l.sum)) : Calls Try.prog 21 #[.pointer (some ⟨b, 0, none⟩), .int .i64 u] w fun e w' => e = .returned (.tuple #[.int .i64 0, .int .i64 1]) ∧ Below w.heap.size w w' := by
  have HG := Lib.hid hg
  have HI := Lib.hid h
  have hs0 : 0 ≤ l.sum := by have := sum_nonneg hg.1; omega
  have hs1 := hg.2
  clear hg h
  by_cases h0 : u < 0
  · clear hu
    go_enter Try.func21, Try.ntmps21
    go_wp2_with fail
    refine (prMade_any b l _ HI.out).mono ?_
    rintro e w' ⟨rfl, rfl⟩
    go_wp2
    go_ret2
    exact ⟨rfl, Below.refl _ _⟩
  · have h1 : l.sum < u := by omega
    clear hu
    go_enter Try.func21, Try.ntmps21
    go_wp2_with fail
    refine (prMade_any b l _ HI.out).mono ?_
    rintro e w' ⟨rfl, rfl⟩
    go_wp2_with fail
    refine (prUnitsR_any b l _ HG.out HI.out).mono ?_
    rintro e w1 ⟨rfl, hb⟩
    go_wp2
    go_ret2
    exact ⟨rfl, hb⟩
set_option maxRecDepth 100000 in
set_option maxHeartbeats 2000000 in
theorem prBreak_in (u : Int) (i : Nat) (hg : Good l) (h : IdxAt w b l) (hi : InCode l u i) : Calls Try.prog 21 #[.pointer (some ⟨b, 0, none⟩), .int .i64 u] w fun e w' => e = .returned (if u = pre l i then .tuple #[.int .i64 i, .int .i64 0] else .tuple #[.int .i64 0, .int .i64 5]) ∧ Below w.heap.size w w' := by
  have p0 := pre_bd hg i
  have hu0 : 0 ≤ u := by have := hi.2.1; omega
  have hu3 : u ≤ l.sum := by
    rcases Nat.lt_or_ge i l.length with hlt | hge
    · have := hi.2.2.1 hlt
      have := pre_mono hg.1 (i := i + 1) (j := l.length) (by omega) (Nat.le_refl _)
      rw [pre_len] at this
      omega
    · have e : i = l.length := by have := hi.1; omega
      have := hi.2.2.2 e
      rw [e, pre_len] at this
      omega
  have hs1 := hg.2
  have HG := Lib.hid hg
  have HI := Lib.hid h
  have HC := Lib.hid hi
  clear hg h hi
  have A := fun w2 (HI2 : IdxAt w2 b l) => prAhead_any b l w2 u i HG.out HI2 HC.out
  by_cases he : u = pre l i
  · rw [if_pos he, decide_eq_true he] at A
    rw [if_pos he]
    have A2 := Lib.hid A
    clear A he
    go_enter Try.func21, Try.ntmps21
    go_wp2_with fail
    refine (prMade_any b l _ HI.out).mono ?_
    rintro e w' ⟨rfl, rfl⟩
    go_wp2_with fail
    refine (prUnitsR_any b l _ HG.out HI.out).mono ?_
    rintro e w1 ⟨rfl, hb⟩
    go_wp2_with fail
    refine (A2.out w1 (HI.out.below hb)).mono ?_
    rintro e w2 ⟨rfl, hb2⟩
    have hb3 := below_self hb hb2
    go_wp2
    go_ret2
    exact ⟨rfl, hb3⟩
  · rw [if_neg he, decide_eq_false he] at A
    rw [if_neg he]
    have A2 := Lib.hid A
    clear A he
    go_enter Try.func21, Try.ntmps21
    go_wp2_with fail
    refine (prMade_any b l _ HI.out).mono ?_
    rintro e w' ⟨rfl, rfl⟩
    go_wp2_with fail
    refine (prUnitsR_any b l _ HG.out HI.out).mono ?_
    rintro e w1 ⟨rfl, hb⟩
    go_wp2_with fail
    refine (A2.out w1 (HI.out.below hb)).mono ?_
    rintro e w2 ⟨rfl, hb2⟩
    have hb3 := below_self hb hb2
    go_wp2
    go_ret2
    exact ⟨rfl, hb3⟩
end
end Go.Proofs.Ytpllgonjhljjkaa
