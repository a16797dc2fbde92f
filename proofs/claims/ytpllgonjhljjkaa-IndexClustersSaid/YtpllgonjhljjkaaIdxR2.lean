/- The reference's index: Span, Code and Break. -/
import Derived.Test.YtpllgonjhljjkaaIdxR1
namespace Go.Proofs.Ytpllgonjhljjkaa
open Go.RowKit

/-- What the reference's Span tells. -/
def spanY (l : List Int) (c : Int) : Value := if 0 ≤ c ∧ c < l.length then .tuple #[.agg #[.int .i64 (pre l c.toNat), .int .i64 (pre l (c.toNat + 1))], .int .i64 0] else .tuple #[.agg #[.int .i64 0, .int .i64 0], .int .i64 1]
section
variable (b : Nat) (l : List Int) (w : World)
set_option maxRecDepth 100000 in
set_option maxHeartbeats 2000000 in
theorem refSpanX_in (x : Nat) (hg : Good l) (h : IdrAt w b l) (hx : x < l.length) : Calls Try.prog 18 #[.pointer (some ⟨b, 0, none⟩), .int .i64 x] w fun e w' => e = .returned (.tuple #[.agg #[.int .i64 (pre l x), .int .i64 (pre l (x + 1))], .int .i64 0]) ∧ Below w.heap.size w w' := by
  have hlen := good_len hg
  have hb0 := below_new w (.cells #[.int .i64 0, .int .i64 0] 35)
  obtain ⟨A, c, h1, hr⟩ := h.below hb0
  obtain ⟨t0, t1, t2, t3⟩ := SpanBlk.new_ w 0 0 35
  have HK := Lib.hid (SpanBlk.new_ w 0 0 35)
  have HG := Lib.hid hg
  clear hg h
  simp only at t0 t1
  go_enter Try.func18, Try.ntmps18
  go_wp2
  go_loop [6, 7] (fun n i => ∃ k : Nat, k ≤ x ∧ i = .int .i64 k ∧ n = .int .i64 (pre l k)) (fun _ i => x - (intOf i).toNat)
  case atStart => exact ⟨0, Nat.zero_le _, rfl, by rw [pre_zero]⟩
  case round =>
    obtain ⟨k, hk, rfl, rfl⟩ := hrel
    have p0 := pre_bd HG.out k
    obtain ⟨s, hsk⟩ : ∃ s, l[k]? = some s := ⟨_, List.getElem?_eq_getElem (by omega)⟩
    obtain ⟨ad, rfl, _, hc⟩ := hr.at_ (show k < l.length by omega)
    have cs : (w.alloc (.cells #[.int .i64 0, .int .i64 0] 35)).cell? (ad.add k) = some (.int .i64 s) := hc _ (by rw [List.getElem?_map, hsk]; rfl)
    have p1 := pre_bd HG.out (k + 1)
    have hs := pre_succ hsk
    rw [hs] at p1
    have HS := Lib.hid hs
    clear hsk hc hs
    by_cases hlt : k < x
    · go_wp2
      go_round
      case rel => exact ⟨k + 1, by omega, by go_num, by rw [HS.out]⟩
      case measure => simp [intOf]; omega
    · obtain rfl : k = x := by omega
      go_wp2
      exact bodyPost_ret (v := .tuple #[.agg #[.int .i64 (pre l k), .int .i64 (pre l k + s)], .int .i64 0]) (by simp [results, Try.results18, go_sem]) rfl ⟨by rw [HS.out], below_new _ _⟩
set_option maxRecDepth 100000 in
set_option maxHeartbeats 2000000 in
theorem refSpanX_any (x : Int) (hg : Good l) (h : IdrAt w b l) : Calls Try.prog 18 #[.pointer (some ⟨b, 0, none⟩), .int .i64 x] w fun e w' => e = .returned (spanY l x) ∧ Below w.heap.size w w' := by
  by_cases hx : 0 ≤ x ∧ x < l.length
  · obtain ⟨k, rfl⟩ : ∃ k : Nat, x = k := ⟨x.toNat, by omega⟩
    refine (refSpanX_in b l w k hg h (by omega)).mono fun e w' ⟨he, hb⟩ => ⟨?_, hb⟩
    rw [he, show spanY l k = _ from if_pos hx]
    simp
  · have HS := Lib.hid (show spanY l x = _ from if_neg hx)
    have hb0 := below_new w (.cells #[.int .i64 0, .int .i64 0] 35)
    obtain ⟨A, c, h1, hr⟩ := h.below hb0
    have hlen := good_len hg
    clear h hr hg
    have hc : x < 0 ∨ (0 ≤ x ∧ (l.length : Int) ≤ x) := by omega
    clear hx
    rcases hc with h | ⟨h, h'⟩ <;>
      (go_enter Try.func18, Try.ntmps18
       go_wp2
       exact bodyPost_ret (v := .tuple #[.agg #[.int .i64 0, .int .i64 0], .int .i64 1]) (by simp [results, Try.results18, go_sem]) rfl ⟨by rw [HS.out], below_new _ _⟩)

set_option maxRecDepth 100000 in
set_option maxHeartbeats 2000000 in
theorem refCodeX_in (u : Int) (j : Nat) (hg : Good l) (h : IdrAt w b l) (hi : InCode l u j) (hj : j < l.length) : Calls Try.prog 20 #[.pointer (some ⟨b, 0, none⟩), .int .i64 u] w fun e w' => e = .returned (.tuple #[.int .i64 j, .int .i64 (u - pre l j), .int .i64 0]) ∧ Below w.heap.size w w' := by
  have hlen := good_len hg
  have HG := Lib.hid hg
  have HC := Lib.hid hi
  clear hg hi
  go_enter Try.func20, Try.ntmps20
  go_wp2
  go_loopw [7] (fun i wr => ∃ k : Nat, k ≤ j ∧ i = .int .i64 k ∧ Below w.heap.size w wr) (fun i _ => j - (intOf i).toNat)
  case atStart => exact ⟨0, Nat.zero_le _, rfl, Below.refl _ _⟩
  case round =>
    obtain ⟨k, hk, rfl, hb⟩ := hrel
    obtain ⟨A, c, h1, _⟩ := h.below hb
    have HI := Lib.hid (h.below hb)
    have p0 := pre_bd HG.out k
    have p1 := pre_bd HG.out (k + 1)
    have hkl : k < l.length := by omega
    go_wp2_with fail
    refine (refSpanX_in b l wr k HG.out HI.out hkl).mono ?_
    rintro e w1 ⟨rfl, hb1⟩
    have hb2 := hb.trans (hb1.mono hb.size)
    clear h1 HI
    by_cases hjk : k < j
    · have hh : hasB (pre l k, pre l (k + 1)) u = false := by
        have h1 := HC.out.2.1
        have h2 := pre_mono HG.out.1 (i := k + 1) (j := j) (by omega) (by omega)
        simp [hasB]; omega
      go_wp2_with fail
      refine (refHas_any (pre l k) (pre l (k + 1)) u _).mono ?_
      rintro e w2 ⟨rfl, hb3⟩
      rw [hh]
      have hb4 := hb2.trans ((below_self (below_new w1 _) hb3).mono hb2.size)
      go_wp2
      go_roundw
      case rel => exact ⟨k + 1, by omega, by go_num, hb4⟩
      case measure => simp [intOf]; omega
    · obtain rfl : k = j := by omega
      have hu1 := HC.out.2.2.1 hj
      have hu2 := HC.out.2.1
      have hh : hasB (pre l k, pre l (k + 1)) u = true := by simp [hasB]; omega
      go_wp2_with fail
      refine (refHas_any (pre l k) (pre l (k + 1)) u _).mono ?_
      rintro e w2 ⟨rfl, hb3⟩
      rw [hh]
      have hb4 := hb2.trans ((below_self (below_new w1 _) hb3).mono hb2.size)
      have d1 : w2.cell? ⟨w1.heap.size, 0, none⟩ = some (.int .i64 (pre l k)) := cell_below hb3 (by rw [World.cell?_alloc_at _ _ _ _ rfl]; rfl)
      go_wp2
      go_quiet (fail)
      go_wp2
      go_ret3
      exact ⟨rfl, below_drewN hb4 _⟩

set_option maxRecDepth 100000 in
set_option maxHeartbeats 2000000 in
theorem refCodeX_out (u : Int) (hg : Good l) (h : IdrAt w b l) (hu : ¬ (0 ≤ u ∧ u < l.sum)) : Calls Try.prog 20 #[.pointer (some ⟨b, 0, none⟩), .int .i64 u] w fun e w' => e = .returned (.tuple #[.int .i64 0, .int .i64 0, .int .i64 1]) ∧ Below w.heap.size w w' := by
  have hlen := good_len hg
  have HG := Lib.hid hg
  have HU := Lib.hid hu
  clear hg hu
  go_enter Try.func20, Try.ntmps20
  go_wp2
  go_loopw [7] (fun i wr => ∃ k : Nat, k ≤ l.length ∧ i = .int .i64 k ∧ Below w.heap.size w wr) (fun i _ => l.length - (intOf i).toNat)
  case atStart => exact ⟨0, Nat.zero_le _, rfl, Below.refl _ _⟩
  case round =>
    obtain ⟨k, hk, rfl, hb⟩ := hrel
    obtain ⟨A, c, h1, _⟩ := h.below hb
    have HI := Lib.hid (h.below hb)
    by_cases hlt : k < l.length
    · have hh : hasB (pre l k, pre l (k + 1)) u = false := by
        have h1 := pre_mono HG.out.1 (i := 0) (j := k) (by omega) (by omega)
        have h2 := pre_mono HG.out.1 (i := k + 1) (j := l.length) (by omega) (Nat.le_refl _)
        have := HU.out
        rw [pre_len] at h2
        rw [pre_zero] at h1
        simp [hasB]; omega
      go_wp2_with fail
      refine (refSpanX_in b l wr k HG.out HI.out hlt).mono ?_
      rintro e w1 ⟨rfl, hb1⟩
      have hb2 := hb.trans (hb1.mono hb.size)
      clear h1 HI
      go_wp2_with fail
      refine (refHas_any (pre l k) (pre l (k + 1)) u _).mono ?_
      rintro e w2 ⟨rfl, hb3⟩
      rw [hh]
      have hb4 := hb2.trans ((below_self (below_new w1 _) hb3).mono hb2.size)
      go_wp2
      go_roundw
      case rel => exact ⟨k + 1, by omega, by go_num, hb4⟩
      case measure => simp [intOf]; omega
    · go_wp2
      go_ret3
      exact ⟨rfl, hb⟩

set_option maxRecDepth 100000 in
set_option maxHeartbeats 2000000 in
theorem refBreakX_out (u : Int) (hg : Good l) (h : IdrAt w b l) (hu : ¬ (0 ≤ u ∧ u ≤ l.sum)) : Calls Try.prog 22 #[.pointer (some ⟨b, 0, none⟩), .int .i64 u] w fun e w' => e = .returned (.tuple #[.int .i64 0, .int .i64 1]) ∧ Below w.heap.size w w' := by
  have HG := Lib.hid hg
  have HI := Lib.hid h
  have hs0 : 0 ≤ l.sum := by have := sum_nonneg hg.1; omega
  have C := Lib.hid (refCodeX_out b l w u hg h (by omega))
  have hne : (u == l.sum) = false := by
    rw [beq_eq_false_iff_ne]
    rintro rfl
    exact hu ⟨hs0, Int.le_refl _⟩
  clear hg h hu
  go_enter Try.func22, Try.ntmps22
  go_wp2_with fail
  refine (refUnitsX_any b l _ HG.out HI.out).mono ?_
  rintro e w' ⟨rfl, rfl⟩
  go_wp2_with fail
  refine C.out.mono ?_
  rintro e w1 ⟨rfl, hb⟩
  go_wp2
  go_ret2
  exact ⟨rfl, hb⟩
set_option maxRecDepth 100000 in
set_option maxHeartbeats 2000000 in
theorem refBreakX_in (u : Int) (i : Nat) (hg : Good l) (h : IdrAt w b l) (hi : InCode l u i) : Calls Try.prog 22 #[.pointer (some ⟨b, 0, none⟩), .int .i64 u] w fun e w' => e = .returned (if u = pre l i then .tuple #[.int .i64 i, .int .i64 0] else .tuple #[.int .i64 0, .int .i64 5]) ∧ Below w.heap.size w w' := by
  have HG := Lib.hid hg
  have HI := Lib.hid h
  have p0 := pre_bd hg i
  by_cases hil : i = l.length
  · have hu := hi.2.2.2 hil
    rw [if_pos hu]
    have hus : u = l.sum := by rw [hu, hil, pre_len]
    subst hil
    subst hus
    clear hu hi hg h
    have hq : (l.sum == l.sum) = true := by simp
    go_enter Try.func22, Try.ntmps22
    go_wp2_with fail
    refine (refUnitsX_any b l _ HG.out HI.out).mono ?_
    rintro e w' ⟨rfl, rfl⟩
    go_wp2_with fail
    refine (refCodesX_any b l _ HI.out).mono ?_
    rintro e w' ⟨rfl, rfl⟩
    go_wp2
    go_ret2
    exact ⟨rfl, Below.refl _ _⟩
  · have hlt : i < l.length := by have := hi.1; omega
    have hu3 : u < l.sum := by
      have := hi.2.2.1 hlt
      have := pre_mono hg.1 (i := i + 1) (j := l.length) (by omega) (Nat.le_refl _)
      rw [pre_len] at this
      omega
    have hne : (u == l.sum) = false := by
      rw [beq_eq_false_iff_ne]; omega
    have hu2 := hi.2.1
    have C := Lib.hid (refCodeX_in b l w u i hg h hi hlt)
    clear hg h hi hu3 hil hlt
    by_cases he : u = pre l i
    · rw [if_pos he]
      have hz : ¬ (0 < u - pre l i) := by omega
      clear he
      go_enter Try.func22, Try.ntmps22
      go_wp2_with fail
      refine (refUnitsX_any b l _ HG.out HI.out).mono ?_
      rintro e w' ⟨rfl, rfl⟩
      go_wp2_with fail
      refine C.out.mono ?_
      rintro e w1 ⟨rfl, hb⟩
      go_wp2
      go_ret2
      exact ⟨rfl, hb⟩
    · rw [if_neg he]
      have hz : 0 < u - pre l i := by omega
      clear he
      go_enter Try.func22, Try.ntmps22
      go_wp2_with fail
      refine (refUnitsX_any b l _ HG.out HI.out).mono ?_
      rintro e w' ⟨rfl, rfl⟩
      go_wp2_with fail
      refine C.out.mono ?_
      rintro e w1 ⟨rfl, hb⟩
      go_wp2
      go_ret2
      exact ⟨rfl, hb⟩
end
end Go.Proofs.Ytpllgonjhljjkaa
