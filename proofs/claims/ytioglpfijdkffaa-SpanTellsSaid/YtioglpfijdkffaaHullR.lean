/- The reference's Hull of spans. -/
import Derived.Test.YtioglpfijdkffaaCutR
import Derived.StillTailTactics
import Derived.Deep.Cut
namespace Go.Proofs.Ytioglpfijdkffaa
open Go.RowKit

/-- The span around two. -/
def hullMore (st s : Sp) : Sp := (if s.1 < st.1 then s.1 else st.1, if st.2 < s.2 then s.2 else st.2)
def hullStep (st s : Sp) : Sp := if rightB s = true then hullMore (if rightB st = true then st else s) s else st
def hullS (l : List Sp) : Sp := l.foldl hullStep (0, 0)

/-- A block of one span, known whole, that may be written. -/
def SpanBlk (w : World) (b : Nat) (s : Sp) : Prop := w.cell? ⟨b, 0, none⟩ = some (.int .i64 s.1) ∧ w.cell? ⟨b, 1, none⟩ = some (.int .i64 s.2) ∧ w.frozen? ⟨b, 0, none⟩ = false ∧ w.frozen? ⟨b, 1, none⟩ = false

theorem SpanBlk.below {w w' : World} {b : Nat} {s : Sp} (h : SpanBlk w b s) (hb : Below w.heap.size w w') : SpanBlk w' b s :=
  ⟨cell_below hb h.1, cell_below hb h.2.1, (hb.frozen (cell_lt h.1)).trans h.2.2.1, (hb.frozen (cell_lt h.2.1)).trans h.2.2.2⟩
theorem SpanBlk.put {w : World} {b : Nat} {s : Sp} (h : SpanBlk w b s) (x y : Int) : SpanBlk ((w.setCell ⟨b, 0, none⟩ (.int .i64 x)).setCell ⟨b, 1, none⟩ (.int .i64 y)) b (x, y) := by
  obtain ⟨h0, h1, h2, h3⟩ := h
  have e1 : (w.setCell ⟨b, 0, none⟩ (.int .i64 x)).cell? ⟨b, 1, none⟩ = some (.int .i64 s.2) := (World.cell?_setCell_other (h := by simp) ..).trans h1
  refine ⟨?_, World.cell?_setCell_same (h := e1) .., ?_, ?_⟩
  · exact (World.cell?_setCell_other (h := by simp) ..).trans (World.cell?_setCell_same (h := h0) ..)
  · rw [World.frozen?_setCell, World.frozen?_setCell]; exact h2
  · rw [World.frozen?_setCell, World.frozen?_setCell]; exact h3
theorem SpanBlk.far {w : World} {b b' : Nat} {s : Sp} (h : SpanBlk w b s) (hne : b ≠ b') (u v : Value) : SpanBlk ((w.setCell ⟨b', 0, none⟩ u).setCell ⟨b', 1, none⟩ v) b s := by
  obtain ⟨h0, h1, h2, h3⟩ := h
  refine ⟨?_, ?_, ?_, ?_⟩
  · exact (World.cell?_setCell_other (h := by first | (simp; done) | (simp; omega)) ..).trans ((World.cell?_setCell_other (h := by first | (simp; done) | (simp; omega)) ..).trans h0)
  · exact (World.cell?_setCell_other (h := by first | (simp; done) | (simp; omega)) ..).trans ((World.cell?_setCell_other (h := by first | (simp; done) | (simp; omega)) ..).trans h1)
  · rw [World.frozen?_setCell, World.frozen?_setCell]; exact h2
  · rw [World.frozen?_setCell, World.frozen?_setCell]; exact h3

set_option maxRecDepth 100000 in
set_option maxHeartbeats 2000000 in
theorem refHull_any (A : Option Addr) (n c : Nat) (l : List Sp) (w : World) (hr : Rd w 2 A n (cellsS l)) (hn : n ≤ maxLen) :
    Calls Try.prog 23 #[.slice A n c] w fun e w' => e = .returned (.agg #[.int .i64 (hullS l).1, .int .i64 (hullS l).2]) ∧ Below w.heap.size w w' := by
  have hlen : l.length = n := by have := hr.1; rw [cellsS_len] at this; omega
  have HL := Lib.hid hlen
  clear hlen
  unfold maxLen at hn
  go_enter Try.func23, Try.ntmps23
  go_wp2
  go_loopw [4] (fun i wr => ∃ (k : Nat) (st : Sp), k ≤ n ∧ i = .int .i64 k ∧ hullS l = (l.drop k).foldl hullStep st ∧ SpanBlk wr w.heap.size (0, 0) ∧ SpanBlk wr (w.heap.size + 1) st ∧ w.heap.size + 1 < wr.heap.size ∧ Below w.heap.size w wr) (fun i _ => n - (intOf i).toNat)
  case atStart =>
    refine ⟨0, (0, 0), Nat.zero_le _, rfl, rfl, ?_, ?_, by simp, ((Below.refl _ _).alloc (Nat.le_refl _) _).alloc (by simp) _⟩
    · refine ⟨?_, ?_, ?_, ?_⟩ <;> simp [go_sem]
    · refine ⟨?_, ?_, ?_, ?_⟩ <;> simp [go_sem]
  case round =>
    obtain ⟨k, st, hk, rfl, hh, ⟨r0, r1, r2, r3⟩, ⟨t0, t1, t2, t3⟩, hsz, hb⟩ := hrel
    have HH := Lib.hid hh
    clear hh
    by_cases hlt : k < n
    · obtain ⟨s, hsk⟩ : ∃ s, l[k]? = some s := ⟨_, List.getElem?_eq_getElem (by rw [HL.out]; exact hlt)⟩
      have HD := Lib.hid (dropCons hsk)
      obtain ⟨ad, rfl, hab, c1, c2⟩ := hr.span hsk
      clear hsk
      obtain ⟨lo, hi⟩ := s
      obtain ⟨x, y⟩ := st
      simp only at c1 c2 r0 r1 t0 t1
      have c1' : wr.cell? (ad.add (k * 2)) = some (.int .i64 lo) := (hb.cell (by rw [blockAdd]; exact hab)).trans c1
      have c2' : wr.cell? ⟨(ad.add (k * 2)).block, (ad.add (k * 2)).off + 1, none⟩ = some (.int .i64 hi) := (hb.cell (by show (ad.add (k * 2)).block < _; rw [blockAdd]; exact hab)).trans c2
      go_wp2_with fail
      refine (refRight_any lo hi _).mono ?_
      rintro e w1 ⟨rfl, hb1⟩
      have hb2 := hb.trans (hb1.mono hb.size)
      have keep : ∀ {a : Addr} {v : Value}, wr.cell? a = some v → w1.cell? a = some v := fun h => cell_below hb1 h
      have keepf : ∀ {a : Addr} {v : Value}, wr.cell? a = some v → wr.frozen? a = false → w1.frozen? a = false := fun h h' => (hb1.frozen (cell_lt h)).trans h'
      have r0' := keep r0
      have r1' := keep r1
      have t0' := keep t0
      have t1' := keep t1
      have r2' := keepf r0 r2
      have r3' := keepf r1 r3
      have t2' := keepf t0 t2
      have t3' := keepf t1 t3
      have d1 := keep c1'
      have d2 := keep c2'
      have hsz1 : w.heap.size + 1 < w1.heap.size := Nat.lt_of_lt_of_le hsz hb1.size
      clear keep keepf r0 r1 r2 r3 t0 t1 t2 t3 c1' c2' hsz
      cases hr1 : rightB (lo, hi) with
      | false =>
        have HS := Lib.hid (show hullStep (x, y) (lo, hi) = (x, y) from if_neg (by rw [hr1]; decide))
        clear hb1
        go_wp2
        go_roundw
        case rel => exact ⟨k + 1, (x, y), by omega, by go_num, by rw [HH.out, HD.out, List.foldl_cons, HS.out], ⟨r0', r1', r2', r3'⟩, ⟨t0', t1', t2', t3'⟩, hsz1, hb2⟩
        case measure => simp [intOf]; omega
      | true =>
        go_wp2_with fail
        refine (refRight_any x y _).mono ?_
        rintro e w2 ⟨rfl, hb3⟩
        have B0 : SpanBlk w1 w.heap.size (0, 0) := ⟨r0', r1', r2', r3'⟩
        have B1 : SpanBlk w1 (w.heap.size + 1) (x, y) := ⟨t0', t1', t2', t3'⟩
        have f1 := cell_below hb3 d1
        have f2 := cell_below hb3 d2
        have B0' := B0.below hb3
        have B1' := B1.below hb3
        have hb4 := hb2.trans (hb3.mono hb2.size)
        have hsz2 : w.heap.size + 1 < w2.heap.size := Nat.lt_of_lt_of_le hsz1 hb3.size
        clear r0' r1' r2' r3' t0' t1' t2' t3' d1 d2 B0 B1 hb1 hb2 hb3 hsz1
        have HB0 := Lib.hid B0'
        obtain ⟨t0, t1, t2, t3⟩ := B1'
        clear B0'
        cases hr2 : rightB (x, y) with
        | true =>
          go_wp2
          go_still_tail 17, (by kernel_rfl)
          change wpList _ _ _ _ _ w2.drew
          have B1d : SpanBlk w2.drew (w.heap.size + 1) (x, y) := ⟨t0, t1, t2, t3⟩
          have B0d : SpanBlk w2.drew w.heap.size (0, 0) := HB0.out
          have hbd : Below w.heap.size w w2.drew := hb4.drew
          have hszd : w.heap.size + 1 < w2.drew.heap.size := hsz2
          generalize w2.drew = w3 at *
          obtain ⟨p, hp⟩ : ∃ p : Int, (if lo < x then lo else x) = p := ⟨_, rfl⟩
          obtain ⟨q, hq⟩ : ∃ q : Int, (if y < hi then hi else y) = q := ⟨_, rfl⟩
          rw [hp, hq]
          have HS := Lib.hid (show hullStep (x, y) (lo, hi) = (p, q) by unfold hullStep; rw [if_pos hr1, if_pos hr2]; unfold hullMore; rw [← hp, ← hq])
          have HP := Lib.hid (B1d.put p q)
          have HF := Lib.hid (B0d.far (b' := w.heap.size + 1) (by omega) (.int .i64 p) (.int .i64 q))
          have hbe := (hbd.setCell (p := ⟨w.heap.size + 1, 0, none⟩) (by simp) (.int .i64 p)).setCell (p := ⟨w.heap.size + 1, 1, none⟩) (by simp) (.int .i64 q)
          obtain ⟨u0, u1, u2, u3⟩ := B1d
          clear t0 t1 t2 t3 hp hq B0d hbd f1 f2
          go_wp2
          go_roundw
          case rel => exact ⟨k + 1, (p, q), by omega, by go_num, by rw [HH.out, HD.out, List.foldl_cons, HS.out], HF.out, HP.out, by simpa [World.setCell] using hszd, hbe⟩
          case measure => simp [intOf]; omega
        | false =>
          have HP0 := Lib.hid (SpanBlk.put (w := w2) (b := w.heap.size + 1) (s := (x, y)) ⟨t0, t1, t2, t3⟩ lo hi)
          have HF0 := Lib.hid (HB0.out.far (b' := w.heap.size + 1) (by omega) (.int .i64 lo) (.int .i64 hi))
          have hb5 := (hb4.setCell (p := ⟨w.heap.size + 1, 0, none⟩) (by simp) (.int .i64 lo)).setCell (p := ⟨w.heap.size + 1, 1, none⟩) (by simp) (.int .i64 hi)
          have hcA := (hb5.cell (p := ad.add (k * 2)) (by rw [blockAdd]; exact hab)).trans c1
          have hcB := (hb5.cell (p := ⟨(ad.add (k * 2)).block, (ad.add (k * 2)).off + 1, none⟩) (by show (ad.add (k * 2)).block < _; rw [blockAdd]; exact hab)).trans c2
          go_upto_region 8 with (fail)
          have hszw : w.heap.size + 1 < ((w2.setCell ⟨w.heap.size + 1, 0, none⟩ (.int .i64 lo)).setCell ⟨w.heap.size + 1, 1, none⟩ (.int .i64 hi)).heap.size := by simpa [World.setCell] using hsz2
          clear t0 t1 t2 t3 f1 f2 HB0 hb4 hsz2
          generalize ((w2.setCell ⟨w.heap.size + 1, 0, none⟩ (.int .i64 lo)).setCell ⟨w.heap.size + 1, 1, none⟩ (.int .i64 hi)) = w4 at *
          obtain ⟨t0, t1, t2, t3⟩ := HP0.out
          simp only at t0 t1
          have f1 := hcA
          have f2 := hcB
          go_still_tail 17, (by kernel_rfl)
          change wpList _ _ _ _ _ w4.drew
          have B1d : SpanBlk w4.drew (w.heap.size + 1) (lo, hi) := ⟨t0, t1, t2, t3⟩
          have B0d : SpanBlk w4.drew w.heap.size (0, 0) := HF0.out
          have hbd : Below w.heap.size w w4.drew := hb5.drew
          have hszd : w.heap.size + 1 < w4.drew.heap.size := hszw
          clear hcA hcB HP0 HF0 hb5 hszw t0 t1 t2 t3 f1 f2
          generalize w4.drew = w3 at *
          obtain ⟨p, hp⟩ : ∃ p : Int, (if lo < lo then lo else lo) = p := ⟨_, rfl⟩
          obtain ⟨q, hq⟩ : ∃ q : Int, (if hi < hi then hi else hi) = q := ⟨_, rfl⟩
          have HS := Lib.hid (show hullStep (x, y) (lo, hi) = (lo, hi) by unfold hullStep; rw [if_pos hr1, if_neg (by rw [hr2]; decide)]; simp [hullMore])
          have HP := Lib.hid (B1d.put lo hi)
          have HF := Lib.hid (B0d.far (b' := w.heap.size + 1) (by omega) (.int .i64 lo) (.int .i64 hi))
          have hbe := (hbd.setCell (p := ⟨w.heap.size + 1, 0, none⟩) (by simp) (.int .i64 lo)).setCell (p := ⟨w.heap.size + 1, 1, none⟩) (by simp) (.int .i64 hi)
          obtain ⟨u0, u1, u2, u3⟩ := B1d
          clear B0d hbd hp hq p q
          go_wp2
          go_roundw
          case rel => exact ⟨k + 1, (lo, hi), by omega, by go_num, by rw [HH.out, HD.out, List.foldl_cons, HS.out], HF.out, HP.out, by simpa [World.setCell] using hszd, hbe⟩
          case measure => simp [intOf]; omega
    · have HZ := Lib.hid (show hullS l = st by rw [HH.out, List.drop_eq_nil_of_le (by rw [HL.out]; omega)]; rfl)
      obtain ⟨x, y⟩ := st
      simp only at r0 r1 t0 t1
      have hbe := (hb.setCell (p := ⟨w.heap.size, 0, none⟩) (Nat.le_refl _) (.int .i64 x)).setCell (p := ⟨w.heap.size, 1, none⟩) (Nat.le_refl _) (.int .i64 y)
      have HR := Lib.hid (SpanBlk.put (w := wr) (b := w.heap.size) (s := (0, 0)) ⟨r0, r1, r2, r3⟩ x y)
      go_wp2
      generalize ((wr.setCell ⟨w.heap.size, 0, none⟩ (.int .i64 x)).setCell ⟨w.heap.size, 1, none⟩ (.int .i64 y)) = w5 at *
      obtain ⟨u0, u1, _, _⟩ := HR.out
      simp only at u0 u1
      exact bodyPost_ret (v := .agg #[.int .i64 x, .int .i64 y]) (by simp [results, Try.results23, go_sem, u0, u1]) rfl ⟨by rw [HZ.out], hbe⟩
end Go.Proofs.Ytioglpfijdkffaa
