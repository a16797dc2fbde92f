/- Texts of one claim, one behind the other. -/
import Derived.StillTailTactics
import Derived.Deep.Cut
import Derived.Test.YtcbiaeeifclieaaGreatDoorMgM1
import Derived.Test.YtcbiaeeifclieaaGreatDoorMgM2
import Derived.Test.YtcbiaeeifclieaaGreatDoorMgM3
/- The project's Hull of spans. -/
namespace Go.Proofs.YtcbiaeeifclieaaGreatDoor
open Go.RowKit

theorem hullStep_wrong {st s : Sp} (h : rightB s = false) : hullStep st s = st := if_neg (by rw [h]; decide)
theorem hullStep_first {st s : Sp} (h : rightB s = true) (h' : rightB st = false) : hullStep st s = s := by
  unfold hullStep
  rw [if_pos h, if_neg (by rw [h']; decide)]
  unfold hullMore
  simp

set_option maxRecDepth 100000 in
set_option maxHeartbeats 2000000 in
theorem prHull_any (A : Option Addr) (n c : Nat) (l : List Sp) (w : World) (hr : Rd w 2 A n (cellsS l)) (hn : n ≤ maxLen) :
    Calls Tryz.prog 122 #[.slice A n c] w fun e w' => e = .returned (.agg #[.int .i64 (hullS l).1, .int .i64 (hullS l).2]) ∧ Below w.heap.size w w' := by
  have hlen : l.length = n := by have := hr.1; rw [cellsS_len] at this; omega
  have HL := Lib.hid hlen
  clear hlen
  unfold maxLen at hn
  go_enter Tryz.func122, Tryz.ntmps122
  go_wp2
  go_loopw [8] (fun i wr => ∃ (k : Nat) (st : Sp), k ≤ n ∧ i = .int .i64 k ∧ hullS l = (l.drop k).foldl hullStep st ∧ SpanBlk wr w.heap.size (0, 0) ∧ SpanBlk wr (w.heap.size + 1) st ∧ w.heap.size + 1 < wr.heap.size ∧ Below w.heap.size w wr) (fun i _ => n - (intOf i).toNat)
  case atStart =>
    refine ⟨0, (0, 0), Nat.zero_le _, rfl, rfl, ?_, ?_, by simp, ((Below.refl _ _).alloc (Nat.le_refl _) _).alloc (by simp) _⟩
    · refine ⟨?_, ?_, ?_, ?_⟩ <;> simp [go_sem]
    · refine ⟨?_, ?_, ?_, ?_⟩ <;> simp [go_sem]
  case round =>
    obtain ⟨k, st, hk, rfl, hh, hB0, hB1, hsz, hb⟩ := hrel
    have HH := Lib.hid hh
    clear hh
    by_cases hlt : k < n
    · obtain ⟨s, hsk⟩ : ∃ s, l[k]? = some s := ⟨_, List.getElem?_eq_getElem (by rw [HL.out]; exact hlt)⟩
      have HD := Lib.hid (dropCons hsk)
      obtain ⟨ad, rfl, hab, c1, c2⟩ := (hr.below hb).span hsk
      clear hsk
      obtain ⟨lo, hi⟩ := s
      obtain ⟨x, y⟩ := st
      simp only at c1 c2
      go_wp2_with fail
      refine (prRight_any lo hi _).mono ?_
      rintro e w1 ⟨rfl, hb1⟩
      have hb1' := below_self (below_new wr _) hb1
      have hb2 := hb.trans (hb1'.mono hb.size)
      have d1 : w1.cell? ⟨wr.heap.size, 0, none⟩ = some (.int .i64 lo) := cell_below hb1 (by rw [World.cell?_alloc_at _ _ _ _ rfl]; rfl)
      have d2 : w1.cell? ⟨wr.heap.size, 1, none⟩ = some (.int .i64 hi) := cell_below hb1 (by rw [World.cell?_alloc_at _ _ _ _ rfl]; rfl)
      have B0 := hB0.below hb1'
      have B1 := hB1.below hb1'
      have hsz1 : w.heap.size + 1 < w1.heap.size := Nat.lt_of_lt_of_le hsz hb1'.size
      have hwr : w.heap.size + 1 < wr.heap.size := hsz
      clear c1 c2 hb1 hB0 hB1 hsz hb1'
      cases hr1 : rightB (lo, hi) with
      | false =>
        have HS := Lib.hid (hullStep_wrong (st := (x, y)) hr1)
        have HB0 := Lib.hid B0
        have HB1 := Lib.hid B1
        clear B0 B1
        go_wp2
        go_roundw
        case rel => exact ⟨k + 1, (x, y), by omega, by go_num, by rw [HH.out, HD.out, List.foldl_cons, HS.out], HB0.out, HB1.out, hsz1, hb2⟩
        case measure => simp [intOf]; omega
      | true =>
        have HB0 := Lib.hid B0
        obtain ⟨t0, t1, t2, t3⟩ := B1
        simp only at t0 t1
        clear B0
        go_wp2_with fail
        refine (prRight_any x y _).mono ?_
        rintro e w2 ⟨rfl, hb3⟩
        have f1 := cell_below hb3 d1
        have f2 := cell_below hb3 d2
        have HB0' := Lib.hid (HB0.out.below hb3)
        have B1' : SpanBlk w2 (w.heap.size + 1) (x, y) := SpanBlk.below (w := w1) ⟨t0, t1, t2, t3⟩ hb3
        have hb4 := hb2.trans (hb3.mono hb2.size)
        have hsz2 : w.heap.size + 1 < w2.heap.size := Nat.lt_of_lt_of_le hsz1 hb3.size
        clear t0 t1 t2 t3 d1 d2 HB0 hb2 hb3 hsz1
        obtain ⟨t0, t1, t2, t3⟩ := B1'
        cases hr2 : rightB (x, y) with
        | true =>
          obtain ⟨p, hp⟩ : ∃ p : Int, (if lo < x then lo else x) = p := ⟨_, rfl⟩
          obtain ⟨q, hq⟩ : ∃ q : Int, (if y < hi then hi else y) = q := ⟨_, rfl⟩
          have HS := Lib.hid (show hullStep (x, y) (lo, hi) = (p, q) by unfold hullStep; rw [if_pos hr1, if_pos hr2]; unfold hullMore; rw [← hp, ← hq])
          have HP := Lib.hid (SpanBlk.put (w := w2) (b := w.heap.size + 1) (s := (x, y)) ⟨t0, t1, t2, t3⟩ p q)
          have HF := Lib.hid (HB0'.out.far (b' := w.heap.size + 1) (by omega) (.int .i64 p) (.int .i64 q))
          have hbe := (hb4.setCell (p := ⟨w.heap.size + 1, 0, none⟩) (by simp) (.int .i64 p)).setCell (p := ⟨w.heap.size + 1, 1, none⟩) (by simp) (.int .i64 q)
          go_wp2
          go_roundw
          case rel => exact ⟨k + 1, (p, q), by omega, by go_num, by rw [HH.out, HD.out, List.foldl_cons, HS.out], HF.out, HP.out, by simpa [World.setCell] using hsz2, hbe⟩
          case measure => simp [intOf]; omega
        | false =>
          have HS := Lib.hid (hullStep_first hr1 hr2)
          have HP := Lib.hid (SpanBlk.put (w := w2) (b := w.heap.size + 1) (s := (x, y)) ⟨t0, t1, t2, t3⟩ lo hi)
          have HF := Lib.hid (HB0'.out.far (b' := w.heap.size + 1) (by omega) (.int .i64 lo) (.int .i64 hi))
          have hbe := (hb4.setCell (p := ⟨w.heap.size + 1, 0, none⟩) (by simp) (.int .i64 lo)).setCell (p := ⟨w.heap.size + 1, 1, none⟩) (by simp) (.int .i64 hi)
          go_wp2
          go_roundw
          case rel => exact ⟨k + 1, (lo, hi), by omega, by go_num, by rw [HH.out, HD.out, List.foldl_cons, HS.out], HF.out, HP.out, by simpa [World.setCell] using hsz2, hbe⟩
          case measure => simp [intOf]; omega
    · have HZ := Lib.hid (show hullS l = st by rw [HH.out, List.drop_eq_nil_of_le (by rw [HL.out]; omega)]; rfl)
      obtain ⟨x, y⟩ := st
      obtain ⟨r0, r1, r2, r3⟩ := hB0
      obtain ⟨t0, t1, t2, t3⟩ := hB1
      simp only at r0 r1 t0 t1
      have hbe := (hb.setCell (p := ⟨w.heap.size, 0, none⟩) (Nat.le_refl _) (.int .i64 x)).setCell (p := ⟨w.heap.size, 1, none⟩) (Nat.le_refl _) (.int .i64 y)
      have HR := Lib.hid (SpanBlk.put (w := wr) (b := w.heap.size) (s := (0, 0)) ⟨r0, r1, r2, r3⟩ x y)
      go_wp2
      generalize ((wr.setCell ⟨w.heap.size, 0, none⟩ (.int .i64 x)).setCell ⟨w.heap.size, 1, none⟩ (.int .i64 y)) = w5 at *
      obtain ⟨u0, u1, _, _⟩ := HR.out
      simp only at u0 u1
      exact bodyPost_ret (v := .agg #[.int .i64 x, .int .i64 y]) (by simp [results, Tryz.results122, go_sem, u0, u1]) rfl ⟨by rw [HZ.out], hbe⟩
end Go.Proofs.YtcbiaeeifclieaaGreatDoor
