/- The project's kindsOf and Presented. -/
import Derived.Test.YtfobhnpmaooalaaFmP5
import Derived.Test.YtfobhnpmaooalaaArrEq
import Derived.Laws.ResultCell
namespace Go.Proofs.Ytfobhnpmaooalaa
open Go.RowKit

/-- Five cells of yes or no, in a block that may be written. -/
def KAt (W : World) (b : Nat) (v0 v1 v2 v3 v4 : Bool) : Prop := (W.cell? ⟨b, 0, none⟩ = some (.bool v0) ∧ W.cell? ⟨b, 1, none⟩ = some (.bool v1) ∧ W.cell? ⟨b, 2, none⟩ = some (.bool v2) ∧ W.cell? ⟨b, 3, none⟩ = some (.bool v3) ∧ W.cell? ⟨b, 4, none⟩ = some (.bool v4)) ∧ ∀ i, W.frozen? ⟨b, i, none⟩ = false
theorem KAt.lt {W : World} {b : Nat} {v0 v1 v2 v3 v4 : Bool} (h : KAt W b v0 v1 v2 v3 v4) : b < W.heap.size := cell_lt h.1.1
theorem KAt.below {W W' : World} {b : Nat} {v0 v1 v2 v3 v4 : Bool} (h : KAt W b v0 v1 v2 v3 v4) (hb : Below W.heap.size W W') : KAt W' b v0 v1 v2 v3 v4 := by
  have hl := h.lt
  obtain ⟨⟨d0, d1, d2, d3, d4⟩, hf⟩ := h
  exact ⟨⟨cell_below hb d0, cell_below hb d1, cell_below hb d2, cell_below hb d3, cell_below hb d4⟩, fun i => (hb.frozen hl).trans (hf i)⟩
theorem frozen_set (W : World) (a c : Addr) (v : Value) : (W.setCell a v).frozen? c = W.frozen? c := by simp [go_sem]
theorem KAt.set0 {W : World} {b : Nat} {v0 v1 v2 v3 v4 : Bool} (h : KAt W b v0 v1 v2 v3 v4) (u : Bool) : KAt (W.setCell ⟨b, 0, none⟩ (.bool u)) b u v1 v2 v3 v4 := by
  obtain ⟨⟨d0, d1, d2, d3, d4⟩, hf⟩ := h
  exact ⟨⟨World.cell?_setCell_same (h := d0) .., (World.cell?_setCell_other (h := by simp) ..).trans d1, (World.cell?_setCell_other (h := by simp) ..).trans d2, (World.cell?_setCell_other (h := by simp) ..).trans d3, (World.cell?_setCell_other (h := by simp) ..).trans d4⟩, fun i => (frozen_set ..).trans (hf i)⟩
theorem KAt.set1 {W : World} {b : Nat} {v0 v1 v2 v3 v4 : Bool} (h : KAt W b v0 v1 v2 v3 v4) (u : Bool) : KAt (W.setCell ⟨b, 1, none⟩ (.bool u)) b v0 u v2 v3 v4 := by
  obtain ⟨⟨d0, d1, d2, d3, d4⟩, hf⟩ := h
  exact ⟨⟨(World.cell?_setCell_other (h := by simp) ..).trans d0, World.cell?_setCell_same (h := d1) .., (World.cell?_setCell_other (h := by simp) ..).trans d2, (World.cell?_setCell_other (h := by simp) ..).trans d3, (World.cell?_setCell_other (h := by simp) ..).trans d4⟩, fun i => (frozen_set ..).trans (hf i)⟩
theorem KAt.set2 {W : World} {b : Nat} {v0 v1 v2 v3 v4 : Bool} (h : KAt W b v0 v1 v2 v3 v4) (u : Bool) : KAt (W.setCell ⟨b, 2, none⟩ (.bool u)) b v0 v1 u v3 v4 := by
  obtain ⟨⟨d0, d1, d2, d3, d4⟩, hf⟩ := h
  exact ⟨⟨(World.cell?_setCell_other (h := by simp) ..).trans d0, (World.cell?_setCell_other (h := by simp) ..).trans d1, World.cell?_setCell_same (h := d2) .., (World.cell?_setCell_other (h := by simp) ..).trans d3, (World.cell?_setCell_other (h := by simp) ..).trans d4⟩, fun i => (frozen_set ..).trans (hf i)⟩
theorem KAt.set3 {W : World} {b : Nat} {v0 v1 v2 v3 v4 : Bool} (h : KAt W b v0 v1 v2 v3 v4) (u : Bool) : KAt (W.setCell ⟨b, 3, none⟩ (.bool u)) b v0 v1 v2 u v4 := by
  obtain ⟨⟨d0, d1, d2, d3, d4⟩, hf⟩ := h
  exact ⟨⟨(World.cell?_setCell_other (h := by simp) ..).trans d0, (World.cell?_setCell_other (h := by simp) ..).trans d1, (World.cell?_setCell_other (h := by simp) ..).trans d2, World.cell?_setCell_same (h := d3) .., (World.cell?_setCell_other (h := by simp) ..).trans d4⟩, fun i => (frozen_set ..).trans (hf i)⟩
theorem KAt.set4 {W : World} {b : Nat} {v0 v1 v2 v3 v4 : Bool} (h : KAt W b v0 v1 v2 v3 v4) (u : Bool) : KAt (W.setCell ⟨b, 4, none⟩ (.bool u)) b v0 v1 v2 v3 u := by
  obtain ⟨⟨d0, d1, d2, d3, d4⟩, hf⟩ := h
  exact ⟨⟨(World.cell?_setCell_other (h := by simp) ..).trans d0, (World.cell?_setCell_other (h := by simp) ..).trans d1, (World.cell?_setCell_other (h := by simp) ..).trans d2, (World.cell?_setCell_other (h := by simp) ..).trans d3, World.cell?_setCell_same (h := d4) ..⟩, fun i => (frozen_set ..).trans (hf i)⟩
theorem below_setK {w wr : World} {b : Nat} (h : Below w.heap.size w wr) (hb : w.heap.size ≤ b) (j : Nat) (u : Value) : Below w.heap.size w (wr.setCell ⟨b, j, none⟩ u) :=
  ⟨h.os, h.tape, h.output, by simpa [World.setCell] using h.size, fun i hi => (Below.heap_setCell wr ⟨b, j, none⟩ u i (by simp only; omega)).trans (h.block i hi)⟩
set_option maxRecDepth 100000 in
set_option maxHeartbeats 2000000 in
theorem fmKinds_any (c : Int) (b0 b1 b2 b3 : Bool) (h0 : (baseF c).2.2 = b0) (h1 : (parF c).2.2 = b1) (h2 : (marF c).2.2 = b2) (h3 : (unpF c).2 = b3) (w : World) :
    Calls Try.prog 53 #[.int .i64 c] w fun e w' => e = .returned (.agg #[.bool b0, .bool b1, .bool b2, .bool b3, .bool (decide (c = 65139))]) ∧ Below w.heap.size w w' := by
  obtain ⟨x0, y0, e0⟩ : ∃ x y, baseF c = (x, y, b0) := ⟨_, _, by rw [← h0]⟩
  obtain ⟨x1, y1, e1⟩ : ∃ x y, parF c = (x, y, b1) := ⟨_, _, by rw [← h1]⟩
  obtain ⟨x2, y2, e2⟩ : ∃ x y, marF c = (x, y, b2) := ⟨_, _, by rw [← h2]⟩
  obtain ⟨x3, e3⟩ : ∃ x, unpF c = (x, b3) := ⟨_, by rw [← h3]⟩
  have E0 := Lib.hid e0
  have E1 := Lib.hid e1
  have E2 := Lib.hid e2
  have E3 := Lib.hid e3
  clear h0 h1 h2 h3 e0 e1 e2 e3
  have hbA := below_new w (.cells #[.bool false, .bool false, .bool false, .bool false, .bool false] 79)
  have hK : KAt (w.alloc (.cells #[.bool false, .bool false, .bool false, .bool false, .bool false] 79)) w.heap.size false false false false false := by
    refine ⟨⟨?_, ?_, ?_, ?_, ?_⟩, fun i => by simp [go_sem]⟩ <;> (rw [World.cell?_alloc_at _ _ _ _ rfl]; rfl)
  have HK := Lib.hid hK
  have HB := Lib.hid hbA
  clear hK hbA
  go_enter Try.func53, Try.ntmps53
  go_wp2_with fail
  refine (fmBase_any c x0 y0 b0 E0.out _).mono ?_
  rintro e w1 ⟨rfl, hb⟩
  have hK1 := HK.out.below hb
  have hB1 := below_self HB.out hb
  clear hb HK HB
  have hlt := hK1.lt
  obtain ⟨⟨d0, d1, d2, d3, d4⟩, hf⟩ := id hK1
  have f0 := hf 0
  go_wp2_with fail
  have HK := Lib.hid (hK1.set0 b0)
  have HB := Lib.hid (below_setK hB1 (Nat.le_refl _) 0 (.bool b0))
  clear hK1 hB1 d0 d1 d2 d3 d4 hf f0 hlt
  refine (fmParted_any c x1 y1 b1 E1.out _).mono ?_
  rintro e w2 ⟨rfl, hb⟩
  have hK1 := HK.out.below hb
  have hB1 := below_self HB.out hb
  clear hb HK HB
  have hlt := hK1.lt
  obtain ⟨⟨d0, d1, d2, d3, d4⟩, hf⟩ := id hK1
  have f1 := hf 1
  go_wp2_with fail
  have HK := Lib.hid (hK1.set1 b1)
  have HB := Lib.hid (below_setK hB1 (Nat.le_refl _) 1 (.bool b1))
  clear hK1 hB1 d0 d1 d2 d3 d4 hf f1 hlt
  refine (fmMark_any c x2 y2 b2 E2.out _).mono ?_
  rintro e w3 ⟨rfl, hb⟩
  have hK1 := HK.out.below hb
  have hB1 := below_self HB.out hb
  clear hb HK HB
  have hlt := hK1.lt
  obtain ⟨⟨d0, d1, d2, d3, d4⟩, hf⟩ := id hK1
  have f2 := hf 2
  go_wp2_with fail
  have HK := Lib.hid (hK1.set2 b2)
  have HB := Lib.hid (below_setK hB1 (Nat.le_refl _) 2 (.bool b2))
  clear hK1 hB1 d0 d1 d2 d3 d4 hf f2 hlt
  refine (fmUnpile_any c x3 b3 E3.out _).mono ?_
  rintro e w4 ⟨rfl, hb⟩
  have hK1 := HK.out.below hb
  have hB1 := below_self HB.out hb
  have HB := Lib.hid hB1
  have HK := Lib.hid hK1
  clear hb hB1
  have hlt := hK1.lt
  obtain ⟨⟨d0, d1, d2, d3, d4⟩, hf⟩ := id hK1
  have f3 := hf 3
  have f4 := hf 4
  have f0 := hf 0
  have f1 := hf 1
  have f2 := hf 2
  clear hK1 hf
  by_cases hc : c = 65139
  · have HD := Lib.hid (show decide (c = 65139) = true by simp [hc])
    subst hc
    go_wp2
    (try simp only [Exit.inBlock, Exit.then])
    (try rw [HD.out])
    refine bodyPost_ret (v := .agg #[.bool b0, .bool b1, .bool b2, .bool b3, .bool true]) ?_ rfl ⟨rfl, ?_⟩
    · obtain ⟨⟨e0, e1, e2, e3, e4⟩, _⟩ := ((((((HK.out.set3 b3).set4 true).set0 b0).set1 b1).set2 b2).set3 b3).set4 true
      simp [results, Try.results53, go_sem, e0, e1, e2, e3, e4]
    · refine below_setK (below_setK (below_setK (below_setK (below_setK (below_setK (below_setK HB.out ?_ _ _) ?_ _ _) ?_ _ _) ?_ _ _) ?_ _ _) ?_ _ _) ?_ _ _ <;> exact Nat.le_refl _
  · have HD := Lib.hid (show decide (c = 65139) = false by simp [hc])
    have g1 : (c == 65139) = false := by simp [hc]
    clear hc
    go_wp2
    (try simp only [Exit.inBlock, Exit.then])
    (try rw [HD.out])
    refine bodyPost_ret (v := .agg #[.bool b0, .bool b1, .bool b2, .bool b3, .bool false]) ?_ rfl ⟨rfl, ?_⟩
    · obtain ⟨⟨e0, e1, e2, e3, e4⟩, _⟩ := ((((((HK.out.set3 b3).set4 false).set0 b0).set1 b1).set2 b2).set3 b3).set4 false
      simp [results, Try.results53, go_sem, e0, e1, e2, e3, e4]
    · refine below_setK (below_setK (below_setK (below_setK (below_setK (below_setK (below_setK HB.out ?_ _ _) ?_ _ _) ?_ _ _) ?_ _ _) ?_ _ _) ?_ _ _) ?_ _ _ <;> exact Nat.le_refl _
theorem fmKindsEq (b0 b1 b2 b3 b4 : Bool) (w : World) : (Op.equalIn 10000 79 (.agg #[.bool b0, .bool b1, .bool b2, .bool b3, .bool b4]) (.agg #[.bool false, .bool false, .bool false, .bool false, .bool false])).run Try.prog w = .ok (!(b0 || b1 || b2 || b3 || b4)) w := by
  have hi : Try.prog.info? 4 = some (Try.prog.info? 4 |>.getD default) := by kernel_rfl
  rw [show (10000 : Nat) = 9999 + 1 from rfl, equal_one (P := Try.prog) Value.bool 9999 5 (t := 79) (e := 4) Try.underlying79 hi (by kernel_rfl) (by kernel_rfl) (fun a b w => run_equalIn_bool' w 9998 _ a b Try.underlying4) _ _ (fun i => [b0, b1, b2, b3, b4].getD i false) (fun _ => false) (fun i h => by
    have : i = 0 ∨ i = 1 ∨ i = 2 ∨ i = 3 ∨ i = 4 := by omega
    rcases this with rfl | rfl | rfl | rfl | rfl <;> exact ⟨rfl, rfl⟩) w]
  congr 1
  cases b0 <;> cases b1 <;> cases b2 <;> cases b3 <;> cases b4 <;> rfl
set_option maxRecDepth 100000 in
set_option maxHeartbeats 2000000 in
theorem fmPresented_any (c : Int) (v : Bool) (hv : preF c = v) (w : World) :
    Calls Try.prog 30 #[.int .i64 c] w fun e w' => e = .returned (.bool v) ∧ Below w.heap.size w w' := by
  obtain ⟨b0, h0⟩ : ∃ b, (baseF c).2.2 = b := ⟨_, rfl⟩
  obtain ⟨b1, h1⟩ : ∃ b, (parF c).2.2 = b := ⟨_, rfl⟩
  obtain ⟨b2, h2⟩ : ∃ b, (marF c).2.2 = b := ⟨_, rfl⟩
  obtain ⟨b3, h3⟩ : ∃ b, (unpF c).2 = b := ⟨_, rfl⟩
  have HC := Lib.hid (fmKinds_any c b0 b1 b2 b3 h0 h1 h2 h3 w)
  have hV : v = (b0 || b1 || b2 || b3 || decide (c = 65139)) := by rw [← hv, preF, h0, h1, h2, h3]
  obtain ⟨b4, h4⟩ : ∃ b, decide (c = 65139) = b := ⟨_, rfl⟩
  rw [h4] at HC hV
  have HV := Lib.hid hV
  clear h0 h1 h2 h3 h4 hv hV
  go_enter Try.func30, Try.ntmps30
  go_wp2_with fail
  refine HC.out.mono ?_
  rintro e w1 ⟨rfl, hb⟩
  clear HC
  have hq := fmKindsEq b0 b1 b2 b3 b4
  go_wp2
  go_ret
  exact ⟨by rw [HV.out]; cases b0 <;> cases b1 <;> cases b2 <;> cases b3 <;> cases b4 <;> rfl, hb⟩
end Go.Proofs.Ytfobhnpmaooalaa
