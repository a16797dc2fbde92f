/- Texts of one claim, one behind the other. -/
import Derived.Laws.ResultCell
import Derived.Test.YtanngknhbgcobaaGreatDoorMgTb4
import Derived.Test.YtanngknhbgcobaaGreatDoorMgTb7
/- The project's kindsOf and Presented. -/
namespace Go.Proofs.YtanngknhbgcobaaGreatDoor
open Go.RowKit

/-- Five cells of yes or no, in a block that may be written. -/
def KAt (W : World) (b : Nat) (v0 v1 v2 v3 v4 : Bool) : Prop := (W.cell? ⟨b, 0, none⟩ = some (.bool v0) ∧ W.cell? ⟨b, 1, none⟩ = some (.bool v1) ∧ W.cell? ⟨b, 2, none⟩ = some (.bool v2) ∧ W.cell? ⟨b, 3, none⟩ = some (.bool v3) ∧ W.cell? ⟨b, 4, none⟩ = some (.bool v4)) ∧ ∀ i, W.frozen? ⟨b, i, none⟩ = false
theorem KAt.lt {W : World} {b : Nat} {v0 v1 v2 v3 v4 : Bool} (h : KAt W b v0 v1 v2 v3 v4) : b < W.heap.size := cell_lt h.1.1
theorem KAt.below {W W' : World} {b : Nat} {v0 v1 v2 v3 v4 : Bool} (h : KAt W b v0 v1 v2 v3 v4) (hb : Below W.heap.size W W') : KAt W' b v0 v1 v2 v3 v4 := by
  have hl := h.lt
  obtain ⟨⟨d0, d1, d2, d3, d4⟩, hf⟩ := h
  exact ⟨⟨cell_below hb d0, cell_below hb d1, cell_below hb d2, cell_below hb d3, cell_below hb d4⟩, fun i => (hb.frozen hl).trans (hf i)⟩
theorem frozen_set (W : World) (a c : Addr) (v : Value) : (W.setCell a v).frozen? c = W.frozen? c := by simp [go_sem]
theorem KAt.set0 {W : World} {b : Nat} {v0 v1 v2 v3 v4 : Bool} (h : KAt W b v0 v1 v2 v3 v4) (u : Bool) : KAt (W.setCell ⟨b, 0, none⟩ (.bool u)) b u v1 v2 v3 v4 := by
  obtain ⟨⟨d0, d1, d2, d3, d4⟩, hf⟩ := h
  exact ⟨⟨World.cell?_setCell_same (h := d0) .., (World.cell?_setCell_other (h := by simp) ..).trans d1, (World.cell?_setCell_other (h := by simp) ..).trans d2, (World.cell?_setCell_other (h := by simp) ..).trans d3, (World.cell?_setCell_other (h := by simp) ..).trans d4⟩, fun i => (frozen_set ..).trans (hf i)⟩
theorem KAt.set1 {W : World} {b : Nat} {v0 v1 v2 v3 v4 : Bool} (h : KAt W b v0 v1 v2 v3 v4) (u : Bool) : KAt (W.setCell ⟨b, 1, none⟩ (.bool u)) b v0 u v2 v3 v4 := by
  obtain ⟨⟨d0, d1, d2, d3, d4⟩, hf⟩ := h
  exact ⟨⟨(World.cell?_setCell_other (h := by simp) ..).trans d0, World.cell?_setCell_same (h := d1) .., (World.cell?_setCell_other (h := by simp) ..).trans d2, (World.cell?_setCell_other (h := by simp) ..).trans d3, (World.cell?_setCell_other (h := by simp) ..).trans d4⟩, fun i => (frozen_set ..).trans (hf i)⟩
theorem KAt.set2 {W : World} {b : Nat} {v0 v1 v2 v3 v4 : Bool} (h : KAt W b v0 v1 v2 v3 v4) (u : Bool) : KAt (W.setCell ⟨b, 2, none⟩ (.bool u)) b v0 v1 u v3 v4 := by
  obtain ⟨⟨d0, d1, d2, d3, d4⟩, hf⟩ := h
  exact ⟨⟨(World.cell?_setCell_other (h := by simp) ..).trans d0, (World.cell?_setCell_other (h := by simp) ..).trans d1, World.cell?_setCell_same (h := d2) .., (World.cell?_setCell_other (h := by simp) ..).trans d3, (World.cell?_setCell_other (h := by simp) ..).trans d4⟩, fun i => (frozen_set ..).trans (hf i)⟩
theorem KAt.set3 {W : World} {b : Nat} {v0 v1 v2 v3 v4 : Bool} (h : KAt W b v0 v1 v2 v3 v4) (u : Bool) : KAt (W.setCell ⟨b, 3, none⟩ (.bool u)) b v0 v1 v2 u v4 := by
  obtain ⟨⟨d0, d1, d2, d3, d4⟩, hf⟩ := h
  exact ⟨⟨(World.cell?_setCell_other (h := by simp) ..).trans d0, (World.cell?_setCell_other (h := by simp) ..).trans d1, (World.cell?_setCell_other (h := by simp) ..).trans d2, World.cell?_setCell_same (h := d3) .., (World.cell?_setCell_other (h := by simp) ..).trans d4⟩, fun i => (frozen_set ..).trans (hf i)⟩
theorem KAt.set4 {W : World} {b : Nat} {v0 v1 v2 v3 v4 : Bool} (h : KAt W b v0 v1 v2 v3 v4) (u : Bool) : KAt (W.setCell ⟨b, 4, none⟩ (.bool u)) b v0 v1 v2 v3 u := by
  obtain ⟨⟨d0, d1, d2, d3, d4⟩, hf⟩ := h
  exact ⟨⟨(World.cell?_setCell_other (h := by simp) ..).trans d0, (World.cell?_setCell_other (h := by simp) ..).trans d1, (World.cell?_setCell_other (h := by simp) ..).trans d2, (World.cell?_setCell_other (h := by simp) ..).trans d3, World.cell?_setCell_same (h := d4) ..⟩, fun i => (frozen_set ..).trans (hf i)⟩
theorem below_setK {w wr : World} {b : Nat} (h : Below w.heap.size w wr) (hb : w.heap.size ≤ b) (j : Nat) (u : Value) : Below w.heap.size w (wr.setCell ⟨b, j, none⟩ u) :=
  ⟨h.os, h.tape, h.output, by simpa [World.setCell] using h.size, fun i hi => (Below.heap_setCell wr ⟨b, j, none⟩ u i (by simp only; omega)).trans (h.block i hi)⟩
set_option maxRecDepth 100000 in
set_option maxHeartbeats 2000000 in
theorem fmKinds_any (c : Int) (b0 b1 b2 b3 : Bool) (h0 : (baseF c).2.2 = b0) (h1 : (parF c).2.2 = b1) (h2 : (marF c).2.2 = b2) (h3 : (unpF c).2 = b3) (w : World) :
    Calls Tryz.prog 51 #[.int .i64 c] w fun e w' => e = .returned (.agg #[.bool b0, .bool b1, .bool b2, .bool b3, .bool (decide (c = 65139))]) ∧ Below w.heap.size w w' := by
  obtain ⟨x0, y0, e0⟩ : ∃ x y, baseF c = (x, y, b0) := ⟨_, _, by rw [← h0]⟩
  obtain ⟨x1, y1, e1⟩ : ∃ x y, parF c = (x, y, b1) := ⟨_, _, by rw [← h1]⟩
  obtain ⟨x2, y2, e2⟩ : ∃ x y, marF c = (x, y, b2) := ⟨_, _, by rw [← h2]⟩
  obtain ⟨x3, e3⟩ : ∃ x, unpF c = (x, b3) := ⟨_, by rw [← h3]⟩
  have E0 := Lib.hid e0
  have E1 := Lib.hid e1
  have E2 := Lib.hid e2
  have E3 := Lib.hid e3
  clear h0 h1 h2 h3 e0 e1 e2 e3
  have hbA := below_new w (.cells #[.bool false, .bool false, .bool false, .bool false, .bool false] 99)
  have hK : KAt (w.alloc (.cells #[.bool false, .bool false, .bool false, .bool false, .bool false] 99)) w.heap.size false false false false false := by
    refine ⟨⟨?_, ?_, ?_, ?_, ?_⟩, fun i => by simp [go_sem]⟩ <;> (rw [World.cell?_alloc_at _ _ _ _ rfl]; rfl)
  have HK := Lib.hid hK
  have HB := Lib.hid hbA
  clear hK hbA
  go_enter Tryz.func51, Tryz.ntmps51
  go_wp2_with fail
  refine (fmBase_any c x0 y0 b0 E0.out _).mono ?_
  rintro e w1 ⟨rfl, hb⟩
  have hK1 := HK.out.below hb
  have hB1 := below_self HB.out hb
  clear hb HK HB
  have hlt := hK1.lt
  obtain ⟨⟨d0, d1, d2, d3, d4⟩, hf⟩ := id hK1
  have f0 := hf 0
  go_wp2_with fail
  have HK := Lib.hid (hK1.set0 b0)
  have HB := Lib.hid (below_setK hB1 (Nat.le_refl _) 0 (.bool b0))
  clear hK1 hB1 d0 d1 d2 d3 d4 hf f0 hlt
  refine (fmParted_any c x1 y1 b1 E1.out _).mono ?_
  rintro e w2 ⟨rfl, hb⟩
  have hK1 := HK.out.below hb
  have hB1 := below_self HB.out hb
  clear hb HK HB
  have hlt := hK1.lt
  obtain ⟨⟨d0, d1, d2, d3, d4⟩, hf⟩ := id hK1
  have f1 := hf 1
  go_wp2_with fail
  have HK := Lib.hid (hK1.set1 b1)
  have HB := Lib.hid (below_setK hB1 (Nat.le_refl _) 1 (.bool b1))
  clear hK1 hB1 d0 d1 d2 d3 d4 hf f1 hlt
  refine (fmMark_any c x2 y2 b2 E2.out _).mono ?_
  rintro e w3 ⟨rfl, hb⟩
  have hK1 := HK.out.below hb
  have hB1 := below_self HB.out hb
  clear hb HK HB
  have hlt := hK1.lt
  obtain ⟨⟨d0, d1, d2, d3, d4⟩, hf⟩ := id hK1
  have f2 := hf 2
  go_wp2_with fail
  have HK := Lib.hid (hK1.set2 b2)
  have HB := Lib.hid (below_setK hB1 (Nat.le_refl _) 2 (.bool b2))
  clear hK1 hB1 d0 d1 d2 d3 d4 hf f2 hlt
  refine (fmUnpile_any c x3 b3 E3.out _).mono ?_
  rintro e w4 ⟨rfl, hb⟩
  have hK1 := HK.out.below hb
  have hB1 := below_self HB.out hb
  have HB := Lib.hid hB1
  have HK := Lib.hid hK1
  clear hb hB1
  have hlt := hK1.lt
  obtain ⟨⟨d0, d1, d2, d3, d4⟩, hf⟩ := id hK1
  have f3 := hf 3
  have f4 := hf 4
  have f0 := hf 0
  have f1 := hf 1
  have f2 := hf 2
  clear hK1 hf
  by_cases hc : c = 65139
  · have HD := Lib.hid (show decide (c = 65139) = true by simp [hc])
    subst hc
    go_wp2
    (try simp only [Exit.inBlock, Exit.then])
    (try rw [HD.out])
    refine bodyPost_ret (v := .agg #[.bool b0, .bool b1, .bool b2, .bool b3, .bool true]) ?_ rfl ⟨rfl, ?_⟩
    · obtain ⟨⟨e0, e1, e2, e3, e4⟩, _⟩ := ((((((HK.out.set3 b3).set4 true).set0 b0).set1 b1).set2 b2).set3 b3).set4 true
      simp [results, Tryz.results51, go_sem, e0, e1, e2, e3, e4]
    · refine below_setK (below_setK (below_setK (below_setK (below_setK (below_setK (below_setK HB.out ?_ _ _) ?_ _ _) ?_ _ _) ?_ _ _) ?_ _ _) ?_ _ _) ?_ _ _ <;> exact Nat.le_refl _
  · have HD := Lib.hid (show decide (c = 65139) = false by simp [hc])
    have g1 : (c == 65139) = false := by simp [hc]
    clear hc
    go_wp2
    (try simp only [Exit.inBlock, Exit.then])
    (try rw [HD.out])
    refine bodyPost_ret (v := .agg #[.bool b0, .bool b1, .bool b2, .bool b3, .bool false]) ?_ rfl ⟨rfl, ?_⟩
    · obtain ⟨⟨e0, e1, e2, e3, e4⟩, _⟩ := ((((((HK.out.set3 b3).set4 false).set0 b0).set1 b1).set2 b2).set3 b3).set4 false
      simp [results, Tryz.results51, go_sem, e0, e1, e2, e3, e4]
    · refine below_setK (below_setK (below_setK (below_setK (below_setK (below_setK (below_setK HB.out ?_ _ _) ?_ _ _) ?_ _ _) ?_ _ _) ?_ _ _) ?_ _ _) ?_ _ _ <;> exact Nat.le_refl _
set_option maxRecDepth 100000 in
theorem fmKindsEq (b0 b1 b2 b3 b4 : Bool) (w : World) : (Op.equalIn 10000 99 (.agg #[.bool b0, .bool b1, .bool b2, .bool b3, .bool b4]) (.agg #[.bool false, .bool false, .bool false, .bool false, .bool false])).run Tryz.prog w = .ok (!(b0 || b1 || b2 || b3 || b4)) w := by
  have hi : Tryz.prog.info? 4 = some (Tryz.prog.info? 4 |>.getD default) := by kernel_rfl
  rw [show (10000 : Nat) = 9999 + 1 from rfl, equal_one (P := Tryz.prog) Value.bool 9999 5 (t := 99) (e := 4) Tryz.underlying99 hi (by kernel_rfl) (by kernel_rfl) (fun a b w => run_equalIn_bool' w 9998 _ a b Tryz.underlying4) _ _ (fun i => [b0, b1, b2, b3, b4].getD i false) (fun _ => false) (fun i h => by
    have : i = 0 ∨ i = 1 ∨ i = 2 ∨ i = 3 ∨ i = 4 := by omega
    rcases this with rfl | rfl | rfl | rfl | rfl <;> exact ⟨rfl, rfl⟩) w]
  congr 1
  cases b0 <;> cases b1 <;> cases b2 <;> cases b3 <;> cases b4 <;> rfl
set_option maxRecDepth 100000 in
set_option maxHeartbeats 2000000 in
theorem fmPresented_any (c : Int) (v : Bool) (hv : preF c = v) (w : World) :
    Calls Tryz.prog 24 #[.int .i64 c] w fun e w' => e = .returned (.bool v) ∧ Below w.heap.size w w' := by
  obtain ⟨b0, h0⟩ : ∃ b, (baseF c).2.2 = b := ⟨_, rfl⟩
  obtain ⟨b1, h1⟩ : ∃ b, (parF c).2.2 = b := ⟨_, rfl⟩
  obtain ⟨b2, h2⟩ : ∃ b, (marF c).2.2 = b := ⟨_, rfl⟩
  obtain ⟨b3, h3⟩ : ∃ b, (unpF c).2 = b := ⟨_, rfl⟩
  have HC := Lib.hid (fmKinds_any c b0 b1 b2 b3 h0 h1 h2 h3 w)
  have hV : v = (b0 || b1 || b2 || b3 || decide (c = 65139)) := by rw [← hv, preF, h0, h1, h2, h3]
  obtain ⟨b4, h4⟩ : ∃ b, decide (c = 65139) = b := ⟨_, rfl⟩
  rw [h4] at HC hV
  have HV := Lib.hid hV
  clear h0 h1 h2 h3 h4 hv hV
  go_enter Tryz.func24, Tryz.ntmps24
  go_wp2_with fail
  refine HC.out.mono ?_
  rintro e w1 ⟨rfl, hb⟩
  clear HC
  have hq := fmKindsEq b0 b1 b2 b3 b4
  go_wp2
  go_ret
  exact ⟨by rw [HV.out]; cases b0 <;> cases b1 <;> cases b2 <;> cases b3 <;> cases b4 <;> rfl, hb⟩
end Go.Proofs.YtanngknhbgcobaaGreatDoor
/- The reference's Parted, Mark, Unpile. -/
namespace Go.Proofs.YtanngknhbgcobaaGreatDoor
open Go.RowKit
set_option maxRecDepth 100000 in
set_option maxHeartbeats 1000000 in
theorem refParted_any (c x q : Int) (ok : Bool) (hv : parF c = (x, q, ok)) (w : World) :
    Calls Tryz.prog 44 #[.int .i64 c] w fun e w' => e = .returned (.tuple #[.int .i64 x, .int .i64 q, .bool ok]) ∧ Below w.heap.size w w' := by
  have hv' : parR c ligL = (x, q, ok) := hv
  have HV := Lib.hid hv'
  clear hv hv'
  go_enter Tryz.func44, Tryz.ntmps44
  go_wp2_with fail
  refine (ligatures_any _).mono ?_
  rintro e w1 ⟨⟨A, rfl, hr⟩, hb1⟩
  have HL := Lib.hid (show ligL.length = 4 from rfl)
  obtain ⟨l, hl⟩ : ∃ l, ligL = l := ⟨_, rfl⟩
  rw [hl] at HV HL hr
  clear hl
  go_wp2
  go_loopw [6] (fun i wr => ∃ (k : Nat), k ≤ 4 ∧ i = .int .i64 k ∧ parR c l = parR c (l.drop k) ∧ wr = w1) (fun i _ => 4 - (intOf i).toNat)
  case atStart => exact ⟨0, Nat.zero_le _, rfl, rfl, rfl⟩
  case round =>
    obtain ⟨k, hk, rfl, hp, rfl⟩ := hrel
    have HP := Lib.hid hp
    clear hp
    by_cases hlt : k < 4
    · obtain ⟨s, hsk⟩ : ∃ s, l[k]? = some s := ⟨_, List.getElem?_eq_getElem (by rw [HL.out]; exact hlt)⟩
      obtain ⟨ad, rfl, hab, c1, c2, c3⟩ := hr.rg hsk
      have HD := Lib.hid (dropCons hsk)
      clear hsk
      obtain ⟨y, f1, f2⟩ := s
      simp only at c1 c2 c3
      by_cases h1 : f1 = c
      · have hX := show (x, q, ok) = (y, 1, true) by rw [← HV.out, HP.out, HD.out]; exact if_pos h1
        simp only [Prod.mk.injEq] at hX
        obtain ⟨rfl, rfl, rfl⟩ := hX
        subst h1
        go_wp2
        go_ret3
        exact ⟨rfl, hb1⟩
      · by_cases h2 : f2 = c
        · have hX := show (x, q, ok) = (y, 2, true) by rw [← HV.out, HP.out, HD.out]; exact (if_neg h1).trans (if_pos h2)
          simp only [Prod.mk.injEq] at hX
          obtain ⟨rfl, rfl, rfl⟩ := hX
          have g1 : (f1 == c) = false := by simp [h1]
          clear h1
          subst h2
          go_wp2
          go_ret3
          exact ⟨rfl, hb1⟩
        · have HF := Lib.hid (show parR c l = parR c (l.drop (k + 1)) by rw [HP.out, HD.out]; exact (if_neg h1).trans (if_neg h2))
          have g1 : (f1 == c) = false := by simp [h1]
          have g2 : (f2 == c) = false := by simp [h2]
          clear h1 h2
          go_wp2
          go_roundw
          case rel => exact ⟨k + 1, by omega, by go_num, HF.out, trivial⟩
          case measure => simp [intOf]; omega
    · have hX := show (x, q, ok) = (0, 0, false) by rw [← HV.out, HP.out, List.drop_eq_nil_of_le (by rw [HL.out]; omega)]; rfl
      simp only [Prod.mk.injEq] at hX
      obtain ⟨rfl, rfl, rfl⟩ := hX
      go_wp2
      go_ret3
      exact ⟨rfl, hb1⟩
set_option maxRecDepth 100000 in
set_option maxHeartbeats 1000000 in
theorem refMark_any (c x : Int) (q ok : Bool) (hv : marF c = (x, q, ok)) (w : World) :
    Calls Tryz.prog 45 #[.int .i64 c] w fun e w' => e = .returned (.tuple #[.int .i64 x, .bool q, .bool ok]) ∧ Below w.heap.size w w' := by
  have hv' : marR c accL = (x, q, ok) := hv
  have HV := Lib.hid hv'
  clear hv hv'
  go_enter Tryz.func45, Tryz.ntmps45
  go_wp2_with fail
  refine (accents_any _).mono ?_
  rintro e w1 ⟨⟨A, rfl, hr⟩, hb1⟩
  have HL := Lib.hid (show accL.length = 8 from rfl)
  obtain ⟨l, hl⟩ : ∃ l, accL = l := ⟨_, rfl⟩
  rw [hl] at HV HL hr
  clear hl
  go_wp2
  go_loopw [6] (fun i wr => ∃ (k : Nat), k ≤ 8 ∧ i = .int .i64 k ∧ marR c l = marR c (l.drop k) ∧ wr = w1) (fun i _ => 8 - (intOf i).toNat)
  case atStart => exact ⟨0, Nat.zero_le _, rfl, rfl, rfl⟩
  case round =>
    obtain ⟨k, hk, rfl, hp, rfl⟩ := hrel
    have HP := Lib.hid hp
    clear hp
    by_cases hlt : k < 8
    · obtain ⟨s, hsk⟩ : ∃ s, l[k]? = some s := ⟨_, List.getElem?_eq_getElem (by rw [HL.out]; exact hlt)⟩
      obtain ⟨ad, rfl, hab, c1, c2, c3⟩ := hr.rg hsk
      have HD := Lib.hid (dropCons hsk)
      clear hsk
      obtain ⟨y, f1, f2⟩ := s
      simp only at c1 c2 c3
      by_cases h1 : f1 = c
      · have hX := show (x, q, ok) = (y, false, true) by rw [← HV.out, HP.out, HD.out]; exact if_pos h1
        simp only [Prod.mk.injEq] at hX
        obtain ⟨rfl, rfl, rfl⟩ := hX
        subst h1
        go_wp2
        go_ret3
        exact ⟨rfl, hb1⟩
      · by_cases h0 : c = 0
        · have HF := Lib.hid (show marR c l = marR c (l.drop (k + 1)) by rw [HP.out, HD.out]; exact (if_neg h1).trans (if_neg (fun e => e.1 h0)))
          subst h0
          have g1 : (f1 == 0) = false := by simp [h1]
          clear h1
          go_wp2
          go_roundw
          case rel => exact ⟨k + 1, by omega, by go_num, HF.out, trivial⟩
          case measure => simp [intOf]; omega
        · by_cases h2 : f2 = c
          · have hX := show (x, q, ok) = (y, true, true) by rw [← HV.out, HP.out, HD.out]; exact (if_neg h1).trans (if_pos ⟨h0, h2⟩)
            simp only [Prod.mk.injEq] at hX
            obtain ⟨rfl, rfl, rfl⟩ := hX
            have g1 : (f1 == c) = false := by simp [h1]
            have g0 : (c != 0) = true := by simp [h0]
            clear h1 h0
            subst h2
            go_wp2
            go_ret3
            exact ⟨rfl, hb1⟩
          · have HF := Lib.hid (show marR c l = marR c (l.drop (k + 1)) by rw [HP.out, HD.out]; exact (if_neg h1).trans (if_neg (fun e => h2 e.2)))
            have g1 : (f1 == c) = false := by simp [h1]
            have g2 : (f2 == c) = false := by simp [h2]
            have g0 : (c != 0) = true := by simp [h0]
            clear h1 h2 h0
            go_wp2
            go_roundw
            case rel => exact ⟨k + 1, by omega, by go_num, HF.out, trivial⟩
            case measure => simp [intOf]; omega
    · have hX := show (x, q, ok) = (0, false, false) by rw [← HV.out, HP.out, List.drop_eq_nil_of_le (by rw [HL.out]; omega)]; rfl
      simp only [Prod.mk.injEq] at hX
      obtain ⟨rfl, rfl, rfl⟩ := hX
      go_wp2
      go_ret3
      exact ⟨rfl, hb1⟩
set_option maxRecDepth 100000 in
set_option maxHeartbeats 1000000 in
theorem refUnpile_any (c x : Int) (ok : Bool) (hv : unpF c = (x, ok)) (w : World) :
    Calls Tryz.prog 46 #[.int .i64 c] w fun e w' => e = .returned (.tuple #[.int .i64 x, .bool ok]) ∧ Below w.heap.size w w' := by
  have hv' : unpR c pilL = (x, ok) := hv
  have HV := Lib.hid hv'
  clear hv hv'
  go_enter Tryz.func46, Tryz.ntmps46
  go_wp2_with fail
  refine (piles_any _).mono ?_
  rintro e w1 ⟨⟨A, rfl, hr⟩, hb1⟩
  have HL := Lib.hid (show pilL.length = 6 from rfl)
  obtain ⟨l, hl⟩ : ∃ l, pilL = l := ⟨_, rfl⟩
  rw [hl] at HV HL hr
  clear hl
  go_wp2
  go_loopw [5] (fun i wr => ∃ (k : Nat), k ≤ 6 ∧ i = .int .i64 k ∧ unpR c l = unpR c (l.drop k) ∧ wr = w1) (fun i _ => 6 - (intOf i).toNat)
  case atStart => exact ⟨0, Nat.zero_le _, rfl, rfl, rfl⟩
  case round =>
    obtain ⟨k, hk, rfl, hp, rfl⟩ := hrel
    have HP := Lib.hid hp
    clear hp
    by_cases hlt : k < 6
    · obtain ⟨s, hsk⟩ : ∃ s, l[k]? = some s := ⟨_, List.getElem?_eq_getElem (by rw [HL.out]; exact hlt)⟩
      obtain ⟨ad, rfl, hab, c1, c2⟩ := hr.span hsk
      have HD := Lib.hid (dropCons hsk)
      clear hsk
      obtain ⟨y, z⟩ := s
      simp only at c1 c2
      by_cases h1 : z = c
      · have hX := show (x, ok) = (y, true) by rw [← HV.out, HP.out, HD.out]; exact if_pos h1
        simp only [Prod.mk.injEq] at hX
        obtain ⟨rfl, rfl⟩ := hX
        subst h1
        go_wp2
        go_ret2
        exact ⟨rfl, hb1⟩
      · have HF := Lib.hid (show unpR c l = unpR c (l.drop (k + 1)) by rw [HP.out, HD.out]; exact if_neg h1)
        have g1 : (z == c) = false := by simp [h1]
        clear h1
        go_wp2
        go_roundw
        case rel => exact ⟨k + 1, by omega, by go_num, HF.out, trivial⟩
        case measure => simp [intOf]; omega
    · have hX := show (x, ok) = (0, false) by rw [← HV.out, HP.out, List.drop_eq_nil_of_le (by rw [HL.out]; omega)]; rfl
      simp only [Prod.mk.injEq] at hX
      obtain ⟨rfl, rfl⟩ := hX
      go_wp2
      go_ret2
      exact ⟨rfl, hb1⟩
end Go.Proofs.YtanngknhbgcobaaGreatDoor
/- The reference's Base. -/
namespace Go.Proofs.YtanngknhbgcobaaGreatDoor
open Go.RowKit
theorem addPlain (B O j : Nat) : (⟨B, O, none⟩ : Addr).add j = ⟨B, O + j, none⟩ := by
  unfold Addr.add
  split
  · rename_i h; subst h; rfl
  · simp
/-- No hit ahead of place j. -/
def NoHit (c : Int) (xs : List Int) (j : Nat) : Prop := c = 0 ∨ c ∉ xs.take j
theorem NoHit.hit {c : Int} {xs : List Int} {j : Nat} (h : NoHit c xs j) (h0 : c ≠ 0) (hj : xs[j]? = some c) : hitF c xs = j + 1 := by
  rw [hit_idx, if_neg h0]
  rcases h with h | h
  · exact absurd h h0
  · exact idx1_at hj h
theorem NoHit.next {c x : Int} {xs : List Int} {j : Nat} (h : NoHit c xs j) (hj : xs[j]? = some x) (hx : c = 0 ∨ x ≠ c) : NoHit c xs (j + 1) := by
  rcases h with h | h
  · exact .inl h
  · rcases hx with hx | hx
    · exact .inl hx
    · refine .inr fun m => ?_
      rw [List.take_add_one, hj] at m
      simp only [Option.toList_some, List.mem_append, List.mem_singleton] at m
      rcases m with m | m
      · exact h m
      · exact hx m.symm
theorem NoHit.none_ {c : Int} {t : Lt} (h : NoHit c (formsOf t) 4) : hitF c (formsOf t) = 0 := by
  refine hitF_none ?_
  rcases h with h | h
  · exact .inl h
  · exact .inr h
set_option maxRecDepth 100000 in
set_option maxHeartbeats 1000000 in
theorem refBase_any (c x q : Int) (ok : Bool) (hv : baseF c = (x, q, ok)) (w : World) :
    Calls Tryz.prog 43 #[.int .i64 c] w fun e w' => e = .returned (.tuple #[.int .i64 x, .int .i64 q, .bool ok]) ∧ Below w.heap.size w w' := by
  have hv' : baseR c letL = (x, q, ok) := hv
  have HL := Lib.hid (show letL.length = 76 by decide +kernel)
  have HLT := Lib.hid (lettersR_any w)
  clear hv
  obtain ⟨l, hl⟩ : ∃ l, letL = l := ⟨_, rfl⟩
  rw [hl] at hv' HL HLT
  have HV := Lib.hid hv'
  clear hl hv'
  go_enter Tryz.func43, Tryz.ntmps43
  go_wp2_with fail
  refine HLT.out.mono ?_
  rintro e w1 ⟨⟨ad, rfl, hr⟩, hb1⟩
  have HR := Lib.hid hr
  clear hr HLT
  go_wp2
  go_loopw [6] (fun i wr => ∃ k : Nat, k ≤ 76 ∧ i = .int .i64 k ∧ baseR c l = baseR c (l.drop k) ∧ wr = w1) (fun i _ => 76 - (intOf i).toNat)
  case atStart => exact ⟨0, Nat.zero_le _, rfl, rfl, rfl⟩
  case round =>
    obtain ⟨k, hk, rfl, hp, rfl⟩ := hrel
    have HP := Lib.hid hp
    clear hp
    by_cases hlt : k < 76
    · obtain ⟨t, hk2⟩ : ∃ t, l[k]? = some t := ⟨_, List.getElem?_eq_getElem (by rw [HL.out]; exact hlt)⟩
      have HF := Lib.hid (HR.out.forms hk2)
      obtain ⟨ad', e', hab, c0, _, _, _, _⟩ := HR.out.lt_ hk2
      injection e' with e'
      subst e'
      have HD := Lib.hid (dropCons hk2)
      obtain ⟨y, hy⟩ : ∃ y, t.1 = y := ⟨_, rfl⟩
      rw [hy] at c0
      have HY := Lib.hid hy
      clear hk2 hy
      go_wp2
      go_loopw [7] (fun i w2 => ∃ j : Nat, j ≤ 4 ∧ i = .int .i64 j ∧ NoHit c (formsOf t) j ∧ w2 = wr) (fun i _ => 4 - (intOf i).toNat)
      case atStart => exact ⟨0, Nat.zero_le _, rfl, .inr (by simp), rfl⟩
      case round =>
        obtain ⟨j, hj, rfl, hn, rfl⟩ := hrel
        have HN := Lib.hid hn
        clear hn
        by_cases hlt4 : j < 4
        · obtain ⟨z, hz⟩ : ∃ z, (formsOf t)[j]? = some z := ⟨_, List.getElem?_eq_getElem (by show j < 4; exact hlt4)⟩
          have cz := HF.out.news j (.int .i64 z) (by rw [List.getElem?_map, hz]; rfl)
          rw [addPlain] at cz
          have HZ := Lib.hid hz
          clear hz
          by_cases h0 : c = 0
          · have HX := Lib.hid (HN.out.next HZ.out (.inl h0))
            subst h0
            go_wp2
            go_roundw
            case rel => exact ⟨j + 1, by omega, by go_num, HX.out, trivial⟩
            case measure => simp [intOf]; omega
          · have g0 : (c != 0) = true := by simp [h0]
            by_cases hzc : z = c
            · have hH := HN.out.hit h0 (by rw [HZ.out, hzc])
              have hX := show (x, q, ok) = (y, ((j + 1 : Nat) : Int), true) by
                rw [← HV.out, HP.out, HD.out, baseR, if_neg (by rw [hH]; omega), hH, HY.out]
              simp only [Prod.mk.injEq] at hX
              obtain ⟨rfl, rfl, rfl⟩ := hX
              subst hzc
              clear hH h0
              go_wp2
              go_ret3
              exact ⟨by rw [show ((j + 1 : Nat) : Int) = (j : Int) + 1 by omega]; rfl, hb1⟩
            · have HX := Lib.hid (HN.out.next HZ.out (.inr hzc))
              have g1 : (z == c) = false := by simp [hzc]
              clear hzc h0
              go_wp2
              go_roundw
              case rel => exact ⟨j + 1, by omega, by go_num, HX.out, trivial⟩
              case measure => simp [intOf]; omega
        · obtain rfl : j = 4 := by omega
          have HX := Lib.hid (show baseR c l = baseR c (l.drop (k + 1)) by rw [HP.out, HD.out, baseR, if_pos HN.out.none_])
          go_wp2
          go_roundw
          case rel => exact ⟨k + 1, by omega, by go_num, HX.out, trivial⟩
          case measure => simp [intOf]; omega
    · have hX := show (x, q, ok) = (0, 0, false) by rw [← HV.out, HP.out, List.drop_eq_nil_of_le (by rw [HL.out]; omega)]; rfl
      simp only [Prod.mk.injEq] at hX
      obtain ⟨rfl, rfl, rfl⟩ := hX
      go_wp2
      go_ret3
      exact ⟨rfl, hb1⟩
end Go.Proofs.YtanngknhbgcobaaGreatDoor
/- The reference's Form, Base, Presented. -/
namespace Go.Proofs.YtanngknhbgcobaaGreatDoor
open Go.RowKit

set_option maxRecDepth 100000 in
set_option maxHeartbeats 1000000 in
theorem refPresented_any (c : Int) (v : Bool) (hv : preF c = v) (w : World) :
    Calls Tryz.prog 19 #[.int .i64 c] w fun e w' => e = .returned (.bool v) ∧ Below w.heap.size w w' := by
  obtain ⟨x0, y0, b0, e0⟩ : ∃ x y b, baseF c = (x, y, b) := ⟨_, _, _, rfl⟩
  obtain ⟨x1, y1, b1, e1⟩ : ∃ x y b, parF c = (x, y, b) := ⟨_, _, _, rfl⟩
  obtain ⟨x2, y2, b2, e2⟩ : ∃ x y b, marF c = (x, y, b) := ⟨_, _, _, rfl⟩
  obtain ⟨x3, b3, e3⟩ : ∃ x b, unpF c = (x, b) := ⟨_, _, rfl⟩
  have hV : v = (b0 || b1 || b2 || b3 || decide (c = 65139)) := by rw [← hv, preF, e0, e1, e2, e3]
  have HV := Lib.hid hV
  have E0 := Lib.hid e0
  have E1 := Lib.hid e1
  have E2 := Lib.hid e2
  have E3 := Lib.hid e3
  clear e0 e1 e2 e3 hv hV
  go_enter Tryz.func19, Tryz.ntmps19
  go_wp2_with fail
  refine (refBase_any c x0 y0 b0 E0.out _).mono ?_
  rintro e w1 ⟨rfl, hb1⟩
  go_wp2_with fail
  refine (refParted_any c x1 y1 b1 E1.out _).mono ?_
  rintro e w2 ⟨rfl, hb⟩
  replace hb1 := below_self hb1 hb
  clear hb
  go_wp2_with fail
  refine (refMark_any c x2 y2 b2 E2.out _).mono ?_
  rintro e w3 ⟨rfl, hb⟩
  replace hb1 := below_self hb1 hb
  clear hb
  go_wp2_with fail
  refine (refUnpile_any c x3 b3 E3.out _).mono ?_
  rintro e w4 ⟨rfl, hb⟩
  replace hb1 := below_self hb1 hb
  clear hb
  by_cases hc : c = 65139
  · have HD := Lib.hid (show v = true by rw [HV.out, hc]; simp)
    subst hc
    cases b0 <;> cases b1 <;> cases b2 <;> cases b3
    all_goals (
      go_wp2
      go_ret
      exact ⟨by rw [HD.out]; rfl, hb1⟩)
  · have HD := Lib.hid (show v = (b0 || b1 || b2 || b3) by rw [HV.out]; simp [hc])
    have g1 : (c == 65139) = false := by simp [hc]
    clear hc
    cases b0 <;> cases b1 <;> cases b2 <;> cases b3
    all_goals (
      go_wp2
      go_ret
      exact ⟨by rw [HD.out]; rfl, hb1⟩)
end Go.Proofs.YtanngknhbgcobaaGreatDoor
