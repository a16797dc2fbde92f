/- Options: slices.Contains at []bool, either, kindsOf, nearest. -/
import Derived.Test.YtcdogkabdhbjmaaDoorOpD
import Derived.Test.YtcdogkabdhbjmaaDoorArrEq
import Derived.Test.YtcdogkabdhbjmaaDoorMem3
import Derived.Laws.ResultCell
namespace Go.Proofs.YtcdogkabdhbjmaaDoor
open Go.RowKit

theorem rdBools (w : World) (l : List Bool) (t : TypeId) : Rd (w.alloc (.cells (l.map Value.bool).toArray t)) 1 (some ⟨w.heap.size, 0, none⟩) l.length (l.map Value.bool) := by
  have := Rd.new_ w (l.map Value.bool) t
  rwa [List.length_map] at this
set_option maxRecDepth 100000 in
theorem indexB_any (A : Option Addr) (n c : Nat) (xs : List Bool) (y : Bool) (hy : xs.any id = y) (w : World) (hr : Rd w 1 A n (xs.map Value.bool)) (hn : n ≤ 1000) :
    Calls Tryd.prog 60 #[.slice A n c, .bool true] w fun e w' => (∃ r : Int, e = .returned (.int .i64 r) ∧ decide (0 ≤ r) = y) ∧ w = w' := by
  have HY := Lib.hid hy
  clear hy
  have hlen : xs.length = n := by simpa using hr.len1
  have HL := Lib.hid hlen
  clear hlen
  go_enter Tryd.func60, Tryd.ntmps60
  go_wp2
  go_loop [8] (fun i => ∃ k : Nat, k ≤ n ∧ i = .int .i64 k ∧ (xs.take k).any id = false) (fun i => n - (intOf i).toNat)
  case atStart => exact ⟨0, Nat.zero_le _, rfl, rfl⟩
  case round =>
    obtain ⟨k, hk, rfl, hno⟩ := hrel
    have HN := Lib.hid hno
    clear hno
    by_cases hlt : k < n
    · obtain ⟨s, hsk⟩ : ∃ s, xs[k]? = some s := ⟨_, List.getElem?_eq_getElem (by rw [HL.out]; exact hlt)⟩
      obtain ⟨ad, rfl, _, hc⟩ := hr.at_ hlt
      have cs : w.cell? (ad.add k) = some (.bool s) := hc _ (by rw [List.getElem?_map, hsk]; rfl)
      have HS := Lib.hid hsk
      clear hsk hc
      cases s with
      | true =>
        have HM := Lib.hid (show y = true from HY.out.symm.trans (List.any_eq_true.2 ⟨true, List.mem_of_getElem? HS.out, rfl⟩))
        go_wp2
        go_ret
        exact ⟨⟨_, rfl, by rw [HM.out]; exact decide_eq_true (by omega)⟩, rfl⟩
      | false =>
        have HX := Lib.hid (show (xs.take (k + 1)).any id = false by
          rw [List.take_add_one, HS.out, List.any_append, HN.out]
          rfl)
        go_wp2
        go_round
        case rel => exact ⟨k + 1, by omega, by go_num, HX.out⟩
        case measure => simp [intOf]; omega
    · have HF := Lib.hid (show y = false by have := HN.out; rw [List.take_of_length_le (by rw [HL.out]; omega)] at this; exact HY.out.symm.trans this)
      go_wp2
      go_ret
      exact ⟨⟨-1, rfl, by rw [HF.out]; rfl⟩, rfl⟩
theorem containsB_any (A : Option Addr) (n c : Nat) (xs : List Bool) (y : Bool) (hy : xs.any id = y) (w : World) (hr : Rd w 1 A n (xs.map Value.bool)) (hn : n ≤ 1000) :
    Calls Tryd.prog 51 #[.slice A n c, .bool true] w fun e w' => e = .returned (.bool y) ∧ w = w' := by
  have HC := Lib.hid (indexB_any A n c xs y hy w hr hn)
  clear hr hy
  go_enter Tryd.func51, Tryd.ntmps51
  go_wp2_with fail
  refine HC.out.mono ?_
  rintro e w1 ⟨⟨r, rfl, hi⟩, rfl⟩
  have HI := Lib.hid hi
  clear hi HC
  go_wp2
  go_ret
  exact ⟨by rw [← HI.out]; rfl, rfl⟩
theorem either_any (A : Option Addr) (n c : Nat) (xs : List Bool) (y : Bool) (hy : xs.any id = y) (w : World) (hr : Rd w 1 A n (xs.map Value.bool)) (hn : n ≤ 1000) :
    Calls Tryd.prog 31 #[.slice A n c] w fun e w' => e = .returned (.bool y) ∧ w = w' := by
  have HC := Lib.hid (containsB_any A n c xs y hy w hr hn)
  clear hr hy
  go_enter Tryd.func31, Tryd.ntmps31
  go_wp2_with fail
  refine HC.out.mono ?_
  rintro e w1 ⟨rfl, rfl⟩
  go_wp2
  go_ret
  exact ⟨rfl, rfl⟩

/-- Four cells of whole numbers, in a block that may be written. -/
def FourAt (W : World) (b : Nat) (x0 x1 x2 x3 : Int) : Prop := (W.cell? ⟨b, 0, none⟩ = some (.int .i64 x0) ∧ W.cell? ⟨b, 1, none⟩ = some (.int .i64 x1) ∧ W.cell? ⟨b, 2, none⟩ = some (.int .i64 x2) ∧ W.cell? ⟨b, 3, none⟩ = some (.int .i64 x3)) ∧ ∀ i, W.frozen? ⟨b, i, none⟩ = false
theorem FourAt.below {W W' : World} {b : Nat} {x0 x1 x2 x3 : Int} (h : FourAt W b x0 x1 x2 x3) (hb : Below W.heap.size W W') : FourAt W' b x0 x1 x2 x3 := by
  have hl : b < W.heap.size := cell_lt h.1.1
  obtain ⟨⟨d0, d1, d2, d3⟩, hf⟩ := h
  exact ⟨⟨cell_below hb d0, cell_below hb d1, cell_below hb d2, cell_below hb d3⟩, fun i => (hb.frozen hl).trans (hf i)⟩
theorem frozen_set (W : World) (a c : Addr) (v : Value) : (W.setCell a v).frozen? c = W.frozen? c := by simp [go_sem]
theorem below_setK {w wr : World} {b : Nat} (h : Below w.heap.size w wr) (hb : w.heap.size ≤ b) (j : Nat) (u : Value) : Below w.heap.size w (wr.setCell ⟨b, j, none⟩ u) :=
  ⟨h.os, h.tape, h.output, by simpa [World.setCell] using h.size, fun i hi => (Below.heap_setCell wr ⟨b, j, none⟩ u i (by simp only; omega)).trans (h.block i hi)⟩
theorem set_same {W : World} {b j : Nat} {u v : Value} (h : W.cell? ⟨b, j, none⟩ = some u) : (W.setCell ⟨b, j, none⟩ v).cell? ⟨b, j, none⟩ = some v := World.cell?_setCell_same (h := h) ..
theorem set_other {W : World} {b j i : Nat} {u v : Value} (h : W.cell? ⟨b, i, none⟩ = some u) (hne : i ≠ j) : (W.setCell ⟨b, j, none⟩ v).cell? ⟨b, i, none⟩ = some u := (World.cell?_setCell_other (h := fun e => hne (by injection e with _ e2 _; exact e2.symm)) ..).trans h
theorem FourAt.set0 {W : World} {b : Nat} {x0 x1 x2 x3 : Int} (h : FourAt W b x0 x1 x2 x3) (u : Int) : FourAt (W.setCell ⟨b, 0, none⟩ (.int .i64 u)) b u x1 x2 x3 :=
  ⟨⟨set_same h.1.1, set_other h.1.2.1 (by omega), set_other h.1.2.2.1 (by omega), set_other h.1.2.2.2 (by omega)⟩, fun i => (frozen_set ..).trans (h.2 i)⟩
theorem FourAt.set1 {W : World} {b : Nat} {x0 x1 x2 x3 : Int} (h : FourAt W b x0 x1 x2 x3) (u : Int) : FourAt (W.setCell ⟨b, 1, none⟩ (.int .i64 u)) b x0 u x2 x3 :=
  ⟨⟨set_other h.1.1 (by omega), set_same h.1.2.1, set_other h.1.2.2.1 (by omega), set_other h.1.2.2.2 (by omega)⟩, fun i => (frozen_set ..).trans (h.2 i)⟩
theorem FourAt.set2 {W : World} {b : Nat} {x0 x1 x2 x3 : Int} (h : FourAt W b x0 x1 x2 x3) (u : Int) : FourAt (W.setCell ⟨b, 2, none⟩ (.int .i64 u)) b x0 x1 u x3 :=
  ⟨⟨set_other h.1.1 (by omega), set_other h.1.2.1 (by omega), set_same h.1.2.2.1, set_other h.1.2.2.2 (by omega)⟩, fun i => (frozen_set ..).trans (h.2 i)⟩
theorem FourAt.set3 {W : World} {b : Nat} {x0 x1 x2 x3 : Int} (h : FourAt W b x0 x1 x2 x3) (u : Int) : FourAt (W.setCell ⟨b, 3, none⟩ (.int .i64 u)) b x0 x1 x2 u :=
  ⟨⟨set_other h.1.1 (by omega), set_other h.1.2.1 (by omega), set_other h.1.2.2.1 (by omega), set_same h.1.2.2.2⟩, fun i => (frozen_set ..).trans (h.2 i)⟩
theorem size_alloc (w : World) (o : Obj) : (w.alloc o).heap.size = w.heap.size + 1 := by simp
theorem FourAt.new_ (w : World) (x0 x1 x2 x3 : Int) (T : TypeId) : FourAt (w.alloc (.cells #[.int .i64 x0, .int .i64 x1, .int .i64 x2, .int .i64 x3] T)) w.heap.size x0 x1 x2 x3 := by
  refine ⟨⟨?_, ?_, ?_, ?_⟩, fun i => by simp [go_sem]⟩ <;> (rw [World.cell?_alloc_at _ _ _ _ rfl]; rfl)
/-- The sizes of the kinds, as the program lays them. -/
def KindsAt (w : World) : Prop := w.cell? ⟨1, 0, none⟩ = some (.int .i64 4) ∧ w.cell? ⟨1, 1, none⟩ = some (.int .i64 5) ∧ w.cell? ⟨1, 2, none⟩ = some (.int .i64 5) ∧ w.cell? ⟨1, 3, none⟩ = some (.int .i64 5)
theorem KindsAt.below {w w' : World} (h : KindsAt w) (hb : Below w.heap.size w w') : KindsAt w' := ⟨cell_below hb h.1, cell_below hb h.2.1, cell_below hb h.2.2.1, cell_below hb h.2.2.2⟩

set_option maxRecDepth 100000 in
set_option maxHeartbeats 4000000 in
theorem opKinds_any (d l t g : Int) (b0 b1 b2 b3 b4 b5 b6 b7 b8 b9 : Bool) (w : World) :
    Calls Tryd.prog 29 #[.agg #[.int .i64 d, .int .i64 l, .int .i64 t, .int .i64 g, .bool b0, .bool b1, .bool b2, .bool b3, .bool b4, .bool b5, .bool b6, .bool b7, .bool b8, .bool b9]] w fun e w' => e = .returned (.agg #[.int .i64 d, .int .i64 l, .int .i64 t, .int .i64 g]) ∧ Below w.heap.size w w' := by
  go_enter Tryd.func29, Tryd.ntmps29
  go_wp2
  have hF := FourAt.new_ (w.alloc (.cells #[.int .i64 d, .int .i64 l, .int .i64 t, .int .i64 g, .bool b0, .bool b1, .bool b2, .bool b3, .bool b4, .bool b5, .bool b6, .bool b7, .bool b8, .bool b9] 23)) d l t g 47
  rw [size_alloc] at hF
  obtain ⟨⟨e0, e1, e2, e3⟩, _⟩ := hF
  refine bodyPost_ret (v := .agg #[.int .i64 d, .int .i64 l, .int .i64 t, .int .i64 g]) ?_ rfl ⟨rfl, below_self (below_new _ _) (below_new _ _)⟩
  simp [results, Tryd.results29, go_sem, e0, e1, e2, e3]
/-- A kind within its size. -/
def nrF (m x : Int) : Int := if m < (if x < 0 then 0 else x) then m else if x < 0 then 0 else x
def NearAt (w : World) (b : Nat) (d l t g : Int) (k : Nat) (wr : World) : Prop := FourAt wr b (if 0 < k then nrF 3 d else d) (if 1 < k then nrF 4 l else l) (if 2 < k then nrF 4 t else t) (if 3 < k then nrF 4 g else g) ∧ Below w.heap.size w wr ∧ FourAt wr (b + 1) 0 0 0 0
theorem FourAt.far {W : World} {b c : Nat} {x0 x1 x2 x3 : Int} (h : FourAt W b x0 x1 x2 x3) (hc : b ≠ c) (j : Nat) (u : Value) : FourAt (W.setCell ⟨c, j, none⟩ u) b x0 x1 x2 x3 :=
  ⟨⟨(World.cell?_setCell_other (h := fun e => hc (by injection e with e1 _ _; exact e1.symm)) ..).trans h.1.1, (World.cell?_setCell_other (h := fun e => hc (by injection e with e1 _ _; exact e1.symm)) ..).trans h.1.2.1, (World.cell?_setCell_other (h := fun e => hc (by injection e with e1 _ _; exact e1.symm)) ..).trans h.1.2.2.1, (World.cell?_setCell_other (h := fun e => hc (by injection e with e1 _ _; exact e1.symm)) ..).trans h.1.2.2.2⟩, fun i => (frozen_set ..).trans (h.2 i)⟩
set_option maxRecDepth 100000 in
set_option maxHeartbeats 4000000 in
theorem opNearest_any (d l t g : Int) (w : World) (hK : KindsAt w) :
    Calls Tryd.prog 30 #[.agg #[.int .i64 d, .int .i64 l, .int .i64 t, .int .i64 g]] w fun e w' => e = .returned (.agg #[.int .i64 (nrF 3 d), .int .i64 (nrF 4 l), .int .i64 (nrF 4 t), .int .i64 (nrF 4 g)]) ∧ Below w.heap.size w w' := by
  have hb0 := below_new w (.cells #[.int .i64 d, .int .i64 l, .int .i64 t, .int .i64 g] 47)
  have hb1 := below_self hb0 (below_new (w.alloc (.cells #[.int .i64 d, .int .i64 l, .int .i64 t, .int .i64 g] 47)) (.cells #[.int .i64 0, .int .i64 0, .int .i64 0, .int .i64 0] 47))
  obtain ⟨z0, z1, z2, z3⟩ := hK.below hb1
  have HF := Lib.hid ((FourAt.new_ w d l t g 47).below (below_new (w.alloc (.cells #[.int .i64 d, .int .i64 l, .int .i64 t, .int .i64 g] 47)) (.cells #[.int .i64 0, .int .i64 0, .int .i64 0, .int .i64 0] 47)))
  have HB1 := Lib.hid hb1
  clear hb0 hb1 hK
  go_enter Tryd.func30, Tryd.ntmps30
  have i0 : ∀ w, (Instr.index 46 (.agg #[.int .i64 4, .int .i64 5, .int .i64 5, .int .i64 5]) (.int .i64 0)).run Tryd.prog w = .ok (.int .i64 4) w := fun _ => by kernel_rfl
  have i1 : ∀ w, (Instr.index 46 (.agg #[.int .i64 4, .int .i64 5, .int .i64 5, .int .i64 5]) (.int .i64 1)).run Tryd.prog w = .ok (.int .i64 5) w := fun _ => by kernel_rfl
  have i2 : ∀ w, (Instr.index 46 (.agg #[.int .i64 4, .int .i64 5, .int .i64 5, .int .i64 5]) (.int .i64 2)).run Tryd.prog w = .ok (.int .i64 5) w := fun _ => by kernel_rfl
  have i3 : ∀ w, (Instr.index 46 (.agg #[.int .i64 4, .int .i64 5, .int .i64 5, .int .i64 5]) (.int .i64 3)).run Tryd.prog w = .ok (.int .i64 5) w := fun _ => by kernel_rfl
  go_wp2
  have HN0 := Lib.hid (show NearAt w w.heap.size d l t g 0 _ from ⟨HF.out, HB1.out, by have := FourAt.new_ (w.alloc (.cells #[.int .i64 d, .int .i64 l, .int .i64 t, .int .i64 g] 47)) 0 0 0 0 47; rwa [size_alloc] at this⟩)
  clear HF HB1 z0 z1 z2 z3
  go_loopw [6] (fun i wr => ∃ k : Nat, k ≤ 4 ∧ i = .int .i64 k ∧ NearAt w w.heap.size d l t g k wr) (fun i _ => 4 - (intOf i).toNat)
  case atStart => exact ⟨0, Nat.zero_le _, rfl, HN0.out⟩
  case round =>
    clear HN0
    obtain ⟨k, hk, rfl, hN⟩ := hrel
    have hcase : k = 0 ∨ k = 1 ∨ k = 2 ∨ k = 3 ∨ k = 4 := by omega
    clear hk
    rcases hcase with rfl | rfl | rfl | rfl | rfl
    · have hF : FourAt wr w.heap.size d l t g := hN.1
      have hb := hN.2.1
      have h2 := hN.2.2
      have HX := Lib.hid (show NearAt w w.heap.size d l t g 1 (wr.setCell ⟨w.heap.size, 0, none⟩ (.int .i64 (nrF 3 d))) from ⟨hF.set0 _, below_setK hb (Nat.le_refl _) _ _, h2.far (by omega) _ _⟩)
      obtain ⟨⟨d0, d1, d2, d3⟩, hf⟩ := hF
      have hf0 := hf 0
      have hlt := cell_lt d0
      clear hN hf h2 hb
      go_wp2
      go_roundw
      case rel => exact ⟨1, by omega, by go_num, HX.out⟩
      case measure => simp [intOf]
    · have hF : FourAt wr w.heap.size (nrF 3 d) l t g := hN.1
      have hb := hN.2.1
      have h2 := hN.2.2
      have HX := Lib.hid (show NearAt w w.heap.size d l t g 2 (wr.setCell ⟨w.heap.size, 1, none⟩ (.int .i64 (nrF 4 l))) from ⟨hF.set1 _, below_setK hb (Nat.le_refl _) _ _, h2.far (by omega) _ _⟩)
      obtain ⟨⟨d0, d1, d2, d3⟩, hf⟩ := hF
      have hf0 := hf 1
      have hlt := cell_lt d0
      clear hN hf h2 hb
      go_wp2
      go_roundw
      case rel => exact ⟨2, by omega, by go_num, HX.out⟩
      case measure => simp [intOf]
    · have hF : FourAt wr w.heap.size (nrF 3 d) (nrF 4 l) t g := hN.1
      have hb := hN.2.1
      have h2 := hN.2.2
      have HX := Lib.hid (show NearAt w w.heap.size d l t g 3 (wr.setCell ⟨w.heap.size, 2, none⟩ (.int .i64 (nrF 4 t))) from ⟨hF.set2 _, below_setK hb (Nat.le_refl _) _ _, h2.far (by omega) _ _⟩)
      obtain ⟨⟨d0, d1, d2, d3⟩, hf⟩ := hF
      have hf0 := hf 2
      have hlt := cell_lt d0
      clear hN hf h2 hb
      go_wp2
      go_roundw
      case rel => exact ⟨3, by omega, by go_num, HX.out⟩
      case measure => simp [intOf]
    · have hF : FourAt wr w.heap.size (nrF 3 d) (nrF 4 l) (nrF 4 t) g := hN.1
      have hb := hN.2.1
      have h2 := hN.2.2
      have HX := Lib.hid (show NearAt w w.heap.size d l t g 4 (wr.setCell ⟨w.heap.size, 3, none⟩ (.int .i64 (nrF 4 g))) from ⟨hF.set3 _, below_setK hb (Nat.le_refl _) _ _, h2.far (by omega) _ _⟩)
      obtain ⟨⟨d0, d1, d2, d3⟩, hf⟩ := hF
      have hf0 := hf 3
      have hlt := cell_lt d0
      clear hN hf h2 hb
      go_wp2
      go_roundw
      case rel => exact ⟨4, by omega, by go_num, HX.out⟩
      case measure => simp [intOf]
    · have hF : FourAt wr w.heap.size (nrF 3 d) (nrF 4 l) (nrF 4 t) (nrF 4 g) := hN.1
      have HB := Lib.hid hN.2.1
      have h2 := hN.2.2
      have H2 := Lib.hid h2
      obtain ⟨⟨d0, d1, d2, d3⟩, _⟩ := hF
      obtain ⟨⟨q0, q1, q2, q3⟩, hf⟩ := h2
      have hf0 := hf 0
      have hf1 := hf 1
      have hf2 := hf 2
      have hf3 := hf 3
      have hlt := cell_lt d0
      have hlt2 := cell_lt q0
      simp only at hlt hlt2
      clear hN hf
      go_wp2
      (try simp only [Exit.inBlock, Exit.then])
      obtain ⟨⟨e0, e1, e2, e3⟩, _⟩ := (((H2.out.set0 (nrF 3 d)).set1 (nrF 4 l)).set2 (nrF 4 t)).set3 (nrF 4 g)
      refine bodyPost_ret (v := .agg #[.int .i64 (nrF 3 d), .int .i64 (nrF 4 l), .int .i64 (nrF 4 t), .int .i64 (nrF 4 g)]) ?_ rfl ⟨rfl, ?_⟩
      · simp [results, Tryd.results30, go_sem, e0, e1, e2, e3]
      · refine below_setK (below_setK (below_setK (below_setK HB.out ?_ _ _) ?_ _ _) ?_ _ _) ?_ _ _ <;> omega
end Go.Proofs.YtcdogkabdhbjmaaDoor
