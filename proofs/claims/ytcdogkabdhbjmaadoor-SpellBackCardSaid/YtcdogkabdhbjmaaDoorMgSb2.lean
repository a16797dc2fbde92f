/- Texts of one claim, one behind the other. -/
import Derived.Laws.ResultCell
import Derived.Laws.BitsAllLaws
import Derived.Laws.BitsLemmas
import Derived.StillTailTactics
import Derived.Test.YtcdogkabdhbjmaaDoorMgSb1
/- Options: slices.Contains at []bool, either, kindsOf, nearest. -/
namespace Go.Proofs.YtcdogkabdhbjmaaDoor
open Go.RowKit

theorem rdBools (w : World) (l : List Bool) (t : TypeId) : Rd (w.alloc (.cells (l.map Value.bool).toArray t)) 1 (some ⟨w.heap.size, 0, none⟩) l.length (l.map Value.bool) := by
  have := Rd.new_ w (l.map Value.bool) t
  rwa [List.length_map] at this
set_option maxRecDepth 100000 in
theorem indexB_any (A : Option Addr) (n c : Nat) (xs : List Bool) (y : Bool) (hy : xs.any id = y) (w : World) (hr : Rd w 1 A n (xs.map Value.bool)) (hn : n ≤ 1000) :
    Calls Tryd.prog 60 #[.slice A n c, .bool true] w fun e w' => (∃ r : Int, e = .returned (.int .i64 r) ∧ decide (0 ≤ r) = y) ∧ w = w' := by
  have HY := Lib.hid hy
  clear hy
  have hlen : xs.length = n := by simpa using hr.len1
  have HL := Lib.hid hlen
  clear hlen
  go_enter Tryd.func60, Tryd.ntmps60
  go_wp2
  go_loop [8] (fun i => ∃ k : Nat, k ≤ n ∧ i = .int .i64 k ∧ (xs.take k).any id = false) (fun i => n - (intOf i).toNat)
  case atStart => exact ⟨0, Nat.zero_le _, rfl, rfl⟩
  case round =>
    obtain ⟨k, hk, rfl, hno⟩ := hrel
    have HN := Lib.hid hno
    clear hno
    by_cases hlt : k < n
    · obtain ⟨s, hsk⟩ : ∃ s, xs[k]? = some s := ⟨_, List.getElem?_eq_getElem (by rw [HL.out]; exact hlt)⟩
      obtain ⟨ad, rfl, _, hc⟩ := hr.at_ hlt
      have cs : w.cell? (ad.add k) = some (.bool s) := hc _ (by rw [List.getElem?_map, hsk]; rfl)
      have HS := Lib.hid hsk
      clear hsk hc
      cases s with
      | true =>
        have HM := Lib.hid (show y = true from HY.out.symm.trans (List.any_eq_true.2 ⟨true, List.mem_of_getElem? HS.out, rfl⟩))
        go_wp2
        go_ret
        exact ⟨⟨_, rfl, by rw [HM.out]; exact decide_eq_true (by omega)⟩, rfl⟩
      | false =>
        have HX := Lib.hid (show (xs.take (k + 1)).any id = false by
          rw [List.take_add_one, HS.out, List.any_append, HN.out]
          rfl)
        go_wp2
        go_round
        case rel => exact ⟨k + 1, by omega, by go_num, HX.out⟩
        case measure => simp [intOf]; omega
    · have HF := Lib.hid (show y = false by have := HN.out; rw [List.take_of_length_le (by rw [HL.out]; omega)] at this; exact HY.out.symm.trans this)
      go_wp2
      go_ret
      exact ⟨⟨-1, rfl, by rw [HF.out]; rfl⟩, rfl⟩
theorem containsB_any (A : Option Addr) (n c : Nat) (xs : List Bool) (y : Bool) (hy : xs.any id = y) (w : World) (hr : Rd w 1 A n (xs.map Value.bool)) (hn : n ≤ 1000) :
    Calls Tryd.prog 51 #[.slice A n c, .bool true] w fun e w' => e = .returned (.bool y) ∧ w = w' := by
  have HC := Lib.hid (indexB_any A n c xs y hy w hr hn)
  clear hr hy
  go_enter Tryd.func51, Tryd.ntmps51
  go_wp2_with fail
  refine HC.out.mono ?_
  rintro e w1 ⟨⟨r, rfl, hi⟩, rfl⟩
  have HI := Lib.hid hi
  clear hi HC
  go_wp2
  go_ret
  exact ⟨by rw [← HI.out]; rfl, rfl⟩
theorem either_any (A : Option Addr) (n c : Nat) (xs : List Bool) (y : Bool) (hy : xs.any id = y) (w : World) (hr : Rd w 1 A n (xs.map Value.bool)) (hn : n ≤ 1000) :
    Calls Tryd.prog 31 #[.slice A n c] w fun e w' => e = .returned (.bool y) ∧ w = w' := by
  have HC := Lib.hid (containsB_any A n c xs y hy w hr hn)
  clear hr hy
  go_enter Tryd.func31, Tryd.ntmps31
  go_wp2_with fail
  refine HC.out.mono ?_
  rintro e w1 ⟨rfl, rfl⟩
  go_wp2
  go_ret
  exact ⟨rfl, rfl⟩

/-- Four cells of whole numbers, in a block that may be written. -/
def FourAt (W : World) (b : Nat) (x0 x1 x2 x3 : Int) : Prop := (W.cell? ⟨b, 0, none⟩ = some (.int .i64 x0) ∧ W.cell? ⟨b, 1, none⟩ = some (.int .i64 x1) ∧ W.cell? ⟨b, 2, none⟩ = some (.int .i64 x2) ∧ W.cell? ⟨b, 3, none⟩ = some (.int .i64 x3)) ∧ ∀ i, W.frozen? ⟨b, i, none⟩ = false
theorem FourAt.below {W W' : World} {b : Nat} {x0 x1 x2 x3 : Int} (h : FourAt W b x0 x1 x2 x3) (hb : Below W.heap.size W W') : FourAt W' b x0 x1 x2 x3 := by
  have hl : b < W.heap.size := cell_lt h.1.1
  obtain ⟨⟨d0, d1, d2, d3⟩, hf⟩ := h
  exact ⟨⟨cell_below hb d0, cell_below hb d1, cell_below hb d2, cell_below hb d3⟩, fun i => (hb.frozen hl).trans (hf i)⟩
theorem frozen_set (W : World) (a c : Addr) (v : Value) : (W.setCell a v).frozen? c = W.frozen? c := by simp [go_sem]
theorem below_setK {w wr : World} {b : Nat} (h : Below w.heap.size w wr) (hb : w.heap.size ≤ b) (j : Nat) (u : Value) : Below w.heap.size w (wr.setCell ⟨b, j, none⟩ u) :=
  ⟨h.os, h.tape, h.output, by simpa [World.setCell] using h.size, fun i hi => (Below.heap_setCell wr ⟨b, j, none⟩ u i (by simp only; omega)).trans (h.block i hi)⟩
theorem set_same {W : World} {b j : Nat} {u v : Value} (h : W.cell? ⟨b, j, none⟩ = some u) : (W.setCell ⟨b, j, none⟩ v).cell? ⟨b, j, none⟩ = some v := World.cell?_setCell_same (h := h) ..
theorem set_other {W : World} {b j i : Nat} {u v : Value} (h : W.cell? ⟨b, i, none⟩ = some u) (hne : i ≠ j) : (W.setCell ⟨b, j, none⟩ v).cell? ⟨b, i, none⟩ = some u := (World.cell?_setCell_other (h := fun e => hne (by injection e with _ e2 _; exact e2.symm)) ..).trans h
theorem FourAt.set0 {W : World} {b : Nat} {x0 x1 x2 x3 : Int} (h : FourAt W b x0 x1 x2 x3) (u : Int) : FourAt (W.setCell ⟨b, 0, none⟩ (.int .i64 u)) b u x1 x2 x3 :=
  ⟨⟨set_same h.1.1, set_other h.1.2.1 (by omega), set_other h.1.2.2.1 (by omega), set_other h.1.2.2.2 (by omega)⟩, fun i => (frozen_set ..).trans (h.2 i)⟩
theorem FourAt.set1 {W : World} {b : Nat} {x0 x1 x2 x3 : Int} (h : FourAt W b x0 x1 x2 x3) (u : Int) : FourAt (W.setCell ⟨b, 1, none⟩ (.int .i64 u)) b x0 u x2 x3 :=
  ⟨⟨set_other h.1.1 (by omega), set_same h.1.2.1, set_other h.1.2.2.1 (by omega), set_other h.1.2.2.2 (by omega)⟩, fun i => (frozen_set ..).trans (h.2 i)⟩
theorem FourAt.set2 {W : World} {b : Nat} {x0 x1 x2 x3 : Int} (h : FourAt W b x0 x1 x2 x3) (u : Int) : FourAt (W.setCell ⟨b, 2, none⟩ (.int .i64 u)) b x0 x1 u x3 :=
  ⟨⟨set_other h.1.1 (by omega), set_other h.1.2.1 (by omega), set_same h.1.2.2.1, set_other h.1.2.2.2 (by omega)⟩, fun i => (frozen_set ..).trans (h.2 i)⟩
theorem FourAt.set3 {W : World} {b : Nat} {x0 x1 x2 x3 : Int} (h : FourAt W b x0 x1 x2 x3) (u : Int) : FourAt (W.setCell ⟨b, 3, none⟩ (.int .i64 u)) b x0 x1 x2 u :=
  ⟨⟨set_other h.1.1 (by omega), set_other h.1.2.1 (by omega), set_other h.1.2.2.1 (by omega), set_same h.1.2.2.2⟩, fun i => (frozen_set ..).trans (h.2 i)⟩
theorem size_alloc (w : World) (o : Obj) : (w.alloc o).heap.size = w.heap.size + 1 := by simp
theorem FourAt.new_ (w : World) (x0 x1 x2 x3 : Int) (T : TypeId) : FourAt (w.alloc (.cells #[.int .i64 x0, .int .i64 x1, .int .i64 x2, .int .i64 x3] T)) w.heap.size x0 x1 x2 x3 := by
  refine ⟨⟨?_, ?_, ?_, ?_⟩, fun i => by simp [go_sem]⟩ <;> (rw [World.cell?_alloc_at _ _ _ _ rfl]; rfl)
/-- The sizes of the kinds, as the program lays them. -/
def KindsAt (w : World) : Prop := w.cell? ⟨1, 0, none⟩ = some (.int .i64 4) ∧ w.cell? ⟨1, 1, none⟩ = some (.int .i64 5) ∧ w.cell? ⟨1, 2, none⟩ = some (.int .i64 5) ∧ w.cell? ⟨1, 3, none⟩ = some (.int .i64 5)
theorem KindsAt.below {w w' : World} (h : KindsAt w) (hb : Below w.heap.size w w') : KindsAt w' := ⟨cell_below hb h.1, cell_below hb h.2.1, cell_below hb h.2.2.1, cell_below hb h.2.2.2⟩

set_option maxRecDepth 100000 in
set_option maxHeartbeats 4000000 in
theorem opKinds_any (d l t g : Int) (b0 b1 b2 b3 b4 b5 b6 b7 b8 b9 : Bool) (w : World) :
    Calls Tryd.prog 29 #[.agg #[.int .i64 d, .int .i64 l, .int .i64 t, .int .i64 g, .bool b0, .bool b1, .bool b2, .bool b3, .bool b4, .bool b5, .bool b6, .bool b7, .bool b8, .bool b9]] w fun e w' => e = .returned (.agg #[.int .i64 d, .int .i64 l, .int .i64 t, .int .i64 g]) ∧ Below w.heap.size w w' := by
  go_enter Tryd.func29, Tryd.ntmps29
  go_wp2
  have hF := FourAt.new_ (w.alloc (.cells #[.int .i64 d, .int .i64 l, .int .i64 t, .int .i64 g, .bool b0, .bool b1, .bool b2, .bool b3, .bool b4, .bool b5, .bool b6, .bool b7, .bool b8, .bool b9] 23)) d l t g 47
  rw [size_alloc] at hF
  obtain ⟨⟨e0, e1, e2, e3⟩, _⟩ := hF
  refine bodyPost_ret (v := .agg #[.int .i64 d, .int .i64 l, .int .i64 t, .int .i64 g]) ?_ rfl ⟨rfl, below_self (below_new _ _) (below_new _ _)⟩
  simp [results, Tryd.results29, go_sem, e0, e1, e2, e3]
/-- A kind within its size. -/
def nrF (m x : Int) : Int := if m < (if x < 0 then 0 else x) then m else if x < 0 then 0 else x
def NearAt (w : World) (b : Nat) (d l t g : Int) (k : Nat) (wr : World) : Prop := FourAt wr b (if 0 < k then nrF 3 d else d) (if 1 < k then nrF 4 l else l) (if 2 < k then nrF 4 t else t) (if 3 < k then nrF 4 g else g) ∧ Below w.heap.size w wr ∧ FourAt wr (b + 1) 0 0 0 0
theorem FourAt.far {W : World} {b c : Nat} {x0 x1 x2 x3 : Int} (h : FourAt W b x0 x1 x2 x3) (hc : b ≠ c) (j : Nat) (u : Value) : FourAt (W.setCell ⟨c, j, none⟩ u) b x0 x1 x2 x3 :=
  ⟨⟨(World.cell?_setCell_other (h := fun e => hc (by injection e with e1 _ _; exact e1.symm)) ..).trans h.1.1, (World.cell?_setCell_other (h := fun e => hc (by injection e with e1 _ _; exact e1.symm)) ..).trans h.1.2.1, (World.cell?_setCell_other (h := fun e => hc (by injection e with e1 _ _; exact e1.symm)) ..).trans h.1.2.2.1, (World.cell?_setCell_other (h := fun e => hc (by injection e with e1 _ _; exact e1.symm)) ..).trans h.1.2.2.2⟩, fun i => (frozen_set ..).trans (h.2 i)⟩
set_option maxRecDepth 100000 in
set_option maxHeartbeats 4000000 in
theorem opNearest_any (d l t g : Int) (w : World) (hK : KindsAt w) :
    Calls Tryd.prog 30 #[.agg #[.int .i64 d, .int .i64 l, .int .i64 t, .int .i64 g]] w fun e w' => e = .returned (.agg #[.int .i64 (nrF 3 d), .int .i64 (nrF 4 l), .int .i64 (nrF 4 t), .int .i64 (nrF 4 g)]) ∧ Below w.heap.size w w' := by
  have hb0 := below_new w (.cells #[.int .i64 d, .int .i64 l, .int .i64 t, .int .i64 g] 47)
  have hb1 := below_self hb0 (below_new (w.alloc (.cells #[.int .i64 d, .int .i64 l, .int .i64 t, .int .i64 g] 47)) (.cells #[.int .i64 0, .int .i64 0, .int .i64 0, .int .i64 0] 47))
  obtain ⟨z0, z1, z2, z3⟩ := hK.below hb1
  have HF := Lib.hid ((FourAt.new_ w d l t g 47).below (below_new (w.alloc (.cells #[.int .i64 d, .int .i64 l, .int .i64 t, .int .i64 g] 47)) (.cells #[.int .i64 0, .int .i64 0, .int .i64 0, .int .i64 0] 47)))
  have HB1 := Lib.hid hb1
  clear hb0 hb1 hK
  go_enter Tryd.func30, Tryd.ntmps30
  have i0 : ∀ w, (Instr.index 46 (.agg #[.int .i64 4, .int .i64 5, .int .i64 5, .int .i64 5]) (.int .i64 0)).run Tryd.prog w = .ok (.int .i64 4) w := fun _ => by kernel_rfl
  have i1 : ∀ w, (Instr.index 46 (.agg #[.int .i64 4, .int .i64 5, .int .i64 5, .int .i64 5]) (.int .i64 1)).run Tryd.prog w = .ok (.int .i64 5) w := fun _ => by kernel_rfl
  have i2 : ∀ w, (Instr.index 46 (.agg #[.int .i64 4, .int .i64 5, .int .i64 5, .int .i64 5]) (.int .i64 2)).run Tryd.prog w = .ok (.int .i64 5) w := fun _ => by kernel_rfl
  have i3 : ∀ w, (Instr.index 46 (.agg #[.int .i64 4, .int .i64 5, .int .i64 5, .int .i64 5]) (.int .i64 3)).run Tryd.prog w = .ok (.int .i64 5) w := fun _ => by kernel_rfl
  go_wp2
  have HN0 := Lib.hid (show NearAt w w.heap.size d l t g 0 _ from ⟨HF.out, HB1.out, by have := FourAt.new_ (w.alloc (.cells #[.int .i64 d, .int .i64 l, .int .i64 t, .int .i64 g] 47)) 0 0 0 0 47; rwa [size_alloc] at this⟩)
  clear HF HB1 z0 z1 z2 z3
  go_loopw [6] (fun i wr => ∃ k : Nat, k ≤ 4 ∧ i = .int .i64 k ∧ NearAt w w.heap.size d l t g k wr) (fun i _ => 4 - (intOf i).toNat)
  case atStart => exact ⟨0, Nat.zero_le _, rfl, HN0.out⟩
  case round =>
    clear HN0
    obtain ⟨k, hk, rfl, hN⟩ := hrel
    have hcase : k = 0 ∨ k = 1 ∨ k = 2 ∨ k = 3 ∨ k = 4 := by omega
    clear hk
    rcases hcase with rfl | rfl | rfl | rfl | rfl
    · have hF : FourAt wr w.heap.size d l t g := hN.1
      have hb := hN.2.1
      have h2 := hN.2.2
      have HX := Lib.hid (show NearAt w w.heap.size d l t g 1 (wr.setCell ⟨w.heap.size, 0, none⟩ (.int .i64 (nrF 3 d))) from ⟨hF.set0 _, below_setK hb (Nat.le_refl _) _ _, h2.far (by omega) _ _⟩)
      obtain ⟨⟨d0, d1, d2, d3⟩, hf⟩ := hF
      have hf0 := hf 0
      have hlt := cell_lt d0
      clear hN hf h2 hb
      go_wp2
      go_roundw
      case rel => exact ⟨1, by omega, by go_num, HX.out⟩
      case measure => simp [intOf]
    · have hF : FourAt wr w.heap.size (nrF 3 d) l t g := hN.1
      have hb := hN.2.1
      have h2 := hN.2.2
      have HX := Lib.hid (show NearAt w w.heap.size d l t g 2 (wr.setCell ⟨w.heap.size, 1, none⟩ (.int .i64 (nrF 4 l))) from ⟨hF.set1 _, below_setK hb (Nat.le_refl _) _ _, h2.far (by omega) _ _⟩)
      obtain ⟨⟨d0, d1, d2, d3⟩, hf⟩ := hF
      have hf0 := hf 1
      have hlt := cell_lt d0
      clear hN hf h2 hb
      go_wp2
      go_roundw
      case rel => exact ⟨2, by omega, by go_num, HX.out⟩
      case measure => simp [intOf]
    · have hF : FourAt wr w.heap.size (nrF 3 d) (nrF 4 l) t g := hN.1
      have hb := hN.2.1
      have h2 := hN.2.2
      have HX := Lib.hid (show NearAt w w.heap.size d l t g 3 (wr.setCell ⟨w.heap.size, 2, none⟩ (.int .i64 (nrF 4 t))) from ⟨hF.set2 _, below_setK hb (Nat.le_refl _) _ _, h2.far (by omega) _ _⟩)
      obtain ⟨⟨d0, d1, d2, d3⟩, hf⟩ := hF
      have hf0 := hf 2
      have hlt := cell_lt d0
      clear hN hf h2 hb
      go_wp2
      go_roundw
      case rel => exact ⟨3, by omega, by go_num, HX.out⟩
      case measure => simp [intOf]
    · have hF : FourAt wr w.heap.size (nrF 3 d) (nrF 4 l) (nrF 4 t) g := hN.1
      have hb := hN.2.1
      have h2 := hN.2.2
      have HX := Lib.hid (show NearAt w w.heap.size d l t g 4 (wr.setCell ⟨w.heap.size, 3, none⟩ (.int .i64 (nrF 4 g))) from ⟨hF.set3 _, below_setK hb (Nat.le_refl _) _ _, h2.far (by omega) _ _⟩)
      obtain ⟨⟨d0, d1, d2, d3⟩, hf⟩ := hF
      have hf0 := hf 3
      have hlt := cell_lt d0
      clear hN hf h2 hb
      go_wp2
      go_roundw
      case rel => exact ⟨4, by omega, by go_num, HX.out⟩
      case measure => simp [intOf]
    · have hF : FourAt wr w.heap.size (nrF 3 d) (nrF 4 l) (nrF 4 t) (nrF 4 g) := hN.1
      have HB := Lib.hid hN.2.1
      have h2 := hN.2.2
      have H2 := Lib.hid h2
      obtain ⟨⟨d0, d1, d2, d3⟩, _⟩ := hF
      obtain ⟨⟨q0, q1, q2, q3⟩, hf⟩ := h2
      have hf0 := hf 0
      have hf1 := hf 1
      have hf2 := hf 2
      have hf3 := hf 3
      have hlt := cell_lt d0
      have hlt2 := cell_lt q0
      simp only at hlt hlt2
      clear hN hf
      go_wp2
      (try simp only [Exit.inBlock, Exit.then])
      obtain ⟨⟨e0, e1, e2, e3⟩, _⟩ := (((H2.out.set0 (nrF 3 d)).set1 (nrF 4 l)).set2 (nrF 4 t)).set3 (nrF 4 g)
      refine bodyPost_ret (v := .agg #[.int .i64 (nrF 3 d), .int .i64 (nrF 4 l), .int .i64 (nrF 4 t), .int .i64 (nrF 4 g)]) ?_ rfl ⟨rfl, ?_⟩
      · simp [results, Tryd.results30, go_sem, e0, e1, e2, e3]
      · refine below_setK (below_setK (below_setK (below_setK HB.out ?_ _ _) ?_ _ _) ?_ _ _) ?_ _ _ <;> omega
end Go.Proofs.YtcdogkabdhbjmaaDoor
/- Options: kinds as one number. -/
namespace Go.Proofs.YtcdogkabdhbjmaaDoor
open Go.RowKit

def numAt (d l t g : Int) : Nat → Int
  | 0 => 0
  | 1 => d
  | 2 => d + 4 * l
  | 3 => d + 4 * l + 20 * t
  | _ => d + 4 * l + 20 * t + 100 * g
def oneAt : Nat → Int
  | 0 => 1
  | 1 => 4
  | 2 => 20
  | 3 => 100
  | _ => 500
set_option maxRecDepth 100000 in
set_option maxHeartbeats 4000000 in
theorem opNumber_any (d l t g : Int) (h0 : 0 ≤ d ∧ d ≤ 3 ∧ 0 ≤ l ∧ l ≤ 4 ∧ 0 ≤ t ∧ t ≤ 4 ∧ 0 ≤ g ∧ g ≤ 4) (w : World) (hK : KindsAt w) :
    Calls Tryd.prog 33 #[.agg #[.int .i64 d, .int .i64 l, .int .i64 t, .int .i64 g]] w fun e w' => e = .returned (.int .i64 (d + 4 * l + 20 * t + 100 * g)) ∧ Below w.heap.size w w' := by
  obtain ⟨d0, d1, l0, l1, t0, t1, g0, g1⟩ := h0
  have hb0 := below_new w (.cells #[.int .i64 d, .int .i64 l, .int .i64 t, .int .i64 g] 47)
  obtain ⟨z0, z1, z2, z3⟩ := hK.below hb0
  have HF := Lib.hid (FourAt.new_ w d l t g 47)
  have HB := Lib.hid hb0
  clear hb0 hK
  have i0 : ∀ w, (Instr.index 46 (.agg #[.int .i64 4, .int .i64 5, .int .i64 5, .int .i64 5]) (.int .i64 0)).run Tryd.prog w = .ok (.int .i64 4) w := fun _ => by kernel_rfl
  have i1 : ∀ w, (Instr.index 46 (.agg #[.int .i64 4, .int .i64 5, .int .i64 5, .int .i64 5]) (.int .i64 1)).run Tryd.prog w = .ok (.int .i64 5) w := fun _ => by kernel_rfl
  have i2 : ∀ w, (Instr.index 46 (.agg #[.int .i64 4, .int .i64 5, .int .i64 5, .int .i64 5]) (.int .i64 2)).run Tryd.prog w = .ok (.int .i64 5) w := fun _ => by kernel_rfl
  have i3 : ∀ w, (Instr.index 46 (.agg #[.int .i64 4, .int .i64 5, .int .i64 5, .int .i64 5]) (.int .i64 3)).run Tryd.prog w = .ok (.int .i64 5) w := fun _ => by kernel_rfl
  go_enter Tryd.func33, Tryd.ntmps33
  go_wp2
  clear z0 z1 z2 z3
  go_loopw [3, 4, 8] (fun n one i wr => ∃ (k : Nat) (N O : Int), k ≤ 4 ∧ i = .int .i64 k ∧ n = .int .i64 N ∧ one = .int .i64 O ∧ N = numAt d l t g k ∧ O = oneAt k ∧ FourAt wr w.heap.size d l t g ∧ Below w.heap.size w wr) (fun _ _ i _ => 4 - (intOf i).toNat)
  case atStart => exact ⟨0, 0, 1, Nat.zero_le _, rfl, rfl, rfl, rfl, rfl, HF.out, HB.out⟩
  case round =>
    clear HF HB
    obtain ⟨k, N, O, hk, rfl, rfl, rfl, hst⟩ := hrel
    have hcase : k = 0 ∨ k = 1 ∨ k = 2 ∨ k = 3 ∨ k = 4 := by omega
    clear hk
    rcases hcase with rfl | rfl | rfl | rfl | rfl
    · obtain ⟨hN, hO, hF, hb⟩ := hst
      simp only [numAt, oneAt] at hN hO
      subst hO
      have HX := Lib.hid hF
      have HN := Lib.hid hN
      obtain ⟨⟨c0, c1, c2, c3⟩, _⟩ := hF
      have hbd : -1000 ≤ N ∧ N ≤ 1000 := by omega
      obtain ⟨hbd1, hbd2⟩ := hbd
      clear hN
      go_wp2
      go_roundw
      case rel => exact ⟨1, N + d * 1, 4, by omega, by go_num, by go_num, by go_num, by simp only [numAt]; have := HN.out; omega, rfl, HX.out, hb⟩
      case measure => simp [intOf]
    · obtain ⟨hN, hO, hF, hb⟩ := hst
      simp only [numAt, oneAt] at hN hO
      subst hO
      have HX := Lib.hid hF
      have HN := Lib.hid hN
      obtain ⟨⟨c0, c1, c2, c3⟩, _⟩ := hF
      have hbd : -1000 ≤ N ∧ N ≤ 1000 := by omega
      obtain ⟨hbd1, hbd2⟩ := hbd
      clear hN
      go_wp2
      go_roundw
      case rel => exact ⟨2, N + l * 4, 20, by omega, by go_num, by go_num, by go_num, by simp only [numAt]; have := HN.out; omega, rfl, HX.out, hb⟩
      case measure => simp [intOf]
    · obtain ⟨hN, hO, hF, hb⟩ := hst
      simp only [numAt, oneAt] at hN hO
      subst hO
      have HX := Lib.hid hF
      have HN := Lib.hid hN
      obtain ⟨⟨c0, c1, c2, c3⟩, _⟩ := hF
      have hbd : -1000 ≤ N ∧ N ≤ 1000 := by omega
      obtain ⟨hbd1, hbd2⟩ := hbd
      clear hN
      go_wp2
      go_roundw
      case rel => exact ⟨3, N + t * 20, 100, by omega, by go_num, by go_num, by go_num, by simp only [numAt]; have := HN.out; omega, rfl, HX.out, hb⟩
      case measure => simp [intOf]
    · obtain ⟨hN, hO, hF, hb⟩ := hst
      simp only [numAt, oneAt] at hN hO
      subst hO
      have HX := Lib.hid hF
      have HN := Lib.hid hN
      obtain ⟨⟨c0, c1, c2, c3⟩, _⟩ := hF
      have hbd : -1000 ≤ N ∧ N ≤ 1000 := by omega
      obtain ⟨hbd1, hbd2⟩ := hbd
      clear hN
      go_wp2
      go_roundw
      case rel => exact ⟨4, N + g * 100, 500, by omega, by go_num, by go_num, by go_num, by simp only [numAt]; have := HN.out; omega, rfl, HX.out, hb⟩
      case measure => simp [intOf]
    · obtain ⟨hN, hO, hF, hb⟩ := hst
      simp only [numAt] at hN
      have HN := Lib.hid hN
      clear hN hO hF
      go_wp2
      go_ret
      exact ⟨retI HN.out, hb⟩
end Go.Proofs.YtcdogkabdhbjmaaDoor
/- Small facts on bits, as UTF-8 wants them. -/
namespace Go.Proofs.YtcdogkabdhbjmaaDoor
open Go.RowKit

theorem ofNat_i64 (a : Nat) (ha : a < 9223372036854775808) : (BitVec.ofInt 64 (a : Int)).toNat = a := by
  rw [BitVec.ofInt_natCast, BitVec.toNat_ofNat]; exact Nat.mod_eq_of_lt (by omega)
theorem and_i64 (a b : Nat) (ha : a < 9223372036854775808) (hb : b < 9223372036854775808) : bits .and .i64 (a : Int) (b : Int) = ((a &&& b : Nat) : Int) := by
  have hx : a &&& b < 2 ^ 63 := Nat.and_lt_two_pow _ (by omega)
  show IntKind.i64.wrap ((BitVec.ofInt 64 (a : Int) &&& BitVec.ofInt 64 (b : Int)).toNat : Int) = _
  rw [BitVec.toNat_and, ofNat_i64 a ha, ofNat_i64 b hb, IntKind.wrap_i64]
  omega
theorem or_i64 (a b : Nat) (ha : a < 9223372036854775808) (hb : b < 9223372036854775808) : bits .or .i64 (a : Int) (b : Int) = ((a ||| b : Nat) : Int) := by
  have hx : a ||| b < 2 ^ 63 := Nat.or_lt_two_pow (by omega) (by omega)
  show IntKind.i64.wrap ((BitVec.ofInt 64 (a : Int) ||| BitVec.ofInt 64 (b : Int)).toNat : Int) = _
  rw [BitVec.toNat_or, ofNat_i64 a ha, ofNat_i64 b hb, IntKind.wrap_i64]
  omega
/-- 'or' of numbers whose bits lie apart is their sum. -/
theorem or_apart (k a b : Nat) (hb : b < 2 ^ k) (h : a * 2 ^ k + b < 9223372036854775808) : bits .or .i64 ((a * 2 ^ k : Nat) : Int) (b : Int) = ((a * 2 ^ k + b : Nat) : Int) := by
  have e := Nat.two_pow_add_eq_or_of_lt hb a
  rw [Nat.mul_comm] at e
  rw [or_i64 _ _ (by omega) (by omega), ← e]
theorem or6 (a b : Int) (ha : 0 ≤ a) (hb : 0 ≤ b) (hb' : b < 64) (h : a < 1000000000000) : bits .or .i64 (a * 64) b = a * 64 + b := by
  obtain ⟨a, rfl⟩ := Int.eq_ofNat_of_zero_le ha
  obtain ⟨b, rfl⟩ := Int.eq_ofNat_of_zero_le hb
  exact or_apart 6 a b (by omega) (by omega)
theorem or_mark (k a : Nat) (m b : Int) (hm : m = ((a * 2 ^ k : Nat) : Int)) (ha : a * 2 ^ k < 256) (hk : 2 ^ k ≤ 256) (hb : 0 ≤ b) (hb' : b < ((2 ^ k : Nat) : Int)) : bits .or .i64 m b = m + b := by
  obtain ⟨b, rfl⟩ := Int.eq_ofNat_of_zero_le hb
  subst hm
  have hb2 : b < 2 ^ k := by omega
  rw [or_apart k a b hb2 (by omega)]
  rfl
theorem and63_i64 (a : Int) (ha : 0 ≤ a) (h : a < 1000000000000) : bits .and .i64 a 63 = a % 64 := by
  obtain ⟨a, rfl⟩ := Int.eq_ofNat_of_zero_le ha
  have := and_i64 a 63 (by omega) (by omega)
  rw [show (63 : Nat) = 2 ^ 6 - 1 from rfl, Nat.and_two_pow_sub_one_eq_mod] at this
  exact_mod_cast this
theorem and63_u8 (a : Int) (ha : 0 ≤ a) (h : a ≤ 255) : bits .and .u8 a 63 = a % 64 := by
  obtain ⟨a, rfl⟩ := Int.eq_ofNat_of_zero_le ha
  have := u8_and_nat a 63 (by omega) (by omega)
  rw [show (63 : Nat) = 2 ^ 6 - 1 from rfl, Nat.and_two_pow_sub_one_eq_mod] at this
  exact_mod_cast this
set_option maxRecDepth 100000 in
theorem top2 : ∀ a : Fin 256, (a.val &&& 192) = a.val / 64 * 64 := by decide
theorem andNot63_u8 (a : Int) (ha : 0 ≤ a) (h : a ≤ 255) : bits .andNot .u8 a 63 = a / 64 * 64 := by
  obtain ⟨a, rfl⟩ := Int.eq_ofNat_of_zero_le ha
  have := u8_andNot_nat a 63 (by omega) (by omega)
  have h2 := top2 ⟨a, by omega⟩
  simp at h2
  rw [show (255 - 63 : Nat) = 192 from rfl, h2] at this
  exact_mod_cast this
end Go.Proofs.YtcdogkabdhbjmaaDoor
/- Options: the flags as places, as a number, set from one. -/
namespace Go.Proofs.YtcdogkabdhbjmaaDoor
open Go.RowKit

/-- The flags: a bit, and the place of its field. -/
def flagCells (b : Nat) : List Value := [.int .i64 1, .pointer (some ⟨b, 4, none⟩), .int .i64 2, .pointer (some ⟨b, 5, none⟩), .int .i64 4, .pointer (some ⟨b, 6, none⟩), .int .i64 8, .pointer (some ⟨b, 7, none⟩), .int .i64 16, .pointer (some ⟨b, 8, none⟩), .int .i64 32, .pointer (some ⟨b, 9, none⟩), .int .i64 64, .pointer (some ⟨b, 10, none⟩), .int .i64 128, .pointer (some ⟨b, 11, none⟩), .int .i64 256, .pointer (some ⟨b, 12, none⟩), .int .i64 512, .pointer (some ⟨b, 13, none⟩)]
set_option maxRecDepth 100000 in
set_option maxHeartbeats 4000000 in
theorem opFlags_any (b : Nat) (w : World) :
    Calls Tryd.prog 52 #[.pointer (some ⟨b, 0, none⟩)] w fun e w' => (∃ g, e = .returned (.slice (some ⟨g, 0, none⟩) 10 10) ∧ Rd w' 2 (some ⟨g, 0, none⟩) 10 (flagCells b)) ∧ Below w.heap.size w w' := by
  go_enter Tryd.func52, Tryd.ntmps52
  go_wp2
  go_still_tail 40, (by kernel_rfl)
  change wpList _ _ _ _ _ w.drew
  have hbd : Below w.heap.size w w.drew := (Below.refl _ _).drew
  generalize w.drew = w2 at *
  go_wp2
  go_ret
  exact ⟨⟨_, rfl, ⟨rfl, fun _ => ⟨_, rfl, by simp, cells_new w2 (flagCells b) _⟩⟩⟩, below_self hbd (below_new _ _)⟩
/-- Fourteen cells of options, in a block that may be written. -/
def OptAt (W : World) (b : Nat) (o : Opt) : Prop := (∀ (j : Nat) (u : Value), o.cells[j]? = some u → W.cell? ⟨b, j, none⟩ = some u) ∧ ∀ i, W.frozen? ⟨b, i, none⟩ = false
theorem OptAt.new_ (w : World) (o : Opt) (T : TypeId) : OptAt (w.alloc (.cells o.cells T)) w.heap.size o := by
  refine ⟨fun j u hu => ?_, fun i => by simp [go_sem]⟩
  rw [World.cell?_alloc_at _ _ _ _ rfl]
  exact hu
theorem OptAt.below {W W' : World} {b : Nat} {o : Opt} (h : OptAt W b o) (hb : Below W.heap.size W W') : OptAt W' b o := by
  have hl : b < W.heap.size := cell_lt (h.1 0 _ rfl)
  exact ⟨fun j u hu => cell_below hb (h.1 j u hu), fun i => (hb.frozen hl).trans (h.2 i)⟩
theorem OptAt.flag {W : World} {b : Nat} {o : Opt} (h : OptAt W b o) {k : Nat} {x : Bool} (hk : o.flags[k]? = some x) : W.cell? ⟨b, 4 + k, none⟩ = some (.bool x) := by
  have hk10 : k < 10 := (List.getElem?_eq_some_iff.1 hk).1
  refine h.1 (4 + k) (.bool x) ?_
  have hc : k = 0 ∨ k = 1 ∨ k = 2 ∨ k = 3 ∨ k = 4 ∨ k = 5 ∨ k = 6 ∨ k = 7 ∨ k = 8 ∨ k = 9 := by omega
  rcases hc with rfl | rfl | rfl | rfl | rfl | rfl | rfl | rfl | rfl | rfl <;> (rw [← Option.some.inj hk]; rfl)
theorem flag_cells (b k : Nat) (hk : k < 10) : (flagCells b)[k * 2]? = some (.int .i64 ((2 : Int) ^ k)) ∧ (flagCells b)[k * 2 + 1]? = some (.pointer (some ⟨b, 4 + k, none⟩)) := by
  have hc : k = 0 ∨ k = 1 ∨ k = 2 ∨ k = 3 ∨ k = 4 ∨ k = 5 ∨ k = 6 ∨ k = 7 ∨ k = 8 ∨ k = 9 := by omega
  rcases hc with rfl | rfl | rfl | rfl | rfl | rfl | rfl | rfl | rfl | rfl <;> exact ⟨rfl, rfl⟩
theorem low_next {l : List Bool} {k : Nat} {x : Bool} (h : l[k]? = some x) : Opt.low (l.take (k + 1)) = Opt.low (l.take k) + Opt.n1 x * 2 ^ k := by
  have hk := (List.getElem?_eq_some_iff.1 h).1
  rw [List.take_add_one, h]
  simp only [Option.toList_some]
  rw [Opt.low_snoc, List.length_take, Nat.min_eq_left (by omega)]
theorem low_lt_take (l : List Bool) (k : Nat) : Opt.low (l.take k) < 2 ^ k := Nat.lt_of_lt_of_le (Opt.low_lt _) (Nat.pow_le_pow_right (by decide) (List.length_take_le k l))
set_option maxRecDepth 100000 in
set_option maxHeartbeats 4000000 in
theorem opBits_any (o : Opt) (w : World) :
    Calls Tryd.prog 34 #[.agg #[.int .i64 o.d, .int .i64 o.l, .int .i64 o.t, .int .i64 o.g, .bool o.b0, .bool o.b1, .bool o.b2, .bool o.b3, .bool o.b4, .bool o.b5, .bool o.b6, .bool o.b7, .bool o.b8, .bool o.b9]] w fun e w' => e = .returned (.int .i64 (o.fl : Nat)) ∧ Below w.heap.size w w' := by
  have hb0 := below_new w (.cells o.cells 23)
  have HO := Lib.hid (OptAt.new_ w o 23)
  have HB := Lib.hid hb0
  have hFLEN : o.flags.length = 10 := rfl
  have HFIN := Lib.hid (show ∀ k, ¬ k < 10 → Opt.low (o.flags.take k) = o.fl from fun k hk => by
    rw [List.take_of_length_le (by rw [hFLEN]; omega)]
    rfl)
  clear hb0
  obtain ⟨F, hF⟩ : ∃ F, o.fl = F := ⟨_, rfl⟩
  rw [hF] at HFIN ⊢
  obtain ⟨fs, hfs⟩ : ∃ fs, o.flags = fs := ⟨_, rfl⟩
  rw [hfs] at HFIN hFLEN
  have HFS := Lib.hid hfs
  have HFL := Lib.hid hFLEN
  clear hF hfs hFLEN
  obtain ⟨W, hW⟩ : ∃ W, w.alloc (.cells o.cells 23) = W := ⟨_, rfl⟩
  have hW' : w.alloc (.cells #[.int .i64 o.d, .int .i64 o.l, .int .i64 o.t, .int .i64 o.g, .bool o.b0, .bool o.b1, .bool o.b2, .bool o.b3, .bool o.b4, .bool o.b5, .bool o.b6, .bool o.b7, .bool o.b8, .bool o.b9] 23) = W := hW
  rw [hW] at HO HB
  clear hW
  go_enter Tryd.func34, Tryd.ntmps34
  go_wp2_with fail
  clear hW'
  refine (opFlags_any w.heap.size W).mono ?_
  rintro e w1 ⟨⟨gb, rfl, hr⟩, hb1⟩
  have HR := Lib.hid hr
  have HO1 := Lib.hid (HO.out.below hb1)
  have HB1 := Lib.hid (below_self HB.out hb1)
  clear hr hb1
  go_wp2
  go_loopw [3, 8] (fun n i wr => ∃ k : Nat, k ≤ 10 ∧ i = .int .i64 k ∧ n = .int .i64 (Opt.low (fs.take k) : Nat) ∧ Below w1.heap.size w1 wr) (fun _ i _ => 10 - (intOf i).toNat)
  case atStart => exact ⟨0, Nat.zero_le _, rfl, rfl, Below.refl _ _⟩
  case round =>
    obtain ⟨k, hk, rfl, rfl, hb⟩ := hrel
    obtain ⟨N, hN⟩ : ∃ N, Opt.low (fs.take k) = N := ⟨_, rfl⟩
    rw [hN]
    have HN := Lib.hid hN
    by_cases hlt : k < 10
    · obtain ⟨x, hx⟩ : ∃ x, fs[k]? = some x := ⟨_, List.getElem?_eq_getElem (by rw [HFL.out]; exact hlt)⟩
      have HX := Lib.hid (low_next hx)
      have hlow := low_lt_take fs k
      rw [hN] at hlow HX
      obtain ⟨hc1, hc2⟩ := flag_cells w.heap.size k hlt
      have q1 := (HR.out.below hb).news (k * 2) _ hc1
      have q2 := (HR.out.below hb).news (k * 2 + 1) _ hc2
      rw [addNew] at q1 q2
      obtain ⟨P2, hP2⟩ : ∃ P2 : Int, (2 : Int) ^ k = P2 := ⟨_, rfl⟩
      rw [hP2] at q1
      have cx := (HO1.out.below hb).flag (k := k) (x := x) (by rw [HFS.out]; exact hx)
      have hbn := below_self hb (below_new wr (.cells #[.int .i64 P2, .pointer (some ⟨w.heap.size, 4 + k, none⟩)] 86))
      have cx2 := cell_below (below_new wr (.cells #[.int .i64 P2, .pointer (some ⟨w.heap.size, 4 + k, none⟩)] 86)) cx
      clear hN hc1 hc2
      cases x with
      | false =>
        have HY := Lib.hid (show Opt.low (fs.take (k + 1)) = N by rw [HX.out]; simp [Opt.n1])
        go_wp2
        go_roundw
        case rel => exact ⟨k + 1, by omega, by go_num, by rw [HY.out], hbn⟩
        case measure => simp [intOf]; omega
      | true =>
        have hor : bits .or .i64 (N : Int) P2 = ((N + 2 ^ k : Nat) : Int) := by
          have hp : (P2 : Int) = ((2 ^ k : Nat) : Int) := by rw [← hP2]; simp
          have hk2 : (2 : Nat) ^ k ≤ 2 ^ 9 := Nat.pow_le_pow_right (by decide) (by omega)
          have h512 : (2 : Nat) ^ 9 = 512 := by decide
          rw [hp, or_i64 _ _ (by omega) (by omega)]
          congr 1
          have := Nat.two_pow_add_eq_or_of_lt hlow 1
          rw [Nat.mul_one] at this
          rw [Nat.or_comm, ← this, Nat.add_comm]
        have HY := Lib.hid (show Opt.low (fs.take (k + 1)) = N + 2 ^ k by rw [HX.out]; simp [Opt.n1])
        obtain ⟨M, hM⟩ : ∃ M, N + 2 ^ k = M := ⟨_, rfl⟩
        rw [hM] at hor HY
        have HP := Lib.hid hP2
        clear hM hlow hP2
        go_wp2
        go_roundw
        case rel => exact ⟨k + 1, by omega, by go_num, by rw [HY.out], hbn⟩
        case measure => simp [intOf]; omega
    · have HF := Lib.hid (HN.out.symm.trans (HFIN.out k hlt))
      go_wp2
      go_ret
      exact ⟨by rw [HF.out]; rfl, below_self HB1.out hb⟩
end Go.Proofs.YtcdogkabdhbjmaaDoor
/- Options in memory: a field set. -/
namespace Go.Proofs.YtcdogkabdhbjmaaDoor
open Go.RowKit

theorem OptAt.lt {W : World} {b : Nat} {o : Opt} (h : OptAt W b o) : b < W.heap.size := cell_lt (h.1 0 _ rfl)
theorem OptAt.set {W : World} {b : Nat} {o : Opt} (h : OptAt W b o) (j : Nat) (u : Value) (o' : Opt) (he : o'.cells = o.cells.setIfInBounds j u) (hj : j < 14) : OptAt (W.setCell ⟨b, j, none⟩ u) b o' := by
  refine ⟨fun i v hv => ?_, fun i => (frozen_set ..).trans (h.2 i)⟩
  rw [he] at hv
  by_cases hi : i = j
  · subst hi
    have hs : i < o.cells.size := hj
    rw [Array.getElem?_setIfInBounds_self_of_lt hs] at hv
    obtain rfl := Option.some.inj hv
    exact set_same (h.1 i _ (Array.getElem?_eq_getElem hs))
  · rw [Array.getElem?_setIfInBounds_ne (fun e => hi e.symm)] at hv
    exact set_other (h.1 i v hv) hi
theorem OptAt.set0 {W : World} {b : Nat} {o : Opt} (h : OptAt W b o) (x : Int) : OptAt (W.setCell ⟨b, 0, none⟩ (.int .i64 x)) b { o with d := x } := h.set 0 _ _ rfl (by decide)
theorem OptAt.set1 {W : World} {b : Nat} {o : Opt} (h : OptAt W b o) (x : Int) : OptAt (W.setCell ⟨b, 1, none⟩ (.int .i64 x)) b { o with l := x } := h.set 1 _ _ rfl (by decide)
theorem OptAt.set2 {W : World} {b : Nat} {o : Opt} (h : OptAt W b o) (x : Int) : OptAt (W.setCell ⟨b, 2, none⟩ (.int .i64 x)) b { o with t := x } := h.set 2 _ _ rfl (by decide)
theorem OptAt.set3 {W : World} {b : Nat} {o : Opt} (h : OptAt W b o) (x : Int) : OptAt (W.setCell ⟨b, 3, none⟩ (.int .i64 x)) b { o with g := x } := h.set 3 _ _ rfl (by decide)
/-- A flag by its place. -/
def Opt.putB (o : Opt) (k : Nat) (x : Bool) : Opt := match k with
  | 0 => { o with b0 := x }
  | 1 => { o with b1 := x }
  | 2 => { o with b2 := x }
  | 3 => { o with b3 := x }
  | 4 => { o with b4 := x }
  | 5 => { o with b5 := x }
  | 6 => { o with b6 := x }
  | 7 => { o with b7 := x }
  | 8 => { o with b8 := x }
  | 9 => { o with b9 := x }
  | _ => o
theorem OptAt.setB {W : World} {b : Nat} {o : Opt} (h : OptAt W b o) (k : Nat) (hk : k < 10) (x : Bool) : OptAt (W.setCell ⟨b, 4 + k, none⟩ (.bool x)) b (o.putB k x) := by
  have hkc : k = 0 ∨ k = 1 ∨ k = 2 ∨ k = 3 ∨ k = 4 ∨ k = 5 ∨ k = 6 ∨ k = 7 ∨ k = 8 ∨ k = 9 := by omega
  refine h.set _ _ _ ?_ (by omega)
  rcases hkc with rfl | rfl | rfl | rfl | rfl | rfl | rfl | rfl | rfl | rfl <;> rfl
theorem below_setB {B : Nat} {w wr : World} {b : Nat} (h : Below B w wr) (hb : B ≤ b) (j : Nat) (u : Value) : Below B w (wr.setCell ⟨b, j, none⟩ u) :=
  ⟨h.os, h.tape, h.output, by simpa [World.setCell] using h.size, fun i hi => (Below.heap_setCell wr ⟨b, j, none⟩ u i (by simp only; omega)).trans (h.block i hi)⟩
end Go.Proofs.YtcdogkabdhbjmaaDoor
/- Options in memory, whole: stored field by field, and told as a result. -/
namespace Go.Proofs.YtcdogkabdhbjmaaDoor
open Go.RowKit

/-- Fourteen stores. -/
def stored (W : World) (b : Nat) (o' : Opt) : World := ((((((((((((((W.setCell ⟨b, 0, none⟩ (.int .i64 o'.d)).setCell ⟨b, 1, none⟩ (.int .i64 o'.l)).setCell ⟨b, 2, none⟩ (.int .i64 o'.t)).setCell ⟨b, 3, none⟩ (.int .i64 o'.g)).setCell ⟨b, 4, none⟩ (.bool o'.b0)).setCell ⟨b, 5, none⟩ (.bool o'.b1)).setCell ⟨b, 6, none⟩ (.bool o'.b2)).setCell ⟨b, 7, none⟩ (.bool o'.b3)).setCell ⟨b, 8, none⟩ (.bool o'.b4)).setCell ⟨b, 9, none⟩ (.bool o'.b5)).setCell ⟨b, 10, none⟩ (.bool o'.b6)).setCell ⟨b, 11, none⟩ (.bool o'.b7)).setCell ⟨b, 12, none⟩ (.bool o'.b8)).setCell ⟨b, 13, none⟩ (.bool o'.b9))
theorem OptAt.setF0 {W : World} {b : Nat} {o : Opt} (h : OptAt W b o) (x : Bool) : OptAt (W.setCell ⟨b, 4, none⟩ (.bool x)) b { o with b0 := x } := h.set 4 _ _ rfl (by decide)
theorem OptAt.setF1 {W : World} {b : Nat} {o : Opt} (h : OptAt W b o) (x : Bool) : OptAt (W.setCell ⟨b, 5, none⟩ (.bool x)) b { o with b1 := x } := h.set 5 _ _ rfl (by decide)
theorem OptAt.setF2 {W : World} {b : Nat} {o : Opt} (h : OptAt W b o) (x : Bool) : OptAt (W.setCell ⟨b, 6, none⟩ (.bool x)) b { o with b2 := x } := h.set 6 _ _ rfl (by decide)
theorem OptAt.setF3 {W : World} {b : Nat} {o : Opt} (h : OptAt W b o) (x : Bool) : OptAt (W.setCell ⟨b, 7, none⟩ (.bool x)) b { o with b3 := x } := h.set 7 _ _ rfl (by decide)
theorem OptAt.setF4 {W : World} {b : Nat} {o : Opt} (h : OptAt W b o) (x : Bool) : OptAt (W.setCell ⟨b, 8, none⟩ (.bool x)) b { o with b4 := x } := h.set 8 _ _ rfl (by decide)
theorem OptAt.setF5 {W : World} {b : Nat} {o : Opt} (h : OptAt W b o) (x : Bool) : OptAt (W.setCell ⟨b, 9, none⟩ (.bool x)) b { o with b5 := x } := h.set 9 _ _ rfl (by decide)
theorem OptAt.setF6 {W : World} {b : Nat} {o : Opt} (h : OptAt W b o) (x : Bool) : OptAt (W.setCell ⟨b, 10, none⟩ (.bool x)) b { o with b6 := x } := h.set 10 _ _ rfl (by decide)
theorem OptAt.setF7 {W : World} {b : Nat} {o : Opt} (h : OptAt W b o) (x : Bool) : OptAt (W.setCell ⟨b, 11, none⟩ (.bool x)) b { o with b7 := x } := h.set 11 _ _ rfl (by decide)
theorem OptAt.setF8 {W : World} {b : Nat} {o : Opt} (h : OptAt W b o) (x : Bool) : OptAt (W.setCell ⟨b, 12, none⟩ (.bool x)) b { o with b8 := x } := h.set 12 _ _ rfl (by decide)
theorem OptAt.setF9 {W : World} {b : Nat} {o : Opt} (h : OptAt W b o) (x : Bool) : OptAt (W.setCell ⟨b, 13, none⟩ (.bool x)) b { o with b9 := x } := h.set 13 _ _ rfl (by decide)
theorem OptAt.stored {W : World} {b : Nat} {o : Opt} (h : OptAt W b o) (o' : Opt) : OptAt (stored W b o') b o' := by
  obtain ⟨d', l', t', g', a0, a1, a2, a3, a4, a5, a6, a7, a8, a9⟩ := o'
  obtain ⟨d, l, t, g, b0, b1, b2, b3, b4, b5, b6, b7, b8, b9⟩ := o
  unfold Proofs.YtcdogkabdhbjmaaDoor.stored
  simp only
  have h1 := ((((h.set0 d').set1 l').set2 t').set3 g')
  simp only at h1
  have h2 := ((((h1.setF0 a0).setF1 a1).setF2 a2).setF3 a3).setF4 a4
  simp only at h2
  exact ((((h2.setF5 a5).setF6 a6).setF7 a7).setF8 a8).setF9 a9
theorem below_stored {W ww : World} {b B : Nat} (o' : Opt) (hB : B ≤ b) (hw : Below B ww W) : Below B ww (stored W b o') := by
  unfold stored
  exact (below_setB (below_setB (below_setB (below_setB (below_setB (below_setB (below_setB (below_setB (below_setB (below_setB (below_setB (below_setB (below_setB (below_setB hw hB _ _) hB _ _) hB _ _) hB _ _) hB _ _) hB _ _) hB _ _) hB _ _) hB _ _) hB _ _) hB _ _) hB _ _) hB _ _) hB _ _)
theorem cell_upto {W W' : World} {B : Nat} {a : Addr} (hb : Below B W W') (h : a.block < B) : W'.cell? a = W.cell? a := by
  unfold World.cell?
  rw [hb.block _ h]
theorem OptAt.upto {W W' : World} {b B : Nat} {o : Opt} (h : OptAt W b o) (hb : Below B W W') (hl : b < B) : OptAt W' b o :=
  ⟨fun j u hu => (cell_upto hb hl).trans (h.1 j u hu), fun i => (hb.frozen hl).trans (h.2 i)⟩
theorem KindsAt.upto {W W' : World} {B : Nat} (h : KindsAt W) (hb : Below B W W') (hl : 1 < B) : KindsAt W' :=
  ⟨(cell_upto hb hl).trans h.1, (cell_upto hb hl).trans h.2.1, (cell_upto hb hl).trans h.2.2.1, (cell_upto hb hl).trans h.2.2.2⟩
/-- The result's cell and the error, told together. -/
theorem res_opt {fn : Func} {p u : Tmp} (hf : fn.results = #[.cell p 23, .tmp u]) (tmps : Array Value) (w : World) (g : Nat) (o : Opt) (E : Value) (hp : tmps.getD p undef = .pointer (some ⟨g, 0, none⟩)) (hu : tmps.getD u undef = E)
    (hO : OptAt w g o) : (results fn tmps).run Tryd.prog w = .ok (.tuple #[o.val, E]) w := by
  have hc := hO.1
  have c0 := hc 0 _ rfl
  have c1 := hc 1 _ rfl
  have c2 := hc 2 _ rfl
  have c3 := hc 3 _ rfl
  have c4 := hc 4 _ rfl
  have c5 := hc 5 _ rfl
  have c6 := hc 6 _ rfl
  have c7 := hc 7 _ rfl
  have c8 := hc 8 _ rfl
  have c9 := hc 9 _ rfl
  have c10 := hc 10 _ rfl
  have c11 := hc 11 _ rfl
  have c12 := hc 12 _ rfl
  have c13 := hc 13 _ rfl
  rw [results_cell_tmp hf, hp, hu]
  obtain ⟨d, l, t, g, b0, b1, b2, b3, b4, b5, b6, b7, b8, b9⟩ := o
  simp only [Opt.val, Opt.cells] at *
  clear hc hp hu hf hO
  go_simp
end Go.Proofs.YtcdogkabdhbjmaaDoor
/- A whole array loaded; an index into an array value. -/
namespace Go.Proofs.YtcdogkabdhbjmaaDoor
open Go.RowKit

section
variable {P : Program}
theorem wpList_loadV {w : World} {ops : Array Oper} {rest : List Oper} {o : Oper} {a : Act} {Q : Exit → Act → World → Prop} (hgd : o.guard = none) (ty : TypeId) (x : Operand) (ho : o.op = .load ty x) (ad : Addr) (v : Value) (hx : a.eval x = .pointer (some ad)) (hl : (loadVar ty ad).run P w = .ok v w)
    (h : wpList P ops Q rest (a.put o.dst v) w) : wpList P ops Q (o :: rest) a w := by
  refine wpList_plain hgd fun K hK => ?_
  have he : (execOp a.eval o).run P w = .ok (.value v) w := by
    unfold execOp
    simp only [ho, hx, Instr.loadAt, Instr.sureAddr, Sem.run_bind, Sem.run_pure, Result.andThen_ok, hl]
  unfold Oper.wp
  rw [he]
  exact hK _ _ h
theorem run_indexA {t e : TypeId} {n : Nat} {i : TypeInfo} (hu : P.underlying t = some (.array n e)) (hi : P.info? e = some i) (he : P.plainKey e = true) (hc : P.cellsOf e = 1) {cs : Array Value} {j : Nat} {v : Value} (hj : j < n) (hv : cs[j]? = some v) (w : World) :
    (Instr.index t (.agg cs) (.int .i64 (j : Int))).run P w = .ok v w := by
  have hs := run_sizeOf (P := P) w hi
  have p := run_part_plain (P := P) w he (xs := cs) (off := j * 1) (by rw [Nat.mul_one]; exact hv)
  unfold Instr.index
  rw [Nat.mul_one] at p
  simp [asIntOf, run_underlying hu, hj, hs, hc, p]
end
end Go.Proofs.YtcdogkabdhbjmaaDoor
/- Options as words: the words as the program lays them, read. -/
namespace Go.Proofs.YtcdogkabdhbjmaaDoor
open Go.RowKit

def termCells : List Value := termsL.flatMap fun t => [Value.string t.1, .int .i64 (t.2.1 : Nat), .int .i64 t.2.2]
def termsA : Array Value := termCells.toArray
def TermsAt (w : World) : Prop := ∀ j v, termCells[j]? = some v → w.cell? ⟨0, j, none⟩ = some v
theorem TermsAt.below {w w' : World} (h : TermsAt w) (hb : Below w.heap.size w w') : TermsAt w' := fun j v hv => cell_below hb (h j v hv)
theorem TermsAt.upto {W W' : World} {B : Nat} (h : TermsAt W) (hb : Below B W W') (hl : 0 < B) : TermsAt W' := fun j v hv => (cell_upto hb hl).trans (h j v hv)
theorem loadTerms {w : World} (h : TermsAt w) : (loadVar 66 ⟨0, 0, none⟩).run Tryd.prog w = .ok (.agg termsA) w := by
  have hl2 : (loadCells ⟨0, 0, none⟩ termCells.length).run Tryd.prog w = .ok termCells.toArray w :=
    run_loadCells_list (P := Tryd.prog) w ⟨0, 0, none⟩ termCells (fun j v hv => by rw [addNew]; exact h j v hv)
  have hn : termCells.length = 78 := by decide +kernel
  rw [hn] at hl2
  have ha := Tryd.isAgg66 w
  simp [loadVar, Sem.run_bind, ha, hl2, termsA]
def termV (t : ByteArray × Nat × Int) : Value := .agg #[.string t.1, .int .i64 (t.2.1 : Nat), .int .i64 t.2.2]
section
variable {P : Program}
theorem run_indexS {t e : TypeId} {n : Nat} {i : TypeInfo} (hu : P.underlying t = some (.array n e)) (hi : P.info? e = some i) (ha : ∀ w, (isAgg e).run P w = .ok true w) {cs : Array Value} {j k : Nat} (hk : P.cellsOf e = k) (hj : j < n) (w : World) :
    (Instr.index t (.agg cs) (.int .i64 (j : Int))).run P w = .ok (.agg (cs.extract (j * k) (j * k + k))) w := by
  subst hk
  have hs := run_sizeOf (P := P) w hi
  unfold Instr.index
  simp [asIntOf, run_underlying hu, hj, hs, part, ha]
end
theorem termsA_at : ∀ i t, termsL[i]? = some t → termsA.extract (i * 3) (i * 3 + 3) = #[.string t.1, .int .i64 (t.2.1 : Nat), .int .i64 t.2.2] := by
  have h : ∀ i, i < 26 → ∃ t, termsL[i]? = some t ∧ termsA.extract (i * 3) (i * 3 + 3) = #[.string t.1, .int .i64 (t.2.1 : Nat), .int .i64 t.2.2] := by
    intro i hi
    match i, hi with
    | 0, _ => exact ⟨_, rfl, rfl⟩
    | 1, _ => exact ⟨_, rfl, rfl⟩
    | 2, _ => exact ⟨_, rfl, rfl⟩
    | 3, _ => exact ⟨_, rfl, rfl⟩
    | 4, _ => exact ⟨_, rfl, rfl⟩
    | 5, _ => exact ⟨_, rfl, rfl⟩
    | 6, _ => exact ⟨_, rfl, rfl⟩
    | 7, _ => exact ⟨_, rfl, rfl⟩
    | 8, _ => exact ⟨_, rfl, rfl⟩
    | 9, _ => exact ⟨_, rfl, rfl⟩
    | 10, _ => exact ⟨_, rfl, rfl⟩
    | 11, _ => exact ⟨_, rfl, rfl⟩
    | 12, _ => exact ⟨_, rfl, rfl⟩
    | 13, _ => exact ⟨_, rfl, rfl⟩
    | 14, _ => exact ⟨_, rfl, rfl⟩
    | 15, _ => exact ⟨_, rfl, rfl⟩
    | 16, _ => exact ⟨_, rfl, rfl⟩
    | 17, _ => exact ⟨_, rfl, rfl⟩
    | 18, _ => exact ⟨_, rfl, rfl⟩
    | 19, _ => exact ⟨_, rfl, rfl⟩
    | 20, _ => exact ⟨_, rfl, rfl⟩
    | 21, _ => exact ⟨_, rfl, rfl⟩
    | 22, _ => exact ⟨_, rfl, rfl⟩
    | 23, _ => exact ⟨_, rfl, rfl⟩
    | 24, _ => exact ⟨_, rfl, rfl⟩
    | 25, _ => exact ⟨_, rfl, rfl⟩
    | n + 26, h => omega
  intro i t ht
  have hi : i < 26 := (List.getElem?_eq_some_iff.1 ht).1
  obtain ⟨t', h1, h2⟩ := h i hi
  rw [ht] at h1
  obtain rfl := Option.some.inj h1
  exact h2
theorem idxTerms {i : Nat} {t : ByteArray × Nat × Int} (h : termsL[i]? = some t) (w : World) : (Instr.index 66 (.agg termsA) (.int .i64 (i : Int))).run Tryd.prog w = .ok (termV t) w := by
  have hi : i < 26 := (List.getElem?_eq_some_iff.1 h).1
  rw [run_indexS (e := 65) (i := (Tryd.prog.info? 65).getD default) (k := 3) Tryd.underlying66 (by kernel_rfl) (fun w => Tryd.isAgg65 w) (by kernel_rfl) hi w, termsA_at i t h]
  rfl
end Go.Proofs.YtcdogkabdhbjmaaDoor
/- Options compared: Same, the project's and the reference's. -/
namespace Go.Proofs.YtcdogkabdhbjmaaDoor
open Go.RowKit

theorem eqFields_plain {P : Program} (d : Nat) (xs ys : Array Value) (q : Nat → Bool) (w : World) : ∀ fs : List Field, (∀ f ∈ fs, f.name ≠ "_" ∧ P.plainKey f.type = true ∧ ∃ u v, xs[f.offset]? = some u ∧ ys[f.offset]? = some v ∧ ∀ w, (Op.equalIn d f.type u v).run P w = .ok (q f.offset) w) →
    (Op.eqFields d xs ys fs).run P w = .ok (fs.all fun f => q f.offset) w
  | [], _ => rfl
  | f :: fs, h => by
    obtain ⟨hn, hp, u, v, hu, hv, he⟩ := h f (by simp)
    have ih := eqFields_plain d xs ys q w fs fun g hg => h g (by simp [hg])
    have p1 := run_part_plain (P := P) w hp (xs := xs) (off := f.offset) hu
    have p2 := run_part_plain (P := P) w hp (xs := ys) (off := f.offset) hv
    simp only [Op.eqFields, hn, ne_eq, not_false_eq_true, if_true, Sem.run_bind, p1, p2, Result.andThen_ok, he, List.all_cons]
    cases q f.offset
    · simp
    · simp [ih]
set_option maxRecDepth 100000 in
theorem optsEq (d l t g : Int) (b0 b1 b2 b3 b4 b5 b6 b7 b8 b9 : Bool) (d' l' t' g' : Int) (a0 a1 a2 a3 a4 a5 a6 a7 a8 a9 : Bool) (w : World) :
    (Op.equalIn 10000 23 (.agg #[.int .i64 d, .int .i64 l, .int .i64 t, .int .i64 g, .bool b0, .bool b1, .bool b2, .bool b3, .bool b4, .bool b5, .bool b6, .bool b7, .bool b8, .bool b9]) (.agg #[.int .i64 d', .int .i64 l', .int .i64 t', .int .i64 g', .bool a0, .bool a1, .bool a2, .bool a3, .bool a4, .bool a5, .bool a6, .bool a7, .bool a8, .bool a9])).run Tryd.prog w =
      .ok ((d == d') && (l == l') && (t == t') && (g == g') && (b0 == a0) && (b1 == a1) && (b2 == a2) && (b3 == a3) && (b4 == a4) && (b5 == a5) && (b6 == a6) && (b7 == a7) && (b8 == a8) && (b9 == a9)) w := by
  have hf : (Tryd.prog.fieldsOf 23).toList.map (fun f => (f.type, f.offset)) = [(3, 0), (3, 1), (3, 2), (3, 3), (4, 4), (4, 5), (4, 6), (4, 7), (4, 8), (4, 9), (4, 10), (4, 11), (4, 12), (4, 13)] := by kernel_rfl
  have hn : (Tryd.prog.fieldsOf 23).toList.all (fun f => f.name != "_") = true := by kernel_rfl
  rw [show (10000 : Nat) = 9999 + 1 from rfl, run_equalIn_struct (P := Tryd.prog) w 9999 23 _ _ (by kernel_rfl) (by kernel_rfl)]
  rw [eqFields_plain 9999 _ _ (fun o => ([d == d', l == l', t == t', g == g', b0 == a0, b1 == a1, b2 == a2, b3 == a3, b4 == a4, b5 == a5, b6 == a6, b7 == a7, b8 == a8, b9 == a9] : List Bool).getD o true) w _ (fun f hfm => ?_)]
  · congr 1
    rw [show (fun f : Field => ([d == d', l == l', t == t', g == g', b0 == a0, b1 == a1, b2 == a2, b3 == a3, b4 == a4, b5 == a5, b6 == a6, b7 == a7, b8 == a8, b9 == a9] : List Bool).getD f.offset true) = (fun x : TypeId × Nat => ([d == d', l == l', t == t', g == g', b0 == a0, b1 == a1, b2 == a2, b3 == a3, b4 == a4, b5 == a5, b6 == a6, b7 == a7, b8 == a8, b9 == a9] : List Bool).getD x.2 true) ∘ (fun f : Field => (f.type, f.offset)) from rfl, ← List.all_map, hf]
    simp [Bool.and_assoc]
  · have hne : f.name ≠ "_" := by
      have := List.all_eq_true.1 hn f hfm
      simpa using this
    have hm := List.mem_map_of_mem (f := fun f : Field => (f.type, f.offset)) hfm
    rw [hf] at hm
    simp only [List.mem_cons, List.not_mem_nil, or_false, Prod.mk.injEq] at hm
    have hI : ∀ (a b : Int) w, (Op.equalIn 9999 3 (.int .i64 a) (.int .i64 b)).run Tryd.prog w = .ok (a == b) w := fun a b w => run_equalIn_int w 9998 _ _ _ a b Tryd.underlying3
    have hB : ∀ (a b : Bool) w, (Op.equalIn 9999 4 (.bool a) (.bool b)).run Tryd.prog w = .ok (a == b) w := fun a b w => run_equalIn_bool' w 9998 _ a b Tryd.underlying4
    refine ⟨hne, ?_⟩
    rcases hm with ⟨h1, h2⟩ | ⟨h1, h2⟩ | ⟨h1, h2⟩ | ⟨h1, h2⟩ | ⟨h1, h2⟩ | ⟨h1, h2⟩ | ⟨h1, h2⟩ | ⟨h1, h2⟩ | ⟨h1, h2⟩ | ⟨h1, h2⟩ | ⟨h1, h2⟩ | ⟨h1, h2⟩ | ⟨h1, h2⟩ | ⟨h1, h2⟩ <;> rw [h1, h2]
    all_goals first
      | exact ⟨by kernel_rfl, _, _, rfl, rfl, hI _ _⟩
      | exact ⟨by kernel_rfl, _, _, rfl, rfl, hB _ _⟩
set_option maxRecDepth 100000 in
set_option maxHeartbeats 4000000 in
theorem opSame_any (d l t g : Int) (b0 b1 b2 b3 b4 b5 b6 b7 b8 b9 : Bool) (d' l' t' g' : Int) (a0 a1 a2 a3 a4 a5 a6 a7 a8 a9 : Bool) (y : Bool) (hy : ((d == d') && (l == l') && (t == t') && (g == g') && (b0 == a0) && (b1 == a1) && (b2 == a2) && (b3 == a3) && (b4 == a4) && (b5 == a5) && (b6 == a6) && (b7 == a7) && (b8 == a8) && (b9 == a9)) = y) (w : World) :
    Calls Tryd.prog 12 #[.agg #[.int .i64 d, .int .i64 l, .int .i64 t, .int .i64 g, .bool b0, .bool b1, .bool b2, .bool b3, .bool b4, .bool b5, .bool b6, .bool b7, .bool b8, .bool b9], .agg #[.int .i64 d', .int .i64 l', .int .i64 t', .int .i64 g', .bool a0, .bool a1, .bool a2, .bool a3, .bool a4, .bool a5, .bool a6, .bool a7, .bool a8, .bool a9]] w fun e w' => e = .returned (.bool y) ∧ Below w.heap.size w w' := by
  have hq := optsEq d l t g b0 b1 b2 b3 b4 b5 b6 b7 b8 b9 d' l' t' g' a0 a1 a2 a3 a4 a5 a6 a7 a8 a9
  simp only [hy] at hq
  clear hy
  go_enter Tryd.func12, Tryd.ntmps12
  go_wp2
  go_ret
  exact ⟨rfl, below_self (below_new _ _) (below_new _ _)⟩
set_option maxRecDepth 100000 in
set_option maxHeartbeats 4000000 in
theorem refSame_any (d l t g : Int) (b0 b1 b2 b3 b4 b5 b6 b7 b8 b9 : Bool) (d' l' t' g' : Int) (a0 a1 a2 a3 a4 a5 a6 a7 a8 a9 : Bool) (y : Bool) (hy : ((d == d') && (l == l') && (t == t') && (g == g') && (b0 == a0) && (b1 == a1) && (b2 == a2) && (b3 == a3) && (b4 == a4) && (b5 == a5) && (b6 == a6) && (b7 == a7) && (b8 == a8) && (b9 == a9)) = y) (w : World) :
    Calls Tryd.prog 13 #[.agg #[.int .i64 d, .int .i64 l, .int .i64 t, .int .i64 g, .bool b0, .bool b1, .bool b2, .bool b3, .bool b4, .bool b5, .bool b6, .bool b7, .bool b8, .bool b9], .agg #[.int .i64 d', .int .i64 l', .int .i64 t', .int .i64 g', .bool a0, .bool a1, .bool a2, .bool a3, .bool a4, .bool a5, .bool a6, .bool a7, .bool a8, .bool a9]] w fun e w' => e = .returned (.bool y) ∧ Below w.heap.size w w' := by
  have hq := optsEq d l t g b0 b1 b2 b3 b4 b5 b6 b7 b8 b9 d' l' t' g' a0 a1 a2 a3 a4 a5 a6 a7 a8 a9
  simp only [hy] at hq
  clear hy
  go_enter Tryd.func13, Tryd.ntmps13
  go_wp2
  go_ret
  exact ⟨rfl, below_self (below_new _ _) (below_new _ _)⟩
end Go.Proofs.YtcdogkabdhbjmaaDoor
/- Options that go together, made of any: naskhplain.held and Right. -/
namespace Go.Proofs.YtcdogkabdhbjmaaDoor
open Go.RowKit

def heldF (n m : Int) : Int := n % 18446744073709551616 % (m + 1)
theorem heldF_le (n m : Int) (hm : 0 ≤ m) : 0 ≤ heldF n m ∧ heldF n m ≤ m := by
  unfold heldF
  have h1 := Int.emod_nonneg (n % 18446744073709551616) (show m + 1 ≠ 0 by omega)
  have h2 := Int.emod_lt_of_pos (n % 18446744073709551616) (show 0 < m + 1 by omega)
  omega
set_option maxRecDepth 100000 in
theorem held_any (n m : Int) (hm : 0 ≤ m ∧ m ≤ 4) (w : World) : Calls Tryd.prog 39 #[.int .i64 n, .int .i64 m] w fun e w' => e = .returned (.int .i64 (heldF n m)) ∧ w = w' := by
  obtain ⟨m0, m1⟩ := hm
  go_enter Tryd.func39, Tryd.ntmps39
  go_wp2
  go_ret
  refine ⟨?_, rfl⟩
  have h1 : IntKind.u64.wrap n = n % 18446744073709551616 := IntKind.wrap_u64 n
  have h0 := Int.emod_nonneg n (show (18446744073709551616 : Int) ≠ 0 by decide)
  have h2 := heldF_le n m m0
  rw [h1, Int.tmod_eq_emod_of_nonneg h0]
  have h3 : wrap64 (n % 18446744073709551616 % (m + 1)) = heldF n m := by
    unfold heldF at h2 ⊢
    unfold wrap64
    omega
  rw [h3]
  rfl
/-- What does not go together is let go. -/
def cut1 (o : Opt) : Opt := if o.b1 = true then o else { o with l := 0, t := 0, b3 := false, b4 := false, b5 := false }
def cut2 (o : Opt) : Opt := if o.l = 0 then { o with b2 := false } else o
def cut3 (o : Opt) : Opt := if o.t = 3 ∨ o.t = 4 then { o with b3 := false } else o
def cut4 (o : Opt) : Opt := if o.b6 = true then o else { o with b7 := false }
def heldO (o : Opt) : Opt := { o with d := heldF o.d 3, l := heldF o.l 4, t := heldF o.t 4, g := heldF o.g 4 }
def rightF (o : Opt) : Opt := cut4 (cut3 (cut2 (cut1 (heldO o))))
end Go.Proofs.YtcdogkabdhbjmaaDoor
