/- Options: the kinds of a number. -/
import Derived.Test.YtcdogkabdhbjmaaDoorOpN
namespace Go.Proofs.YtcdogkabdhbjmaaDoor
open Go.RowKit

def leftAt (m : Nat) : Nat → Nat
  | 0 => m
  | 1 => m / 4
  | 2 => m / 20
  | 3 => m / 100
  | _ => m / 500
def NumAt (w : World) (m k : Nat) (wr : World) : Prop := FourAt wr w.heap.size (if 0 < k then ((m % 4 : Nat) : Int) else 0) (if 1 < k then ((m / 4 % 5 : Nat) : Int) else 0) (if 2 < k then ((m / 20 % 5 : Nat) : Int) else 0) (if 3 < k then ((m / 100 % 5 : Nat) : Int) else 0) ∧ Below w.heap.size w wr
set_option maxRecDepth 100000 in
set_option maxHeartbeats 4000000 in
theorem opNumbered_any (m : Nat) (hm : m < 1000000) (q0 q1 q2 q3 : Int) (hq : ((m % 4 : Nat) : Int) = q0 ∧ ((m / 4 % 5 : Nat) : Int) = q1 ∧ ((m / 20 % 5 : Nat) : Int) = q2 ∧ ((m / 100 % 5 : Nat) : Int) = q3) (w : World) (hK : KindsAt w) :
    Calls Tryd.prog 36 #[.int .i64 m] w fun e w' => e = .returned (.agg #[.int .i64 q0, .int .i64 q1, .int .i64 q2, .int .i64 q3]) ∧ Below w.heap.size w w' := by
  have hb0 := below_new w (.cells #[.int .i64 0, .int .i64 0, .int .i64 0, .int .i64 0] 47)
  obtain ⟨z0, z1, z2, z3⟩ := hK.below hb0
  have HN0 := Lib.hid (show NumAt w m 0 _ from ⟨FourAt.new_ w 0 0 0 0 47, hb0⟩)
  have HQ := Lib.hid hq
  clear hb0 hK hq
  have i0 : ∀ w, (Instr.index 46 (.agg #[.int .i64 4, .int .i64 5, .int .i64 5, .int .i64 5]) (.int .i64 0)).run Tryd.prog w = .ok (.int .i64 4) w := fun _ => by kernel_rfl
  have i1 : ∀ w, (Instr.index 46 (.agg #[.int .i64 4, .int .i64 5, .int .i64 5, .int .i64 5]) (.int .i64 1)).run Tryd.prog w = .ok (.int .i64 5) w := fun _ => by kernel_rfl
  have i2 : ∀ w, (Instr.index 46 (.agg #[.int .i64 4, .int .i64 5, .int .i64 5, .int .i64 5]) (.int .i64 2)).run Tryd.prog w = .ok (.int .i64 5) w := fun _ => by kernel_rfl
  have i3 : ∀ w, (Instr.index 46 (.agg #[.int .i64 4, .int .i64 5, .int .i64 5, .int .i64 5]) (.int .i64 3)).run Tryd.prog w = .ok (.int .i64 5) w := fun _ => by kernel_rfl
  go_enter Tryd.func36, Tryd.ntmps36
  go_wp2
  clear z0 z1 z2 z3
  go_loopw [0, 6] (fun n i wr => ∃ k N : Nat, k ≤ 4 ∧ i = .int .i64 k ∧ n = .int .i64 N ∧ N = leftAt m k ∧ NumAt w m k wr) (fun _ i _ => 4 - (intOf i).toNat)
  case atStart => exact ⟨0, m, Nat.zero_le _, rfl, rfl, rfl, HN0.out⟩
  case round =>
    clear HN0
    obtain ⟨k, N, hk, rfl, rfl, hN, hst⟩ := hrel
    have hcase : k = 0 ∨ k = 1 ∨ k = 2 ∨ k = 3 ∨ k = 4 := by omega
    clear hk
    rcases hcase with rfl | rfl | rfl | rfl | rfl
    · have hF : FourAt wr w.heap.size 0 0 0 0 := hst.1
      have HX := Lib.hid (show NumAt w m 1 (wr.setCell ⟨w.heap.size, 0, none⟩ (.int .i64 ((m % 4 : Nat) : Int))) from ⟨hF.set0 _, below_setK hst.2 (Nat.le_refl _) _ _⟩)
      obtain ⟨⟨d0, d1, d2, d3⟩, hf⟩ := hF
      have hf0 := hf 0
      have hlt := cell_lt d0
      have hbd : N < 1000000 := by rw [hN]; exact hm
      have HN := Lib.hid hN
      clear hN hf hst
      go_wp2
      go_roundw
      case rel => exact ⟨1, N / 4, by omega, by go_num, by go_num, by rw [HN.out]; rfl, by have e := HX.out; rw [← show N = m from HN.out] at e ⊢; exact e⟩
      case measure => simp [intOf]
    · have hF : FourAt wr w.heap.size ((m % 4 : Nat) : Int) 0 0 0 := hst.1
      have HX := Lib.hid (show NumAt w m 2 (wr.setCell ⟨w.heap.size, 1, none⟩ (.int .i64 ((m / 4 % 5 : Nat) : Int))) from ⟨hF.set1 _, below_setK hst.2 (Nat.le_refl _) _ _⟩)
      obtain ⟨⟨d0, d1, d2, d3⟩, hf⟩ := hF
      have hf0 := hf 1
      have hlt := cell_lt d0
      have hN2 : N = m / 4 := hN
      have hbd : N < 1000000 := by rw [hN2]; omega
      have HN := Lib.hid hN2
      clear hN hN2 hf hst
      go_wp2
      go_roundw
      case rel => exact ⟨2, N / 5, by omega, by go_num, by go_num, by rw [HN.out]; show _ = m / 20; omega, by have e := HX.out; rw [← show N = m / 4 from HN.out] at e; exact e⟩
      case measure => simp [intOf]
    · have hF : FourAt wr w.heap.size ((m % 4 : Nat) : Int) ((m / 4 % 5 : Nat) : Int) 0 0 := hst.1
      have HX := Lib.hid (show NumAt w m 3 (wr.setCell ⟨w.heap.size, 2, none⟩ (.int .i64 ((m / 20 % 5 : Nat) : Int))) from ⟨hF.set2 _, below_setK hst.2 (Nat.le_refl _) _ _⟩)
      obtain ⟨⟨d0, d1, d2, d3⟩, hf⟩ := hF
      have hf0 := hf 2
      have hlt := cell_lt d0
      have hN2 : N = m / 20 := hN
      have hbd : N < 1000000 := by rw [hN2]; omega
      have HN := Lib.hid hN2
      clear hN hN2 hf hst
      go_wp2
      go_roundw
      case rel => exact ⟨3, N / 5, by omega, by go_num, by go_num, by rw [HN.out]; show _ = m / 100; omega, by have e := HX.out; rw [← show N = m / 20 from HN.out] at e; exact e⟩
      case measure => simp [intOf]
    · have hF : FourAt wr w.heap.size ((m % 4 : Nat) : Int) ((m / 4 % 5 : Nat) : Int) ((m / 20 % 5 : Nat) : Int) 0 := hst.1
      have HX := Lib.hid (show NumAt w m 4 (wr.setCell ⟨w.heap.size, 3, none⟩ (.int .i64 ((m / 100 % 5 : Nat) : Int))) from ⟨hF.set3 _, below_setK hst.2 (Nat.le_refl _) _ _⟩)
      obtain ⟨⟨d0, d1, d2, d3⟩, hf⟩ := hF
      have hf0 := hf 3
      have hlt := cell_lt d0
      have hN2 : N = m / 100 := hN
      have hbd : N < 1000000 := by rw [hN2]; omega
      have HN := Lib.hid hN2
      clear hN hN2 hf hst
      go_wp2
      go_roundw
      case rel => exact ⟨4, N / 5, by omega, by go_num, by go_num, by rw [HN.out]; show _ = m / 500; omega, by have e := HX.out; rw [← show N = m / 100 from HN.out] at e; exact e⟩
      case measure => simp [intOf]
    · have hF : FourAt wr w.heap.size ((m % 4 : Nat) : Int) ((m / 4 % 5 : Nat) : Int) ((m / 20 % 5 : Nat) : Int) ((m / 100 % 5 : Nat) : Int) := hst.1
      rw [HQ.out.1, HQ.out.2.1, HQ.out.2.2.1, HQ.out.2.2.2] at hF
      have HF := Lib.hid hF
      have HB := Lib.hid hst.2
      obtain ⟨⟨d0, d1, d2, d3⟩, hf⟩ := hF
      have hf0 := hf 0
      have hf1 := hf 1
      have hf2 := hf 2
      have hf3 := hf 3
      have hlt := cell_lt d0
      simp only at hlt
      clear hN hf hst
      go_wp2
      (try simp only [Exit.inBlock, Exit.then])
      obtain ⟨⟨e0, e1, e2, e3⟩, _⟩ := (((HF.out.set0 q0).set1 q1).set2 q2).set3 q3
      refine bodyPost_ret (v := .agg #[.int .i64 q0, .int .i64 q1, .int .i64 q2, .int .i64 q3]) ?_ rfl ⟨rfl, ?_⟩
      · simp [results, Tryd.results36, go_sem, e0, e1, e2, e3]
      · refine below_setK (below_setK (below_setK (below_setK HB.out ?_ _ _) ?_ _ _) ?_ _ _) ?_ _ _ <;> omega
end Go.Proofs.YtcdogkabdhbjmaaDoor
