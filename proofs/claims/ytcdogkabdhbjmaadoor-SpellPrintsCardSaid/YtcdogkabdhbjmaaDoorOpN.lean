/- Options: kinds as one number. -/
import Derived.Test.YtcdogkabdhbjmaaDoorOpP1
namespace Go.Proofs.YtcdogkabdhbjmaaDoor
open Go.RowKit

def numAt (d l t g : Int) : Nat → Int
  | 0 => 0
  | 1 => d
  | 2 => d + 4 * l
  | 3 => d + 4 * l + 20 * t
  | _ => d + 4 * l + 20 * t + 100 * g
def oneAt : Nat → Int
  | 0 => 1
  | 1 => 4
  | 2 => 20
  | 3 => 100
  | _ => 500
set_option maxRecDepth 100000 in
set_option maxHeartbeats 4000000 in
theorem opNumber_any (d l t g : Int) (h0 : 0 ≤ d ∧ d ≤ 3 ∧ 0 ≤ l ∧ l ≤ 4 ∧ 0 ≤ t ∧ t ≤ 4 ∧ 0 ≤ g ∧ g ≤ 4) (w : World) (hK : KindsAt w) :
    Calls Tryd.prog 33 #[.agg #[.int .i64 d, .int .i64 l, .int .i64 t, .int .i64 g]] w fun e w' => e = .returned (.int .i64 (d + 4 * l + 20 * t + 100 * g)) ∧ Below w.heap.size w w' := by
  obtain ⟨d0, d1, l0, l1, t0, t1, g0, g1⟩ := h0
  have hb0 := below_new w (.cells #[.int .i64 d, .int .i64 l, .int .i64 t, .int .i64 g] 47)
  obtain ⟨z0, z1, z2, z3⟩ := hK.below hb0
  have HF := Lib.hid (FourAt.new_ w d l t g 47)
  have HB := Lib.hid hb0
  clear hb0 hK
  have i0 : ∀ w, (Instr.index 46 (.agg #[.int .i64 4, .int .i64 5, .int .i64 5, .int .i64 5]) (.int .i64 0)).run Tryd.prog w = .ok (.int .i64 4) w := fun _ => by kernel_rfl
  have i1 : ∀ w, (Instr.index 46 (.agg #[.int .i64 4, .int .i64 5, .int .i64 5, .int .i64 5]) (.int .i64 1)).run Tryd.prog w = .ok (.int .i64 5) w := fun _ => by kernel_rfl
  have i2 : ∀ w, (Instr.index 46 (.agg #[.int .i64 4, .int .i64 5, .int .i64 5, .int .i64 5]) (.int .i64 2)).run Tryd.prog w = .ok (.int .i64 5) w := fun _ => by kernel_rfl
  have i3 : ∀ w, (Instr.index 46 (.agg #[.int .i64 4, .int .i64 5, .int .i64 5, .int .i64 5]) (.int .i64 3)).run Tryd.prog w = .ok (.int .i64 5) w := fun _ => by kernel_rfl
  go_enter Tryd.func33, Tryd.ntmps33
  go_wp2
  clear z0 z1 z2 z3
  go_loopw [3, 4, 8] (fun n one i wr => ∃ (k : Nat) (N O : Int), k ≤ 4 ∧ i = .int .i64 k ∧ n = .int .i64 N ∧ one = .int .i64 O ∧ N = numAt d l t g k ∧ O = oneAt k ∧ FourAt wr w.heap.size d l t g ∧ Below w.heap.size w wr) (fun _ _ i _ => 4 - (intOf i).toNat)
  case atStart => exact ⟨0, 0, 1, Nat.zero_le _, rfl, rfl, rfl, rfl, rfl, HF.out, HB.out⟩
  case round =>
    clear HF HB
    obtain ⟨k, N, O, hk, rfl, rfl, rfl, hst⟩ := hrel
    have hcase : k = 0 ∨ k = 1 ∨ k = 2 ∨ k = 3 ∨ k = 4 := by omega
    clear hk
    rcases hcase with rfl | rfl | rfl | rfl | rfl
    · obtain ⟨hN, hO, hF, hb⟩ := hst
      simp only [numAt, oneAt] at hN hO
      subst hO
      have HX := Lib.hid hF
      have HN := Lib.hid hN
      obtain ⟨⟨c0, c1, c2, c3⟩, _⟩ := hF
      have hbd : -1000 ≤ N ∧ N ≤ 1000 := by omega
      obtain ⟨hbd1, hbd2⟩ := hbd
      clear hN
      go_wp2
      go_roundw
      case rel => exact ⟨1, N + d * 1, 4, by omega, by go_num, by go_num, by go_num, by simp only [numAt]; have := HN.out; omega, rfl, HX.out, hb⟩
      case measure => simp [intOf]
    · obtain ⟨hN, hO, hF, hb⟩ := hst
      simp only [numAt, oneAt] at hN hO
      subst hO
      have HX := Lib.hid hF
      have HN := Lib.hid hN
      obtain ⟨⟨c0, c1, c2, c3⟩, _⟩ := hF
      have hbd : -1000 ≤ N ∧ N ≤ 1000 := by omega
      obtain ⟨hbd1, hbd2⟩ := hbd
      clear hN
      go_wp2
      go_roundw
      case rel => exact ⟨2, N + l * 4, 20, by omega, by go_num, by go_num, by go_num, by simp only [numAt]; have := HN.out; omega, rfl, HX.out, hb⟩
      case measure => simp [intOf]
    · obtain ⟨hN, hO, hF, hb⟩ := hst
      simp only [numAt, oneAt] at hN hO
      subst hO
      have HX := Lib.hid hF
      have HN := Lib.hid hN
      obtain ⟨⟨c0, c1, c2, c3⟩, _⟩ := hF
      have hbd : -1000 ≤ N ∧ N ≤ 1000 := by omega
      obtain ⟨hbd1, hbd2⟩ := hbd
      clear hN
      go_wp2
      go_roundw
      case rel => exact ⟨3, N + t * 20, 100, by omega, by go_num, by go_num, by go_num, by simp only [numAt]; have := HN.out; omega, rfl, HX.out, hb⟩
      case measure => simp [intOf]
    · obtain ⟨hN, hO, hF, hb⟩ := hst
      simp only [numAt, oneAt] at hN hO
      subst hO
      have HX := Lib.hid hF
      have HN := Lib.hid hN
      obtain ⟨⟨c0, c1, c2, c3⟩, _⟩ := hF
      have hbd : -1000 ≤ N ∧ N ≤ 1000 := by omega
      obtain ⟨hbd1, hbd2⟩ := hbd
      clear hN
      go_wp2
      go_roundw
      case rel => exact ⟨4, N + g * 100, 500, by omega, by go_num, by go_num, by go_num, by simp only [numAt]; have := HN.out; omega, rfl, HX.out, hb⟩
      case measure => simp [intOf]
    · obtain ⟨hN, hO, hF, hb⟩ := hst
      simp only [numAt] at hN
      have HN := Lib.hid hN
      clear hN hO hF
      go_wp2
      go_ret
      exact ⟨retI HN.out, hb⟩
end Go.Proofs.YtcdogkabdhbjmaaDoor
