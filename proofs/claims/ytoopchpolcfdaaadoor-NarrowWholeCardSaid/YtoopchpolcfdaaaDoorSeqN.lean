/- narrow.sequence, for each length of a sequence: the code and whether its size is that length, or that a byte behind the first one is none. -/
import Derived.Test.YtoopchpolcfdaaaDoorBits
import Derived.Test.YtoopchpolcfdaaaDoorNumN
namespace Go.Proofs.YtoopchpolcfdaaaDoor
open Go.RowKit

theorem retSeq {a b : Int} {p q : Bool} (h : a = b) (h' : p = true ↔ q = true) : Ending.returned (.tuple #[.int .i64 a, .bool p]) = .returned (.tuple #[.int .i64 b, .bool q]) := by rw [h, Bool.eq_iff_iff.2 h']

set_option maxHeartbeats 2000000 in
theorem seq1_yes (ad : Addr) (c : Nat) (x : Int) (w : World) (hs : TabN w) (hc : 1 ≤ c) (hx0 : 0 ≤ x) (hx1 : x < 128)
    (h0 : w.cell? ad = some (.int .u8 x)) :
    Calls Tryd.prog 53 #[.slice (some ad) 1 c] w fun e w' => e = .returned (.tuple #[.int .i64 x, .bool (decide (sizeN x = 1))]) ∧ ∃ q, w' = w.drewN q := by
  have h0' : w.cell? (ad.add 0) = some (.int .u8 x) := h0
  obtain ⟨hl, ⟨m0, m1, m2, m3, m4⟩, _⟩ := hs
  have hl' : ∀ q, Lasts (w.drewN q) := fun _ => hl
  by_cases hc1 : c = 1
  · subst hc1
    go_enter Tryd.func53, Tryd.ntmps53
    go_wp2
    go_quiet (fail)
    go_wp2
    refine wp_loop_rounds 2 ?_
    repeat (rw [rounds_succ]; go_wp2_with (go_at_call 36; refine (sizeN_any _ _ (hl' _)).mono ?_; rintro e w' ⟨rfl, rfl⟩))
    go_ret2
    exact ⟨retSeq rfl (by simp), _, rfl⟩
  · go_enter Tryd.func53, Tryd.ntmps53
    go_wp2
    go_quiet (fail)
    go_wp2
    refine wp_loop_rounds 2 ?_
    repeat (rw [rounds_succ]; go_wp2_with (go_at_call 36; refine (sizeN_any _ _ (hl' _)).mono ?_; rintro e w' ⟨rfl, rfl⟩))
    go_ret2
    exact ⟨retSeq rfl (by simp), _, rfl⟩

set_option maxHeartbeats 2000000 in
theorem seq2_yes (ad : Addr) (c : Nat) (x y : Int) (w : World) (hs : TabN w) (hc : 2 ≤ c) (hx0 : 192 ≤ x) (hx1 : x < 224) (hy0 : 128 ≤ y) (hy1 : y < 192)
    (h0 : w.cell? ad = some (.int .u8 x)) (h1 : w.cell? ⟨ad.block, ad.off + 1, none⟩ = some (.int .u8 y)) :
    Calls Tryd.prog 53 #[.slice (some ad) 2 c] w fun e w' => e = .returned (.tuple #[.int .i64 ((x - 192) * 64 + y % 64), .bool (decide (sizeN ((x - 192) * 64 + y % 64) = 2))]) ∧ ∃ q, w' = w.drewN q := by
  have h0' : w.cell? (ad.add 0) = some (.int .u8 x) := h0
  have hc1 : ¬ c = 1 := by omega
  obtain ⟨hl, ⟨m0, m1, m2, m3, m4⟩, _⟩ := hs
  have hny := andNot63_u8 y (by omega) (by omega)
  rw [show y / 64 * 64 = 128 by omega] at hny
  have hay := and63_u8 y (by omega) (by omega)
  have hoy := or6 (x - 192) (y % 64) (by omega) (by omega) (by omega) (by omega)
  have hl' : ∀ q, Lasts (w.drewN q) := fun _ => hl
  go_enter Tryd.func53, Tryd.ntmps53
  go_wp2
  go_quiet (fail)
  go_wp2
  refine wp_loop_rounds 3 ?_
  repeat (rw [rounds_succ]; go_wp2_with (go_at_call 36; refine (sizeN_any _ _ (hl' _)).mono ?_; rintro e w' ⟨rfl, rfl⟩))
  go_ret2
  exact ⟨retSeq rfl (by simp), _, rfl⟩

set_option maxHeartbeats 2000000 in
theorem seq2_no1 (ad : Addr) (c : Nat) (x y : Int) (w : World) (hs : TabN w) (hc : 2 ≤ c) (hx0 : 192 ≤ x) (hx1 : x < 224) (hy0 : 0 ≤ y) (hy1 : y ≤ 255) (hyn : y < 128 ∨ 192 ≤ y)
    (h0 : w.cell? ad = some (.int .u8 x)) (h1 : w.cell? ⟨ad.block, ad.off + 1, none⟩ = some (.int .u8 y)) :
    Calls Tryd.prog 53 #[.slice (some ad) 2 c] w fun e w' => e = .returned (.tuple #[.int .i64 0, .bool false]) ∧ ∃ q, w' = w.drewN q := by
  have h0' : w.cell? (ad.add 0) = some (.int .u8 x) := h0
  have hc1 : ¬ c = 1 := by omega
  obtain ⟨hl, ⟨m0, m1, m2, m3, m4⟩, _⟩ := hs
  have hny := andNot63_u8 y (by omega) (by omega)
  have hey : (y / 64 * 64 == 128) = false := by simp; omega
  have hfy : (y / 64 * 64 != 128) = true := by simp; omega
  clear hyn
  go_enter Tryd.func53, Tryd.ntmps53
  go_wp2
  go_quiet (fail)
  go_wp2
  refine wp_loop_rounds 3 ?_
  repeat (rw [rounds_succ]; go_wp2_with fail)
  go_ret2
  exact ⟨rfl, _, rfl⟩

set_option maxHeartbeats 2000000 in
theorem seq3_yes (ad : Addr) (c : Nat) (x y z : Int) (w : World) (hs : TabN w) (hc : 3 ≤ c) (hx0 : 224 ≤ x) (hx1 : x < 240) (hy0 : 128 ≤ y) (hy1 : y < 192) (hz0 : 128 ≤ z) (hz1 : z < 192)
    (h0 : w.cell? ad = some (.int .u8 x)) (h1 : w.cell? ⟨ad.block, ad.off + 1, none⟩ = some (.int .u8 y)) (h2 : w.cell? ⟨ad.block, ad.off + 2, none⟩ = some (.int .u8 z)) :
    Calls Tryd.prog 53 #[.slice (some ad) 3 c] w fun e w' => e = .returned (.tuple #[.int .i64 (((x - 224) * 64 + y % 64) * 64 + z % 64), .bool (decide (sizeN (((x - 224) * 64 + y % 64) * 64 + z % 64) = 3))]) ∧ ∃ q, w' = w.drewN q := by
  have h0' : w.cell? (ad.add 0) = some (.int .u8 x) := h0
  have hc1 : ¬ c = 1 := by omega
  obtain ⟨hl, ⟨m0, m1, m2, m3, m4⟩, _⟩ := hs
  have hny := andNot63_u8 y (by omega) (by omega)
  rw [show y / 64 * 64 = 128 by omega] at hny
  have hay := and63_u8 y (by omega) (by omega)
  have hoy := or6 (x - 224) (y % 64) (by omega) (by omega) (by omega) (by omega)
  have hnz := andNot63_u8 z (by omega) (by omega)
  rw [show z / 64 * 64 = 128 by omega] at hnz
  have haz := and63_u8 z (by omega) (by omega)
  have hoz := or6 ((x - 224) * 64 + y % 64) (z % 64) (by omega) (by omega) (by omega) (by omega)
  have hl' : ∀ q, Lasts (w.drewN q) := fun _ => hl
  go_enter Tryd.func53, Tryd.ntmps53
  go_wp2
  go_quiet (fail)
  go_wp2
  refine wp_loop_rounds 4 ?_
  repeat (rw [rounds_succ]; go_wp2_with (go_at_call 36; refine (sizeN_any _ _ (hl' _)).mono ?_; rintro e w' ⟨rfl, rfl⟩))
  go_ret2
  exact ⟨retSeq rfl (by simp), _, rfl⟩

set_option maxHeartbeats 2000000 in
theorem seq3_no1 (ad : Addr) (c : Nat) (x y : Int) (w : World) (hs : TabN w) (hc : 3 ≤ c) (hx0 : 224 ≤ x) (hx1 : x < 240) (hy0 : 0 ≤ y) (hy1 : y ≤ 255) (hyn : y < 128 ∨ 192 ≤ y)
    (h0 : w.cell? ad = some (.int .u8 x)) (h1 : w.cell? ⟨ad.block, ad.off + 1, none⟩ = some (.int .u8 y)) :
    Calls Tryd.prog 53 #[.slice (some ad) 3 c] w fun e w' => e = .returned (.tuple #[.int .i64 0, .bool false]) ∧ ∃ q, w' = w.drewN q := by
  have h0' : w.cell? (ad.add 0) = some (.int .u8 x) := h0
  have hc1 : ¬ c = 1 := by omega
  obtain ⟨hl, ⟨m0, m1, m2, m3, m4⟩, _⟩ := hs
  have hny := andNot63_u8 y (by omega) (by omega)
  have hey : (y / 64 * 64 == 128) = false := by simp; omega
  have hfy : (y / 64 * 64 != 128) = true := by simp; omega
  clear hyn
  go_enter Tryd.func53, Tryd.ntmps53
  go_wp2
  go_quiet (fail)
  go_wp2
  refine wp_loop_rounds 4 ?_
  repeat (rw [rounds_succ]; go_wp2_with fail)
  go_ret2
  exact ⟨rfl, _, rfl⟩

set_option maxHeartbeats 2000000 in
theorem seq3_no2 (ad : Addr) (c : Nat) (x y z : Int) (w : World) (hs : TabN w) (hc : 3 ≤ c) (hx0 : 224 ≤ x) (hx1 : x < 240) (hy0 : 128 ≤ y) (hy1 : y < 192) (hz0 : 0 ≤ z) (hz1 : z ≤ 255) (hzn : z < 128 ∨ 192 ≤ z)
    (h0 : w.cell? ad = some (.int .u8 x)) (h1 : w.cell? ⟨ad.block, ad.off + 1, none⟩ = some (.int .u8 y)) (h2 : w.cell? ⟨ad.block, ad.off + 2, none⟩ = some (.int .u8 z)) :
    Calls Tryd.prog 53 #[.slice (some ad) 3 c] w fun e w' => e = .returned (.tuple #[.int .i64 0, .bool false]) ∧ ∃ q, w' = w.drewN q := by
  have h0' : w.cell? (ad.add 0) = some (.int .u8 x) := h0
  have hc1 : ¬ c = 1 := by omega
  obtain ⟨hl, ⟨m0, m1, m2, m3, m4⟩, _⟩ := hs
  have hny := andNot63_u8 y (by omega) (by omega)
  rw [show y / 64 * 64 = 128 by omega] at hny
  have hay := and63_u8 y (by omega) (by omega)
  have hoy := or6 (x - 224) (y % 64) (by omega) (by omega) (by omega) (by omega)
  have hnz := andNot63_u8 z (by omega) (by omega)
  have hez : (z / 64 * 64 == 128) = false := by simp; omega
  have hfz : (z / 64 * 64 != 128) = true := by simp; omega
  clear hzn
  go_enter Tryd.func53, Tryd.ntmps53
  go_wp2
  go_quiet (fail)
  go_wp2
  refine wp_loop_rounds 4 ?_
  repeat (rw [rounds_succ]; go_wp2_with fail)
  go_ret2
  exact ⟨rfl, _, rfl⟩

set_option maxHeartbeats 2000000 in
theorem seq4_yes (ad : Addr) (c : Nat) (x y z t : Int) (w : World) (hs : TabN w) (hc : 4 ≤ c) (hx0 : 240 ≤ x) (hx1 : x ≤ 255) (hy0 : 128 ≤ y) (hy1 : y < 192) (hz0 : 128 ≤ z) (hz1 : z < 192) (ht0 : 128 ≤ t) (ht1 : t < 192)
    (h0 : w.cell? ad = some (.int .u8 x)) (h1 : w.cell? ⟨ad.block, ad.off + 1, none⟩ = some (.int .u8 y)) (h2 : w.cell? ⟨ad.block, ad.off + 2, none⟩ = some (.int .u8 z)) (h3 : w.cell? ⟨ad.block, ad.off + 3, none⟩ = some (.int .u8 t)) :
    Calls Tryd.prog 53 #[.slice (some ad) 4 c] w fun e w' => e = .returned (.tuple #[.int .i64 ((((x - 240) * 64 + y % 64) * 64 + z % 64) * 64 + t % 64), .bool (decide (sizeN ((((x - 240) * 64 + y % 64) * 64 + z % 64) * 64 + t % 64) = 4))]) ∧ ∃ q, w' = w.drewN q := by
  have h0' : w.cell? (ad.add 0) = some (.int .u8 x) := h0
  have hc1 : ¬ c = 1 := by omega
  obtain ⟨hl, ⟨m0, m1, m2, m3, m4⟩, _⟩ := hs
  have hny := andNot63_u8 y (by omega) (by omega)
  rw [show y / 64 * 64 = 128 by omega] at hny
  have hay := and63_u8 y (by omega) (by omega)
  have hoy := or6 (x - 240) (y % 64) (by omega) (by omega) (by omega) (by omega)
  have hnz := andNot63_u8 z (by omega) (by omega)
  rw [show z / 64 * 64 = 128 by omega] at hnz
  have haz := and63_u8 z (by omega) (by omega)
  have hoz := or6 ((x - 240) * 64 + y % 64) (z % 64) (by omega) (by omega) (by omega) (by omega)
  have hnt := andNot63_u8 t (by omega) (by omega)
  rw [show t / 64 * 64 = 128 by omega] at hnt
  have hat := and63_u8 t (by omega) (by omega)
  have hot := or6 (((x - 240) * 64 + y % 64) * 64 + z % 64) (t % 64) (by omega) (by omega) (by omega) (by omega)
  have hl' : ∀ q, Lasts (w.drewN q) := fun _ => hl
  go_enter Tryd.func53, Tryd.ntmps53
  go_wp2
  go_quiet (fail)
  go_wp2
  refine wp_loop_rounds 5 ?_
  repeat (rw [rounds_succ]; go_wp2_with (go_at_call 36; refine (sizeN_any _ _ (hl' _)).mono ?_; rintro e w' ⟨rfl, rfl⟩))
  go_ret2
  exact ⟨retSeq rfl (by simp), _, rfl⟩

set_option maxHeartbeats 2000000 in
theorem seq4_no1 (ad : Addr) (c : Nat) (x y : Int) (w : World) (hs : TabN w) (hc : 4 ≤ c) (hx0 : 240 ≤ x) (hx1 : x ≤ 255) (hy0 : 0 ≤ y) (hy1 : y ≤ 255) (hyn : y < 128 ∨ 192 ≤ y)
    (h0 : w.cell? ad = some (.int .u8 x)) (h1 : w.cell? ⟨ad.block, ad.off + 1, none⟩ = some (.int .u8 y)) :
    Calls Tryd.prog 53 #[.slice (some ad) 4 c] w fun e w' => e = .returned (.tuple #[.int .i64 0, .bool false]) ∧ ∃ q, w' = w.drewN q := by
  have h0' : w.cell? (ad.add 0) = some (.int .u8 x) := h0
  have hc1 : ¬ c = 1 := by omega
  obtain ⟨hl, ⟨m0, m1, m2, m3, m4⟩, _⟩ := hs
  have hny := andNot63_u8 y (by omega) (by omega)
  have hey : (y / 64 * 64 == 128) = false := by simp; omega
  have hfy : (y / 64 * 64 != 128) = true := by simp; omega
  clear hyn
  go_enter Tryd.func53, Tryd.ntmps53
  go_wp2
  go_quiet (fail)
  go_wp2
  refine wp_loop_rounds 5 ?_
  repeat (rw [rounds_succ]; go_wp2_with fail)
  go_ret2
  exact ⟨rfl, _, rfl⟩

set_option maxHeartbeats 2000000 in
theorem seq4_no2 (ad : Addr) (c : Nat) (x y z : Int) (w : World) (hs : TabN w) (hc : 4 ≤ c) (hx0 : 240 ≤ x) (hx1 : x ≤ 255) (hy0 : 128 ≤ y) (hy1 : y < 192) (hz0 : 0 ≤ z) (hz1 : z ≤ 255) (hzn : z < 128 ∨ 192 ≤ z)
    (h0 : w.cell? ad = some (.int .u8 x)) (h1 : w.cell? ⟨ad.block, ad.off + 1, none⟩ = some (.int .u8 y)) (h2 : w.cell? ⟨ad.block, ad.off + 2, none⟩ = some (.int .u8 z)) :
    Calls Tryd.prog 53 #[.slice (some ad) 4 c] w fun e w' => e = .returned (.tuple #[.int .i64 0, .bool false]) ∧ ∃ q, w' = w.drewN q := by
  have h0' : w.cell? (ad.add 0) = some (.int .u8 x) := h0
  have hc1 : ¬ c = 1 := by omega
  obtain ⟨hl, ⟨m0, m1, m2, m3, m4⟩, _⟩ := hs
  have hny := andNot63_u8 y (by omega) (by omega)
  rw [show y / 64 * 64 = 128 by omega] at hny
  have hay := and63_u8 y (by omega) (by omega)
  have hoy := or6 (x - 240) (y % 64) (by omega) (by omega) (by omega) (by omega)
  have hnz := andNot63_u8 z (by omega) (by omega)
  have hez : (z / 64 * 64 == 128) = false := by simp; omega
  have hfz : (z / 64 * 64 != 128) = true := by simp; omega
  clear hzn
  go_enter Tryd.func53, Tryd.ntmps53
  go_wp2
  go_quiet (fail)
  go_wp2
  refine wp_loop_rounds 5 ?_
  repeat (rw [rounds_succ]; go_wp2_with fail)
  go_ret2
  exact ⟨rfl, _, rfl⟩

set_option maxHeartbeats 2000000 in
theorem seq4_no3 (ad : Addr) (c : Nat) (x y z t : Int) (w : World) (hs : TabN w) (hc : 4 ≤ c) (hx0 : 240 ≤ x) (hx1 : x ≤ 255) (hy0 : 128 ≤ y) (hy1 : y < 192) (hz0 : 128 ≤ z) (hz1 : z < 192) (ht0 : 0 ≤ t) (ht1 : t ≤ 255) (htn : t < 128 ∨ 192 ≤ t)
    (h0 : w.cell? ad = some (.int .u8 x)) (h1 : w.cell? ⟨ad.block, ad.off + 1, none⟩ = some (.int .u8 y)) (h2 : w.cell? ⟨ad.block, ad.off + 2, none⟩ = some (.int .u8 z)) (h3 : w.cell? ⟨ad.block, ad.off + 3, none⟩ = some (.int .u8 t)) :
    Calls Tryd.prog 53 #[.slice (some ad) 4 c] w fun e w' => e = .returned (.tuple #[.int .i64 0, .bool false]) ∧ ∃ q, w' = w.drewN q := by
  have h0' : w.cell? (ad.add 0) = some (.int .u8 x) := h0
  have hc1 : ¬ c = 1 := by omega
  obtain ⟨hl, ⟨m0, m1, m2, m3, m4⟩, _⟩ := hs
  have hny := andNot63_u8 y (by omega) (by omega)
  rw [show y / 64 * 64 = 128 by omega] at hny
  have hay := and63_u8 y (by omega) (by omega)
  have hoy := or6 (x - 240) (y % 64) (by omega) (by omega) (by omega) (by omega)
  have hnz := andNot63_u8 z (by omega) (by omega)
  rw [show z / 64 * 64 = 128 by omega] at hnz
  have haz := and63_u8 z (by omega) (by omega)
  have hoz := or6 ((x - 240) * 64 + y % 64) (z % 64) (by omega) (by omega) (by omega) (by omega)
  have hnt := andNot63_u8 t (by omega) (by omega)
  have het : (t / 64 * 64 == 128) = false := by simp; omega
  have hft : (t / 64 * 64 != 128) = true := by simp; omega
  clear htn
  go_enter Tryd.func53, Tryd.ntmps53
  go_wp2
  go_quiet (fail)
  go_wp2
  refine wp_loop_rounds 5 ?_
  repeat (rw [rounds_succ]; go_wp2_with fail)
  go_ret2
  exact ⟨rfl, _, rfl⟩
end Go.Proofs.YtoopchpolcfdaaaDoor
