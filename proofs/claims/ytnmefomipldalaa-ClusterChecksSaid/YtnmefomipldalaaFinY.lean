/- cluster's Finest where there is no map, walked. -/
import Derived.Test.YtnmefomipldalaaFinF
namespace Go.Proofs.Ytnmefomipldalaa
open Go.RowKit

set_option maxRecDepth 100000 in
set_option maxHeartbeats 200000 in
theorem prFinest_unfit (n m : Int) (q c : Nat) (A : Option Addr) (l : List Cl) (w : World) (hr : Rd w 4 A q (cellsC l)) (hq : q ≤ maxLen) (hfit : fitB n m l = false) :
    Calls Try.prog 16 #[.int .i64 n, .int .i64 m, .slice A q c] w fun e w' => e = .returned (.tuple #[.slice none 0 0, .int .i64 1]) ∧ Below w.heap.size w w' := by
  have HFIT := Lib.hid hfit
  have HR := Lib.hid (fit_any n m A q c l w hr hq)
  clear hfit hr hq
  go_enter Try.func16, Try.ntmps16
  go_wp2_with fail
  refine HR.out.mono ?_
  rintro e w1 ⟨rfl, hb1⟩
  rw [HFIT.out]
  go_wp2_with fail
  exact bodyPost_ret (v := .tuple #[.slice none 0 0, .int .i64 1]) (by simp [results, go_sem]) rfl ⟨rfl, hb1⟩
theorem fit_nums {n m : Int} {l : List Cl} (h : fitB n m l = true) : 0 ≤ n ∧ n ≤ 16777216 ∧ 0 ≤ m ∧ m ≤ 16777216 := by
  unfold fitB at h
  simp at h
  have hN := h.1
  unfold fitN at hN
  simp at hN
  omega
set_option maxRecDepth 100000 in
set_option maxHeartbeats 200000 in
theorem prFinest_removed (n m : Int) (q c : Nat) (A : Option Addr) (l : List Cl) (w : World) (hr : Rd w 4 A q (cellsC l)) (hq : q ≤ maxLen) (hfit : fitB n m l = true) (hm : m = 0) (hn : n ≠ 0) :
    Calls Try.prog 16 #[.int .i64 n, .int .i64 m, .slice A q c] w fun e w' => e = .returned (.tuple #[.slice none 0 0, .int .i64 8]) ∧ Below w.heap.size w w' := by
  have HFIT := Lib.hid hfit
  have HR := Lib.hid (fit_any n m A q c l w hr hq)
  have HZ := Lib.hid hm
  clear hfit hr hq hm
  go_enter Try.func16, Try.ntmps16
  go_wp2_with fail
  refine HR.out.mono ?_
  rintro e w1 ⟨rfl, hb1⟩
  rw [HFIT.out]
  rw [HZ.out]
  go_wp2_with fail
  exact bodyPost_ret (v := .tuple #[.slice none 0 0, .int .i64 8]) (by simp [results, go_sem]) rfl ⟨rfl, hb1⟩
set_option maxRecDepth 100000 in
set_option maxHeartbeats 200000 in
theorem prFinest_none (n m : Int) (q c : Nat) (A : Option Addr) (l : List Cl) (w : World) (hr : Rd w 4 A q (cellsC l)) (hq : q ≤ maxLen) (hfit : fitB n m l = true) (hn : n = 0) (hm : m ≠ 0) :
    Calls Try.prog 16 #[.int .i64 n, .int .i64 m, .slice A q c] w fun e w' => e = .returned (.tuple #[.slice none 0 0, .int .i64 13]) ∧ Below w.heap.size w w' := by
  have HFIT := Lib.hid hfit
  have HR := Lib.hid (fit_any n m A q c l w hr hq)
  have HZ := Lib.hid hn
  clear hfit hr hq hn
  go_enter Try.func16, Try.ntmps16
  go_wp2_with fail
  refine HR.out.mono ?_
  rintro e w1 ⟨rfl, hb1⟩
  rw [HFIT.out]
  rw [HZ.out]
  go_wp2_with fail
  exact bodyPost_ret (v := .tuple #[.slice none 0 0, .int .i64 13]) (by simp [results, go_sem]) rfl ⟨rfl, hb1⟩
set_option maxRecDepth 100000 in
set_option maxHeartbeats 200000 in
theorem prFinest_open (n m : Int) (q c : Nat) (A : Option Addr) (l : List Cl) (w : World) (hr : Rd w 4 A q (cellsC l)) (hq : q ≤ 1000000) (hfit : fitB n m l = true) (hz : (n ≠ 0 ∧ m ≠ 0) ∨ (n = 0 ∧ m = 0)) (hcov : ∀ l', List.Perm l' (l.map Prod.snd) → LoSorted l' → covB m l' = false) :
    Calls Try.prog 16 #[.int .i64 n, .int .i64 m, .slice A q c] w fun e w' => e = .returned (.tuple #[.slice none 0 0, .int .i64 13]) ∧ Below w.heap.size w w' := by
  have HFIT := Lib.hid hfit
  have HR := Lib.hid (fit_any n m A q c l w hr (by unfold maxLen; omega))
  have HC := Lib.hid (fun w1 (hb : Below w.heap.size w w1) => covered_any m A q c l w1 (hr.below hb) hq)
  have HCOV := Lib.hid hcov
  clear hfit hr hq hcov
  go_enter Try.func16, Try.ntmps16
  go_wp2_with fail
  refine HR.out.mono ?_
  rintro e w1 ⟨rfl, hb1⟩
  rw [HFIT.out]
  rcases hz with ⟨h1, h2⟩ | ⟨rfl, rfl⟩
  · have hm1 : (m == 0) = false := by simpa using h2
    have hn1 : (n == 0) = false := by simpa using h1
    clear h1 h2
    go_wp2_with fail
    refine (HC.out w1 hb1).mono ?_
    rintro e w2 ⟨l', hp, hs, rfl, hb2⟩
    rw [HCOV.out l' hp hs]
    have hb3 := hb1.trans (hb2.mono hb1.size)
    go_wp2_with fail
    exact bodyPost_ret (v := .tuple #[.slice none 0 0, .int .i64 13]) (by simp [results, go_sem]) rfl ⟨rfl, hb3⟩
  · go_wp2_with fail
    refine (HC.out w1 hb1).mono ?_
    rintro e w2 ⟨l', hp, hs, rfl, hb2⟩
    rw [HCOV.out l' hp hs]
    have hb3 := hb1.trans (hb2.mono hb1.size)
    go_wp2_with fail
    exact bodyPost_ret (v := .tuple #[.slice none 0 0, .int .i64 13]) (by simp [results, go_sem]) rfl ⟨rfl, hb3⟩
end Go.Proofs.Ytnmefomipldalaa
