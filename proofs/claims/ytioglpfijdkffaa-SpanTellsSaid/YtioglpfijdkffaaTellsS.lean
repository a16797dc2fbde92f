/- naskhlaw03.SpanTells returns true for every span, place and slice of spans. -/
import Derived.Test.YtioglpfijdkffaaLawS
import Derived.Test.YtioglpfijdkffaaFindP
import Derived.Test.YtioglpfijdkffaaHullP
import Derived.Test.YtioglpfijdkffaaEqS
import Derived.Laws.StructEq
namespace Go.Proofs.Ytioglpfijdkffaa
open Go.RowKit

theorem eqlS_same (a b : Int) (w : World) : (binOp .eql 23 (.agg #[.int .i64 a, .int .i64 b]) (.agg #[.int .i64 a, .int .i64 b])).run Try.prog w = .ok (.bool true) w := by
  have u3 := Try.underlying3
  have a3 := Try.isAgg3
  have z3 := Try.sizeOf3
  have hS : Try.prog.underlying 23 = some (.struct (Try.prog.fieldsOf 23)) := by kernel_rfl
  have hp : Try.prog.stoodInHeld 23 = false := by kernel_rfl
  rw [run_eql_struct, show (10000 : Nat) = 9999 + 1 from rfl, run_equalIn_agg w 9999 23 _ _ hS hp]
  simp only [Program.fieldsOf, Try.underlying23]
  go_simp

set_option maxRecDepth 100000 in
set_option maxHeartbeats 4000000 in
theorem spanTells_any (lo hi p : Int) (A : Option Addr) (n c : Nat) (l : List Sp) (w : World) (hf : Fit hi) (hr : Rd w 2 A n (cellsS l)) (hn : n ≤ maxLen) :
    Calls Try.prog 3 #[.agg #[.int .i64 lo, .int .i64 hi], .int .i64 p, .slice A n c] w fun e w' => e = .returned (.bool true) ∧ Below w.heap.size w w' := by
  by_cases hlt : n ≤ 200
  · have heq := eqlS_same (hullS l).1 (hullS l).2
    go_enter Try.func3, Try.ntmps3
    go_wp2
    have hb0 := below_new w (.cells #[.int .i64 lo, .int .i64 hi] 23)
    have e0 : (w.alloc (.cells #[.int .i64 lo, .int .i64 hi] 23)).cell? ⟨w.heap.size, 0, none⟩ = some (.int .i64 lo) := by rw [World.cell?_alloc_at _ _ _ _ rfl]; rfl
    have e1 : (w.alloc (.cells #[.int .i64 lo, .int .i64 hi] 23)).cell? ⟨w.heap.size, 1, none⟩ = some (.int .i64 hi) := by rw [World.cell?_alloc_at _ _ _ _ rfl]; rfl
    have hr0 := hr.below hb0
    generalize (w.alloc (.cells #[.int .i64 lo, .int .i64 hi] 23)) = w0 at *
    obtain ⟨b, hb⟩ : ∃ b, w.heap.size = b := ⟨_, rfl⟩
    simp only [hb] at e0 e1 ⊢
    clear hb hr
    go_region_held3 (fun w' => w'.cell? ⟨b, 0, none⟩ = some (.int .i64 lo) ∧ w'.cell? ⟨b, 1, none⟩ = some (.int .i64 hi) ∧ Below w0.heap.size w0 w')
      (first
        | exact ⟨e0, e1, (Below.refl _ _).drew⟩
        | exact ⟨cell_below h1 (by assumption : _ ∧ _ ∧ Below w0.heap.size w0 _).1, cell_below h1 (by assumption : _ ∧ _ ∧ Below w0.heap.size w0 _).2.1, below_self (by assumption : _ ∧ _ ∧ Below w0.heap.size w0 _).2.2 h1⟩
        | exact ⟨cell_below h1 e0, cell_below h1 e1, below_self (Below.refl _ _).drew h1⟩)
      (first
        | (go_at_call 14; refine (prRight_any lo hi _).mono ?_; rintro e w3 ⟨rfl, h1⟩)
        | (go_at_call 15; refine (refRight_any lo hi _).mono ?_; rintro e w3 ⟨rfl, h1⟩)
        | (go_at_call 16; refine (prSizeS_any lo hi _ hf).mono ?_; rintro e w3 ⟨rfl, h1⟩)
        | (go_at_call 17; refine (refSizeS_any lo hi _ hf).mono ?_; rintro e w3 ⟨rfl, h1⟩)
        | (go_at_call 18; refine (prHas_any lo hi p _).mono ?_; rintro e w3 ⟨rfl, h1⟩)
        | (go_at_call 19; refine (refHas_any lo hi p _).mono ?_; rintro e w3 ⟨rfl, h1⟩)
        | (go_at_call 20; refine (prFind_any A n c l p _ (hr0.below (by first | exact (Below.refl _ _).drew | exact (by assumption : _ ∧ _ ∧ Below w0.heap.size w0 _).2.2)) hn).mono ?_; rintro e w3 ⟨rfl, h1⟩)
        | (go_at_call 21; refine (refFind_any A n c l p _ (hr0.below (by first | exact (Below.refl _ _).drew | exact (by assumption : _ ∧ _ ∧ Below w0.heap.size w0 _).2.2)) hn).mono ?_; rintro e w3 ⟨rfl, h1⟩)
        | (go_at_call 22; refine (prHull_any A n c l _ (hr0.below (by first | exact (Below.refl _ _).drew | exact (by assumption : _ ∧ _ ∧ Below w0.heap.size w0 _).2.2)) hn).mono ?_; rintro e w3 ⟨rfl, h1⟩)
        | (go_at_call 23; refine (refHull_any A n c l _ (hr0.below (by first | exact (Below.refl _ _).drew | exact (by assumption : _ ∧ _ ∧ Below w0.heap.size w0 _).2.2)) hn).mono ?_; rintro e w3 ⟨rfl, h1⟩)
        | (go_at_call 13; refine (awakeS_any _).mono ?_; rintro e w3 ⟨rfl, h1⟩))
    go_wp2
    go_ret
    have hfin := (by assumption : _ ∧ _ ∧ Below w0.heap.size w0 _).2.2
    exact ⟨rfl, below_self hb0 hfin⟩
  · go_enter Try.func3, Try.ntmps3
    go_wp2_with fail
    refine (awakeS_any _).mono ?_
    rintro e w1 ⟨rfl, hb⟩
    have hb1 := below_self (below_new w _) hb
    go_wp2
    go_ret
    exact ⟨rfl, hb1⟩
end Go.Proofs.Ytioglpfijdkffaa
