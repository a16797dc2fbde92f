/- Spans: what the reference's functions on spans hand back. -/
import Derived.Test.YtioglpfijdkffaaMem
namespace Go.Proofs.Ytioglpfijdkffaa
open Go.RowKit

abbrev Sp := Int × Int
def rightB (s : Sp) : Bool := decide (0 ≤ s.1 ∧ s.1 < s.2)
def sizeS (s : Sp) : Int := if rightB s = true then s.2 - s.1 else 0
def hasB (s : Sp) (at_ : Int) : Bool := decide (s.1 ≤ at_ ∧ at_ < s.2)
def encS (s : Sp) : List Value := [.int .i64 s.1, .int .i64 s.2]
def cellsS (l : List Sp) : List Value := l.flatMap encS
def valS (s : Sp) : Value := .agg #[.int .i64 s.1, .int .i64 s.2]
def Fit (x : Int) : Prop := -9223372036854775808 ≤ x ∧ x ≤ 9223372036854775807

theorem refRight_any (lo hi : Int) (w : World) :
    Calls Try.prog 15 #[.agg #[.int .i64 lo, .int .i64 hi]] w fun e w' => e = .returned (.bool (rightB (lo, hi))) ∧ Below w.heap.size w w' := by
  have hc : lo < 0 ∨ (0 ≤ lo ∧ lo < hi) ∨ (0 ≤ lo ∧ hi ≤ lo) := by omega
  rcases hc with h | ⟨h, h'⟩ | ⟨h, h'⟩ <;>
    (go_enter Try.func15, Try.ntmps15
     go_wp2
     go_ret
     refine ⟨retB ?_, below_new _ _⟩
     simp [rightB]
     try omega)

theorem refHas_any (lo hi p : Int) (w : World) :
    Calls Try.prog 19 #[.agg #[.int .i64 lo, .int .i64 hi], .int .i64 p] w fun e w' => e = .returned (.bool (hasB (lo, hi) p)) ∧ Below w.heap.size w w' := by
  have hc : p < lo ∨ (lo ≤ p ∧ p < hi) ∨ (lo ≤ p ∧ hi ≤ p) := by omega
  rcases hc with h | ⟨h, h'⟩ | ⟨h, h'⟩ <;>
    (go_enter Try.func19, Try.ntmps19
     go_wp2
     go_ret
     refine ⟨retB ?_, below_new _ _⟩
     simp [hasB]
     try omega)

theorem refSizeS_any (lo hi : Int) (w : World) (hf : Fit hi) :
    Calls Try.prog 17 #[.agg #[.int .i64 lo, .int .i64 hi]] w fun e w' => e = .returned (.int .i64 (sizeS (lo, hi))) ∧ Below w.heap.size w w' := by
  obtain ⟨f0, f1⟩ := hf
  cases h : rightB (lo, hi) with
  | true =>
    have h' := of_decide_eq_true h
    obtain ⟨h1, h2⟩ := h'
    simp only at h1 h2
    have HS := Lib.hid (show sizeS (lo, hi) = hi - lo from if_pos h)
    go_enter Try.func17, Try.ntmps17
    go_wp2_with fail
    refine (refRight_any lo hi _).mono ?_
    rintro e w1 ⟨rfl, hb⟩
    have hb1 := below_self (below_new w _) hb
    have c0 : w1.cell? ⟨w.heap.size, 0, none⟩ = some (.int .i64 lo) := cell_below hb (by rw [World.cell?_alloc_at _ _ _ _ rfl]; rfl)
    have c1 : w1.cell? ⟨w.heap.size, 1, none⟩ = some (.int .i64 hi) := cell_below hb (by rw [World.cell?_alloc_at _ _ _ _ rfl]; rfl)
    go_wp2
    go_ret
    exact ⟨retI HS.out.symm, hb1⟩
  | false =>
    have HS := Lib.hid (show sizeS (lo, hi) = 0 from if_neg (by rw [h]; decide))
    go_enter Try.func17, Try.ntmps17
    go_wp2_with fail
    refine (refRight_any lo hi _).mono ?_
    rintro e w1 ⟨rfl, hb⟩
    have hb1 := below_self (below_new w _) hb
    go_wp2
    go_ret
    exact ⟨retI HS.out.symm, hb1⟩
end Go.Proofs.Ytioglpfijdkffaa
