/- What the functions of wide and of its reference on one number hand back: the walk of each, for every number. -/
import Derived.Test.YtoopchpolcfdaaaDoorMem
namespace Go.Proofs.YtoopchpolcfdaaaDoor
open Go.RowKit

def wholeB (c : Int) : Bool := decide (0 ≤ c ∧ c ≤ 1114111 ∧ (c < 55296 ∨ 57343 < c))
def illWB (c : Int) : Bool := decide (1169408 ≤ c ∧ c ≤ 1171455)
def inPairsB (c : Int) : Bool := decide (55296 ≤ c ∧ c ≤ 57343)
def isLowB (c : Int) : Bool := decide (56320 ≤ c ∧ c ≤ 57343)

theorem retT {p : Prop} [Decidable p] (h : p) : Ending.returned (.bool true) = .returned (.bool (decide p)) := by rw [decide_eq_true h]
theorem retF {p : Prop} [Decidable p] (h : ¬ p) : Ending.returned (.bool false) = .returned (.bool (decide p)) := by rw [decide_eq_false h]

theorem parts (c : Int) : c < 0 ∨ (0 ≤ c ∧ c < 55296) ∨ (55296 ≤ c ∧ c ≤ 57343) ∨ (57343 < c ∧ c < 65536) ∨ (65536 ≤ c ∧ c ≤ 1114111) ∨ (1114111 < c ∧ c < 1169408) ∨ (1169408 ≤ c ∧ c ≤ 1171455) ∨ 1171455 < c := by omega

theorem refWhole_any (c : Int) (w : World) :
    Calls Tryd.prog 24 #[.int .i64 c] w fun e w' => e = .returned (.bool (wholeB c)) ∧ w = w' := by
  rcases parts c with h | ⟨h, h'⟩ | ⟨h, h'⟩ | ⟨h, h'⟩ | ⟨h, h'⟩ | ⟨h, h'⟩ | ⟨h, h'⟩ | h <;>
    (go_enter Tryd.func24, Tryd.ntmps24
     go_wp2
     go_ret
     refine ⟨retB ?_, rfl⟩
     simp [wholeB]
     try omega)

theorem inPairs_any (c : Int) (w : World) :
    Calls Tryd.prog 43 #[.int .i64 c] w fun e w' => e = .returned (.bool (inPairsB c)) ∧ w = w' := by
  rcases parts c with h | ⟨h, h'⟩ | ⟨h, h'⟩ | ⟨h, h'⟩ | ⟨h, h'⟩ | ⟨h, h'⟩ | ⟨h, h'⟩ | h <;>
    (go_enter Tryd.func43, Tryd.ntmps43
     go_wp2
     go_ret
     refine ⟨retB ?_, rfl⟩
     simp [inPairsB]
     try omega)

theorem isLow_any (c : Int) (w : World) :
    Calls Tryd.prog 51 #[.int .i64 c] w fun e w' => e = .returned (.bool (isLowB c)) ∧ w = w' := by
  have hc : c < 56320 ∨ (56320 ≤ c ∧ c ≤ 57343) ∨ 57343 < c := by omega
  rcases hc with h | ⟨h, h'⟩ | h <;>
    (go_enter Tryd.func51, Tryd.ntmps51
     go_wp2
     go_ret
     refine ⟨retB ?_, rfl⟩
     simp [isLowB]
     try omega)

theorem refIll_any (c : Int) (w : World) :
    Calls Tryd.prog 42 #[.int .i64 c] w fun e w' => e = .returned (.bool (illWB c)) ∧ w = w' := by
  rcases parts c with h | ⟨h, h'⟩ | ⟨h, h'⟩ | ⟨h, h'⟩ | ⟨h, h'⟩ | ⟨h, h'⟩ | ⟨h, h'⟩ | h <;>
    (go_enter Tryd.func42, Tryd.ntmps42
     go_wp2
     go_ret
     refine ⟨retB ?_, rfl⟩
     simp [illWB]
     try omega)

theorem whole_any (c : Int) (w : World) :
    Calls Tryd.prog 23 #[.int .i64 c] w fun e w' => e = .returned (.bool (wholeB c)) ∧ w = w' := by
  rcases parts c with h | ⟨h, h'⟩ | ⟨h, h'⟩ | ⟨h, h'⟩ | ⟨h, h'⟩ | ⟨h, h'⟩ | ⟨h, h'⟩ | h <;>
    (go_enter Tryd.func23, Tryd.ntmps23
     go_wp2
     go_ret
     refine ⟨retB ?_, rfl⟩
     simp [wholeB]
     try omega)

def sizeW (c : Int) : Int := if wholeB c = true then (if 65536 ≤ c then 2 else 1) else if illWB c = true then 1 else 0
theorem sizeW_0 {c : Int} (h : wholeB c = false) (h' : illWB c = false) : sizeW c = 0 := by simp [sizeW, h, h']
theorem sizeW_2 {c : Int} (h : 65536 ≤ c) (h' : c ≤ 1114111) : sizeW c = 2 := by
  have : wholeB c = true := decide_eq_true (by omega)
  simp [sizeW, this, h]
theorem sizeW_1 {c : Int} (h : 0 ≤ c) (h' : c < 65536) (hn : c < 55296 ∨ 57343 < c) : sizeW c = 1 := by
  have : wholeB c = true := decide_eq_true (by omega)
  have : ¬ 65536 ≤ c := by omega
  simp [sizeW, *]
theorem sizeW_ill {c : Int} (h : 1169408 ≤ c) (h' : c ≤ 1171455) : sizeW c = 1 := by
  have : wholeB c = false := decide_eq_false (by omega)
  have : illWB c = true := decide_eq_true (by omega)
  simp [sizeW, *]
theorem sizeW_n {c : Int} (h : ¬ (0 ≤ c ∧ c ≤ 1114111 ∧ (c < 55296 ∨ 57343 < c))) (h' : ¬ (1169408 ≤ c ∧ c ≤ 1171455)) : sizeW c = 0 :=
  sizeW_0 (decide_eq_false h) (decide_eq_false h')

theorem whole_parts (c : Int) : wholeB c = true ∧ (0 ≤ c ∧ c ≤ 1114111 ∧ (c < 55296 ∨ 57343 < c)) ∨ wholeB c = false ∧ ¬ (0 ≤ c ∧ c ≤ 1114111 ∧ (c < 55296 ∨ 57343 < c)) := by
  by_cases h : (0 ≤ c ∧ c ≤ 1114111 ∧ (c < 55296 ∨ 57343 < c))
  · exact .inl ⟨decide_eq_true h, h⟩
  · exact .inr ⟨decide_eq_false h, h⟩
theorem ill_parts (c : Int) : illWB c = true ∧ (1169408 ≤ c ∧ c ≤ 1171455) ∨ illWB c = false ∧ ¬ (1169408 ≤ c ∧ c ≤ 1171455) := by
  by_cases h : (1169408 ≤ c ∧ c ≤ 1171455)
  · exact .inl ⟨decide_eq_true h, h⟩
  · exact .inr ⟨decide_eq_false h, h⟩

theorem refSize_any (c : Int) (w : World) :
    Calls Tryd.prog 26 #[.int .i64 c] w fun e w' => e = .returned (.int .i64 (sizeW c)) ∧ w = w' := by
  rcases whole_parts c with ⟨hw, h⟩ | ⟨hw, h⟩
  · by_cases h2 : 65536 ≤ c <;>
    (go_enter Tryd.func26, Tryd.ntmps26
     go_wp2_with (first | (go_at_call 24; refine (refWhole_any c _).mono ?_; rintro e w' ⟨rfl, rfl⟩) | (go_at_call 42; refine (refIll_any c _).mono ?_; rintro e w' ⟨rfl, rfl⟩))
     go_ret
     exact ⟨retI (by simp [sizeW, hw, h2]), rfl⟩)
  · rcases ill_parts c with ⟨hi, h'⟩ | ⟨hi, h'⟩ <;>
    (go_enter Tryd.func26, Tryd.ntmps26
     go_wp2_with (first | (go_at_call 24; refine (refWhole_any c _).mono ?_; rintro e w' ⟨rfl, rfl⟩) | (go_at_call 42; refine (refIll_any c _).mono ?_; rintro e w' ⟨rfl, rfl⟩))
     go_ret
     exact ⟨retI (by simp [sizeW, hw, hi]), rfl⟩)

/-- The array of stretches, as the program's text lays it: its twelve cells. -/
def Stretches (w : World) : Prop :=
  w.cell? ⟨0, 0, none⟩ = some (.int .i64 0) ∧ w.cell? ⟨0, 1, none⟩ = some (.int .i64 55295) ∧ w.cell? ⟨0, 2, none⟩ = some (.int .i64 1) ∧
  w.cell? ⟨0, 3, none⟩ = some (.int .i64 57344) ∧ w.cell? ⟨0, 4, none⟩ = some (.int .i64 65535) ∧ w.cell? ⟨0, 5, none⟩ = some (.int .i64 1) ∧
  w.cell? ⟨0, 6, none⟩ = some (.int .i64 65536) ∧ w.cell? ⟨0, 7, none⟩ = some (.int .i64 1114111) ∧ w.cell? ⟨0, 8, none⟩ = some (.int .i64 2) ∧
  w.cell? ⟨0, 9, none⟩ = some (.int .i64 1169408) ∧ w.cell? ⟨0, 10, none⟩ = some (.int .i64 1171455) ∧ w.cell? ⟨0, 11, none⟩ = some (.int .i64 1)

set_option maxHeartbeats 2000000 in
theorem size_any (c : Int) (w : World) (hs : Stretches w) :
    Calls Tryd.prog 25 #[.int .i64 c] w fun e w' => e = .returned (.int .i64 (sizeW c)) ∧ Below w.heap.size w w' := by
  obtain ⟨s0, s1, s2, s3, s4, s5, s6, s7, s8, s9, s10, s11⟩ := hs
  have i0 : ∀ w, (Instr.index 52 (.agg #[.int .i64 0, .int .i64 55295, .int .i64 1, .int .i64 57344, .int .i64 65535, .int .i64 1, .int .i64 65536, .int .i64 1114111, .int .i64 2, .int .i64 1169408, .int .i64 1171455, .int .i64 1]) (.int .i64 0)).run Tryd.prog w = .ok (.agg #[.int .i64 0, .int .i64 55295, .int .i64 1]) w := fun _ => by kernel_rfl
  have i1 : ∀ w, (Instr.index 52 (.agg #[.int .i64 0, .int .i64 55295, .int .i64 1, .int .i64 57344, .int .i64 65535, .int .i64 1, .int .i64 65536, .int .i64 1114111, .int .i64 2, .int .i64 1169408, .int .i64 1171455, .int .i64 1]) (.int .i64 1)).run Tryd.prog w = .ok (.agg #[.int .i64 57344, .int .i64 65535, .int .i64 1]) w := fun _ => by kernel_rfl
  have i2 : ∀ w, (Instr.index 52 (.agg #[.int .i64 0, .int .i64 55295, .int .i64 1, .int .i64 57344, .int .i64 65535, .int .i64 1, .int .i64 65536, .int .i64 1114111, .int .i64 2, .int .i64 1169408, .int .i64 1171455, .int .i64 1]) (.int .i64 2)).run Tryd.prog w = .ok (.agg #[.int .i64 65536, .int .i64 1114111, .int .i64 2]) w := fun _ => by kernel_rfl
  have i3 : ∀ w, (Instr.index 52 (.agg #[.int .i64 0, .int .i64 55295, .int .i64 1, .int .i64 57344, .int .i64 65535, .int .i64 1, .int .i64 65536, .int .i64 1114111, .int .i64 2, .int .i64 1169408, .int .i64 1171455, .int .i64 1]) (.int .i64 3)).run Tryd.prog w = .ok (.agg #[.int .i64 1169408, .int .i64 1171455, .int .i64 1]) w := fun _ => by kernel_rfl
  rcases parts c with h | ⟨h, h'⟩ | ⟨h, h'⟩ | ⟨h, h'⟩ | ⟨h, h'⟩ | ⟨h, h'⟩ | ⟨h, h'⟩ | h <;>
    (go_enter Tryd.func25, Tryd.ntmps25
     go_wp2
     refine wp_loop_rounds 5 ?_
     repeat (rw [rounds_succ]; go_wp2)
     go_ret
     refine ⟨retI ?_, by go_grown⟩
     first | exact (sizeW_n (by omega) (by omega)).symm | exact (sizeW_ill h h').symm | exact (sizeW_2 h h').symm | exact (sizeW_1 (by omega) (by omega) (by omega)).symm)
end Go.Proofs.YtoopchpolcfdaaaDoor
