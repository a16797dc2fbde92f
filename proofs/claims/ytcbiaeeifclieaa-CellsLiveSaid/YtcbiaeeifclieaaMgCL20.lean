/- Texts of one claim, one behind the other. -/
import Derived.Test.YtcbiaeeifclieaaMgCL6
import Derived.Test.YtcbiaeeifclieaaMgCL19
/- Cells of no place, places of no cell: the program's Behind, the reference's Set, At, Ahead, Behind. -/
namespace Go.Proofs.Ytcbiaeeifclieaa
open Go.RowKit

set_option maxRecDepth 100000 in
set_option maxHeartbeats 1000000 in
theorem behind_zero (base b gc : Nat) (R : List RC) (va : Value) (ah : List Int) (A : Option Addr) (q c : Nat) (w : World) (hC : CellsAt w base b gc 0 R va ah) :
    Calls Try.prog 39 #[.pointer (some ⟨b, 0, none⟩), .slice A q c] w fun e w' => e = .returned (.int .i64 1) ∧ Below w.heap.size w w' := by
  have H := Lib.hid (all_any b (some ⟨gc, 0, none⟩) 0 0 w (hp_cell (j := 0) hC.hb rfl))
  clear hC
  go_enter Try.func39, Try.ntmps39
  go_wp2_with fail
  refine H.out.mono ?_
  rintro e w1 ⟨rfl, hb1⟩
  have hb2 := below_new w1 (.cells #[.int .i64 0, .int .i64 0] 33)
  have hz2 := below_self hb1 hb2
  go_wp2_with fail
  refine (prRight_any 0 0 _).mono ?_
  rintro e w3 ⟨rfl, hb3⟩
  rw [show rightB ((0 : Int), (0 : Int)) = false from rfl]
  have hb4 := below_self hz2 hb3
  clear hb3 hb2 hz2 hb1
  go_wp2_with fail
  go_ret
  exact ⟨rfl, hb4⟩
set_option maxRecDepth 100000 in
set_option maxHeartbeats 1000000 in
theorem rcSet_out (base b gl n : Nat) (Q : List Value) (L : List (List Int)) (J : Value) (i : Int) (A : Option Addr) (q c : Nat) (w : World) (hC : RCAt w base b gl n Q L J) (hi : ¬ (0 ≤ i ∧ i < n)) :
    Calls Try.prog 36 #[.pointer (some ⟨b, 0, none⟩), .int .i64 i, .slice A q c] w fun e w' => e = .returned (.int .i64 1) ∧ Below w.heap.size w w' := by
  have c0 := hp_cell (j := 0) hC.hb rfl
  have hc : i < 0 ∨ (0 ≤ i ∧ (n : Int) ≤ i) := by omega
  clear hC
  rcases hc with h | ⟨h, h'⟩
  all_goals
    go_enter Try.func36, Try.ntmps36
    go_wp2_with fail
    go_ret
    exact ⟨rfl, Below.refl _ _⟩
set_option maxRecDepth 100000 in
set_option maxHeartbeats 1000000 in
theorem rcAt_out (base b gl n : Nat) (Q : List Value) (L : List (List Int)) (J : Value) (i : Int) (w : World) (hC : RCAt w base b gl n Q L J) (hi : ¬ (0 ≤ i ∧ i < n)) :
    Calls Try.prog 16 #[.pointer (some ⟨b, 0, none⟩), .int .i64 i] w fun e w' => e = .returned (.slice none 0 0) ∧ Below w.heap.size w w' := by
  have c0 := hp_cell (j := 0) hC.hb rfl
  have hc : i < 0 ∨ (0 ≤ i ∧ (n : Int) ≤ i) := by omega
  clear hC
  rcases hc with h | ⟨h, h'⟩
  all_goals
    go_enter Try.func16, Try.ntmps16
    go_wp2_with fail
    go_ret
    exact ⟨rfl, Below.refl _ _⟩
set_option maxRecDepth 100000 in
set_option maxHeartbeats 1000000 in
theorem rcAhead_no (base b gl : Nat) (Q : List Value) (L : List (List Int)) (J : Value) (A : Option Addr) (q c : Nat) (w : World) (hC : RCAt w base b gl 0 Q L J) :
    Calls Try.prog 38 #[.pointer (some ⟨b, 0, none⟩), .slice A q c] w fun e w' => e = .returned (.int .i64 1) ∧ Below w.heap.size w w' := by
  have c0 := hp_cell (j := 0) hC.hb rfl
  clear hC
  go_enter Try.func38, Try.ntmps38
  go_wp2_with fail
  go_ret
  exact ⟨rfl, Below.refl _ _⟩
set_option maxRecDepth 100000 in
set_option maxHeartbeats 1000000 in
theorem rcBehind_no (base b gl : Nat) (Q : List Value) (L : List (List Int)) (J : Value) (A : Option Addr) (q c : Nat) (w : World) (hC : RCAt w base b gl 0 Q L J) :
    Calls Try.prog 40 #[.pointer (some ⟨b, 0, none⟩), .slice A q c] w fun e w' => e = .returned (.int .i64 1) ∧ Below w.heap.size w w' := by
  have c0 := hp_cell (j := 0) hC.hb rfl
  clear hC
  go_enter Try.func40, Try.ntmps40
  go_wp2_with fail
  go_ret
  exact ⟨rfl, Below.refl _ _⟩
end Go.Proofs.Ytcbiaeeifclieaa
