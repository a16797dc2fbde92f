/- naskhlaw30.awake. -/
import Derived.Test.YtaiefneimjdmhaaRuLg
import Derived.Test.YtaiefneimjdmhaaRuOd
import Derived.Test.YtaiefneimjdmhaaEqU
import Derived.Test.YtaiefneimjdmhaaEq
namespace Go.Proofs.Ytaiefneimjdmhaa
open Go.RowKit
theorem eqlU (a b c : Int) (w : World) : (binOp .eql 38 (.agg #[.int .i64 a, .int .i64 b, .int .i64 c]) (.agg #[.int .i64 a, .int .i64 b, .int .i64 c])).run Try.prog w = .ok (.bool true) w := by
  have u3 := Try.underlying3
  have a3 := Try.isAgg3
  have z3 := Try.sizeOf3
  have hS : Try.prog.underlying 38 = some (.struct (Try.prog.fieldsOf 38)) := by kernel_rfl
  have hp : Try.prog.stoodInHeld 38 = false := by kernel_rfl
  rw [run_eql_struct, show (10000 : Nat) = 9999 + 1 from rfl, run_equalIn_agg w 9999 38 _ _ hS hp]
  simp only [Program.fieldsOf, Try.underlying38]
  go_simp
theorem log_awake : logR [0, 1, 1] 3 = [(0, 1, 0), (1, 3, 1)] := by decide +kernel
theorem ord_awake : ordI [(0, 1, 0), (1, 3, 1)] = [0, 2, 1] := by decide +kernel
set_option maxRecDepth 100000 in
set_option maxHeartbeats 2000000 in
theorem awakeRu_any (w : World) : Calls Try.prog 21 #[] w fun e w' => e = .returned (.bool true) ∧ Below w.heap.size w w' := by
  have HV := Lib.hid (ruLogical_any (some ⟨w.heap.size, 0, none⟩) 3 3 [0, 1, 1] _ (Rd.new_ w [.int .i64 0, .int .i64 1, .int .i64 1] 3) (by omega))
  rw [log_awake] at HV
  have HB1 := Lib.hid (below_new w (.cells #[.int .i64 0, .int .i64 1, .int .i64 1] 3))
  have HOR := Lib.hid (fun (A : Option Addr) (c : Nat) (W : World) (h : Rd W 3 A 2 (cellsG [(0, 1, 0), (1, 3, 1)])) => ruOrder_any A 2 c [(0, 1, 0), (1, 3, 1)] W h (by omega) (by
    intro r hr _
    simp at hr
    rcases hr with rfl | rfl <;> decide))
  rw [ord_awake] at HOR
  have hq := eqlU 1 3 1
  have hg := guardU
  go_enter Try.func21, Try.ntmps21
  go_wp2_with (first
    | (go_at_call 23; refine HV.out.mono ?_; rintro e w3 ⟨v3, rfl, hv3, hb3⟩; obtain ⟨g3, c3, rfl, _, _⟩ := hv3.form (by simp); obtain ⟨_, c3', e3, hc3⟩ := own_form hv3; have HV3 := Lib.hid (Rd.of_own hv3); have HB3 := Lib.hid (below_self HB1.out hb3); have q0 := (hv3.cellAt 3 (by simp)).trans (show (cellsG [(0, 1, 0), (1, 3, 1)])[3]? = some (.int .i64 1) from rfl); have q1 := (hv3.cellAt 4 (by simp)).trans (show (cellsG [(0, 1, 0), (1, 3, 1)])[4]? = some (.int .i64 3) from rfl); have q2 := (hv3.cellAt 5 (by simp)).trans (show (cellsG [(0, 1, 0), (1, 3, 1)])[5]? = some (.int .i64 1) from rfl); clear hv3 hb3 e3)
    | (go_at_call 27; refine (HOR.out _ _ w3 HV3.out).mono ?_; rintro e w4 ⟨v4, rfl, hv4, hb4⟩; obtain ⟨A4, c4, rfl, _⟩ := own_form hv4; have HV4 := Lib.hid hv4; have HB4 := Lib.hid (below_self HB3.out hb4); clear hv4 hb4)
    | (go_at_call 12; refine (equalInt_b A4 (some ⟨w4.heap.size, 0, none⟩) 3 3 c4 3 [0, 2, 1] [0, 2, 1] (w4.alloc (.cells #[.int .i64 0, .int .i64 2, .int .i64 1] 3)) ((Rd.of_own HV4.out).alloc _) (Rd.new_ w4 [.int .i64 0, .int .i64 2, .int .i64 1] _) (by unfold maxLen; omega) (by unfold maxLen; omega)).mono ?_; rintro e w5 ⟨rfl, hb5⟩; have HB5 := Lib.hid (below_self HB4.out (below_self (below_new w4 _) hb5)); clear hb5)
    | fail)
  go_ret
  exact ⟨rfl, HB5.out⟩
end Go.Proofs.Ytaiefneimjdmhaa
