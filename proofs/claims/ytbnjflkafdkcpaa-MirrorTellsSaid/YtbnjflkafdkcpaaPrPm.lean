/- pairs.Mirror, walked. -/
import Derived.Test.YtbnjflkafdkcpaaPrP3
import Derived.Test.YtbnjflkafdkcpaaPrMs
namespace Go.Proofs.Ytbnjflkafdkcpaa
open Go.RowKit

set_option maxRecDepth 100000 in
set_option maxHeartbeats 1000000 in
theorem prMirror_any (q : Int) (w : World) : Calls Try.prog 43 #[.int .i64 q] w fun e w' => e = .returned (.int .i64 (mirF q)) ∧ Below w.heap.size w w' := by
  obtain ⟨x, y, ok, h1⟩ : ∃ x y ok, hitP (opP q) mirL = (x, y, ok) := ⟨_, _, _, rfl⟩
  obtain ⟨x', y', ok', h2⟩ : ∃ x y ok, hitP (clP q) mirL = (x, y, ok) := ⟨_, _, _, rfl⟩
  have HV := Lib.hid (show mirF q = if ok = true then y else if ok' = true then x' else q by unfold mirF; rw [h1, h2])
  have H1 := Lib.hid h1
  have H2 := Lib.hid h2
  clear h1 h2
  go_enter Try.func43, Try.ntmps43
  go_wp2_with fail
  refine (mirrors_any _).mono ?_
  rintro e w1 ⟨⟨A, rfl, hr⟩, hb1⟩
  go_wp2_with fail
  refine (opens_any q _).mono ?_
  rintro e w2 ⟨⟨b, rfl, hc⟩, hb2⟩
  have HR2 := Lib.hid (hr.below hb2)
  have hb3 := below_self hb1 hb2
  clear hr hb1 hb2
  go_wp2_with fail
  refine (findOp_any x y ok q b A 51 51 mirL _ H1.out hc HR2.out (by unfold maxLen; omega)).mono ?_
  rintro e w3 ⟨rfl, hb⟩
  have hb4 := below_self hb3 hb
  have HR3 := Lib.hid (HR2.out.below hb)
  clear hb hb3 hc HR2
  have hb5 := hb4.alloc hb4.size (.cells #[.int .i64 x, .int .i64 y] 57)
  have HR4 := Lib.hid (HR3.out.alloc (.cells #[.int .i64 x, .int .i64 y] 57))
  cases ok
  · go_wp2_with fail
    refine (closes_any q _).mono ?_
    rintro e w4 ⟨⟨b', rfl, hc⟩, hb⟩
    have hb6 := below_self hb5 hb
    have HR5 := Lib.hid (HR4.out.below hb)
    clear hb hb5 HR4
    go_wp2_with fail
    refine (findCl_any x' y' ok' q b' A 51 51 mirL _ H2.out hc HR5.out (by unfold maxLen; omega)).mono ?_
    rintro e w5 ⟨rfl, hb⟩
    have hb7 := below_self hb6 hb
    clear hb hb6 hc HR5
    have hb8 := hb7.alloc hb7.size (.cells #[.int .i64 x', .int .i64 y'] 57)
    cases ok' <;> (go_wp2; go_ret; exact ⟨by rw [HV.out]; rfl, by first | exact hb8 | exact hb7⟩)
  · go_wp2
    go_ret
    exact ⟨by rw [HV.out]; rfl, by first | exact hb5 | exact hb4⟩
end Go.Proofs.Ytbnjflkafdkcpaa
