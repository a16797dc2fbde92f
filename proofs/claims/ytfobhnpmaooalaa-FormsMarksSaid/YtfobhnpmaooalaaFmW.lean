/- naskhlaw09: awake, FormsGives, FormsTakes, FormsMarks, FormsBack. -/
import Derived.Test.YtfobhnpmaooalaaFmR2
namespace Go.Proofs.Ytfobhnpmaooalaa
open Go.RowKit

set_option maxRecDepth 100000 in
set_option maxHeartbeats 4000000 in
theorem awakeFm_any (w : World) : Calls Try.prog 25 #[] w fun e w' => e = .returned (.bool true) ∧ Below w.heap.size w w' := by
  have H1 := Lib.hid (show formF 1576 3 = (65169, true) by decide +kernel)
  have H2 := Lib.hid (show parF 65276 = (1575, 2, true) by decide +kernel)
  have H3 := Lib.hid (show preF 65139 = true by decide +kernel)
  go_enter Try.func25, Try.ntmps25
  go_wp2_with fail
  refine (fmForm_any 1576 3 65169 true H1.out (by omega) (by omega) _).mono ?_
  rintro e w1 ⟨rfl, hb1⟩
  go_wp2_with fail
  refine (fmParted_any 65276 1575 2 true H2.out _).mono ?_
  rintro e w2 ⟨rfl, hb⟩
  replace hb1 := below_self hb1 hb
  clear hb
  go_wp2_with fail
  refine (fmPresented_any 65139 true H3.out _).mono ?_
  rintro e w3 ⟨rfl, hb⟩
  replace hb1 := below_self hb1 hb
  clear hb
  go_wp2
  go_ret
  exact ⟨rfl, hb1⟩

set_option maxRecDepth 100000 in
set_option maxHeartbeats 4000000 in
theorem formsGives_any (b f : Int) (h0 : -9223372036854775808 ≤ f) (h9 : f ≤ 9223372036854775807) (w : World) : Calls Try.prog 6 #[.int .i64 b, .int .i64 f] w fun e w' => e = .returned (.bool true) ∧ Below w.heap.size w w' := by
  obtain ⟨x, k, h1⟩ : ∃ x k, formF b f = (x, k) := ⟨_, _, rfl⟩
  obtain ⟨y, m, h2⟩ : ∃ x k, ligF b f = (x, k) := ⟨_, _, rfl⟩
  have H1 := Lib.hid h1
  have H2 := Lib.hid h2
  have HA := Lib.hid h0
  have HZ := Lib.hid h9
  clear h1 h2 h0 h9
  go_enter Try.func6, Try.ntmps6
  go_wp2_with fail
  refine (fmForm_any b f x k H1.out HA.out HZ.out _).mono ?_
  rintro e w1 ⟨rfl, hb1⟩
  go_wp2_with fail
  refine (refForm_any b f x k H1.out _).mono ?_
  rintro e w2 ⟨rfl, hb⟩
  replace hb1 := below_self hb1 hb
  clear hb
  go_wp2_with fail
  refine (fmLigate_any b f y m H2.out HA.out HZ.out _).mono ?_
  rintro e w3 ⟨rfl, hb⟩
  replace hb1 := below_self hb1 hb
  clear hb
  go_wp2_with fail
  refine (refLigate_any b f y m H2.out _).mono ?_
  rintro e w4 ⟨rfl, hb⟩
  replace hb1 := below_self hb1 hb
  clear hb
  go_wp2_with fail
  refine (awakeFm_any _).mono ?_
  rintro e w5 ⟨rfl, hb⟩
  replace hb1 := below_self hb1 hb
  clear hb
  go_wp2
  go_ret
  exact ⟨rfl, hb1⟩

set_option maxRecDepth 100000 in
set_option maxHeartbeats 4000000 in
theorem formsTakes_any (c : Int) (w : World) : Calls Try.prog 7 #[.int .i64 c] w fun e w' => e = .returned (.bool true) ∧ Below w.heap.size w w' := by
  obtain ⟨x, q, k, h1⟩ : ∃ x q k, baseF c = (x, q, k) := ⟨_, _, _, rfl⟩
  obtain ⟨y, r, m, h2⟩ : ∃ x q k, parF c = (x, q, k) := ⟨_, _, _, rfl⟩
  obtain ⟨v, h3⟩ : ∃ v, preF c = v := ⟨_, rfl⟩
  have H1 := Lib.hid h1
  have H2 := Lib.hid h2
  have H3 := Lib.hid h3
  clear h1 h2 h3
  go_enter Try.func7, Try.ntmps7
  go_wp2_with fail
  refine (fmBase_any c x q k H1.out _).mono ?_
  rintro e w1 ⟨rfl, hb1⟩
  go_wp2_with fail
  refine (refBase_any c x q k H1.out _).mono ?_
  rintro e w2 ⟨rfl, hb⟩
  replace hb1 := below_self hb1 hb
  clear hb
  go_wp2_with fail
  refine (fmParted_any c y r m H2.out _).mono ?_
  rintro e w3 ⟨rfl, hb⟩
  replace hb1 := below_self hb1 hb
  clear hb
  go_wp2_with fail
  refine (refParted_any c y r m H2.out _).mono ?_
  rintro e w4 ⟨rfl, hb⟩
  replace hb1 := below_self hb1 hb
  clear hb
  have hbz := Below.refl w4.heap.size w4
  go_wp2_with (first
    | (go_at_call 30; with_reducible refine (fmPresented_any c v H3.out _).mono ?_; rintro e w3 ⟨rfl, h9⟩; replace hbz := below_self hbz h9; clear h9)
    | (go_at_call 31; with_reducible refine (refPresented_any c v H3.out _).mono ?_; rintro e w3 ⟨rfl, h9⟩; replace hbz := below_self hbz h9; clear h9)
    | (go_at_call 25; with_reducible refine (awakeFm_any _).mono ?_; rintro e w3 ⟨rfl, h9⟩; replace hbz := below_self hbz h9; clear h9)
    | fail)
  go_ret
  have hfin := hbz
  exact ⟨rfl, below_self hb1 hfin⟩

set_option maxRecDepth 100000 in
set_option maxHeartbeats 4000000 in
theorem formsMarks_any (c : Int) (d : Bool) (w : World) : Calls Try.prog 8 #[.int .i64 c, .bool d] w fun e w' => e = .returned (.bool true) ∧ Below w.heap.size w w' := by
  obtain ⟨x, k, h1⟩ : ∃ x k, accF c d = (x, k) := ⟨_, _, rfl⟩
  obtain ⟨y, r, m, h2⟩ : ∃ x q k, marF c = (x, q, k) := ⟨_, _, _, rfl⟩
  obtain ⟨z, n, h3⟩ : ∃ x k, pilF c = (x, k) := ⟨_, _, rfl⟩
  obtain ⟨u, p, h4⟩ : ∃ x k, unpF c = (x, k) := ⟨_, _, rfl⟩
  have H1 := Lib.hid h1
  have H2 := Lib.hid h2
  have H3 := Lib.hid h3
  have H4 := Lib.hid h4
  clear h1 h2 h3 h4
  go_enter Try.func8, Try.ntmps8
  go_wp2_with fail
  refine (fmAccent_any c x d k H1.out _).mono ?_
  rintro e w1 ⟨rfl, hb1⟩
  go_wp2_with fail
  refine (refAccent_any c x d k H1.out _).mono ?_
  rintro e w2 ⟨rfl, hb⟩
  replace hb1 := below_self hb1 hb
  clear hb
  go_wp2_with fail
  refine (fmMark_any c y r m H2.out _).mono ?_
  rintro e w3 ⟨rfl, hb⟩
  replace hb1 := below_self hb1 hb
  clear hb
  go_wp2_with fail
  refine (refMark_any c y r m H2.out _).mono ?_
  rintro e w4 ⟨rfl, hb⟩
  replace hb1 := below_self hb1 hb
  clear hb
  go_wp2_with fail
  refine (fmPile_any c z n H3.out _).mono ?_
  rintro e w5 ⟨rfl, hb⟩
  replace hb1 := below_self hb1 hb
  clear hb
  go_wp2_with fail
  refine (refPile_any c z n H3.out _).mono ?_
  rintro e w6 ⟨rfl, hb⟩
  replace hb1 := below_self hb1 hb
  clear hb
  go_wp2_with fail
  refine (fmUnpile_any c u p H4.out _).mono ?_
  rintro e w7 ⟨rfl, hb⟩
  replace hb1 := below_self hb1 hb
  clear hb
  go_wp2_with fail
  refine (refUnpile_any c u p H4.out _).mono ?_
  rintro e w8 ⟨rfl, hb⟩
  replace hb1 := below_self hb1 hb
  clear hb
  go_wp2_with fail
  refine (awakeFm_any _).mono ?_
  rintro e w9 ⟨rfl, hb⟩
  replace hb1 := below_self hb1 hb
  clear hb
  go_wp2
  go_ret
  exact ⟨rfl, hb1⟩
end Go.Proofs.Ytfobhnpmaooalaa
