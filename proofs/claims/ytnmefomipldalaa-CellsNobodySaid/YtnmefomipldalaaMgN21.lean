/- Texts of one claim, one behind the other. -/
import Derived.Test.YtnmefomipldalaaMgN16
import Derived.Test.YtnmefomipldalaaMgN20
/- naskhlaw12.CellsNobody, walked. -/
namespace Go.Proofs.Ytnmefomipldalaa
open Go.RowKit

set_option maxRecDepth 100000 in
set_option maxHeartbeats 2000000 in
theorem cellsNobody_any (n : Int) (A : Option Addr) (q c : Nat) (lo hi : Int) (w : World) :
    Calls Try.prog 11 #[.int .i64 n, .slice A q c, .agg #[.int .i64 lo, .int .i64 hi]] w fun e w' => e = .returned (.bool true) ∧ Below w.heap.size w w' := by
  have hb1 := below_new w (.cells #[.int .i64 lo, .int .i64 hi] 31)
  have s1 := SpanBlk.new_ w lo hi 31
  obtain ⟨W1, hW1⟩ : ∃ W1, w.alloc (.cells #[.int .i64 lo, .int .i64 hi] 31) = W1 := ⟨_, rfl⟩
  rw [hW1] at hb1 s1
  obtain ⟨d0, d1, f0, f1⟩ := s1
  simp only at d0 d1
  have hb2 := below_new W1 (.cells #[.slice none 0 0, .slice none 0 0] 66)
  have hz0 := cells_new W1 [.slice none 0 0, .slice none 0 0] 66 0 _ rfl
  rw [addNew] at hz0
  have e0 := cell_below hb2 d0
  have e1 := cell_below hb2 d1
  obtain ⟨W2, hW2⟩ : ∃ W2, W1.alloc (.cells #[.slice none 0 0, .slice none 0 0] 66) = W2 := ⟨_, rfl⟩
  rw [hW2] at hb2 hz0 e0 e1
  obtain ⟨bs, hbs⟩ : ∃ bs, w.heap.size = bs := ⟨_, rfl⟩
  rw [hbs] at e0 e1
  obtain ⟨bz, hbz⟩ : ∃ bz, W1.heap.size = bz := ⟨_, rfl⟩
  rw [hbz] at hz0
  have HN := Lib.hid (none_nil W2)
  have HZ := Lib.hid (none_blk hz0)
  have HB2 := Lib.hid (below_self hb1 hb2)
  have HE := Lib.hid (And.intro e0 e1)
  clear hb1 hb2 d0 d1 f0 f1 hz0 e0 e1
  go_enter Try.func11, Try.ntmps11
  go_wp2_with fail
  refine (clusters_none _ W2 HN.out).mono ?_
  rintro e w3 ⟨rfl, h3⟩
  have k3 := h3
  go_wp2_with fail
  refine (clusters_none _ w3 (HZ.out.low k3)).mono ?_
  rintro e w4 ⟨rfl, h4⟩
  have k4 := below_self k3 h4
  clear k3 h3 h4
  go_wp2_with fail
  refine (set_none _ n A q c w4 (HN.out.low k4)).mono ?_
  rintro e w5 ⟨rfl, h5⟩
  have k5 := below_self k4 h5
  clear k4 h5
  go_wp2_with fail
  refine (set_none _ n A q c w5 (HZ.out.low k5)).mono ?_
  rintro e w6 ⟨rfl, h6⟩
  have k6 := below_self k5 h6
  clear k5 h6
  go_wp2_with fail
  refine (ahead_nil A q c w6).mono ?_
  rintro e w7 ⟨rfl, h7⟩
  have k7 := below_self k6 h7
  clear k6 h7
  go_wp2_with fail
  refine (behind_none _ A q c w7 (HZ.out.low k7)).mono ?_
  rintro e w8 ⟨rfl, h8⟩
  have k8 := below_self k7 h8
  have m0 := cell_below k8 HE.out.1
  have m1 := cell_below k8 HE.out.2
  clear k7 h8
  go_wp2_with fail
  refine (join_none _ lo hi w8 (HN.out.low k8)).mono ?_
  rintro e w9 ⟨rfl, h9⟩
  have k9 := below_self k8 h9
  have n0 := cell_below h9 m0
  have n1 := cell_below h9 m1
  clear k8 h9 m0 m1
  go_wp2_with fail
  refine (join_none _ lo hi w9 (HZ.out.low k9)).mono ?_
  rintro e wa ⟨rfl, ha⟩
  have ka := below_self k9 ha
  clear k9 ha n0 n1
  go_wp2_with fail
  refine (text_none _ wa (HN.out.low ka)).mono ?_
  rintro e wb ⟨rfl, hb⟩
  have kb := below_self ka hb
  clear ka hb
  go_wp2_with fail
  refine (at_none _ n wb (HZ.out.low kb)).mono ?_
  rintro e wc ⟨rfl, hc⟩
  have kc := below_self kb hc
  clear kb hc
  go_wp2_with fail
  refine (awake12_any wc).mono ?_
  rintro e wd ⟨rfl, hd⟩
  have kd := below_self HB2.out (below_self kc hd)
  clear kc hd hbs hW1 hW2 hbz
  go_wp2_with fail
  go_ret
  exact ⟨rfl, kd⟩
end Go.Proofs.Ytnmefomipldalaa
