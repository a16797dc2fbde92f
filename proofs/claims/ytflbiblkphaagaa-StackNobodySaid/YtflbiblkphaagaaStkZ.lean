/- naskhlaw21.StackNobody, walked. -/
import Derived.Test.YtflbiblkphaagaaStkZ0
import Derived.Test.YtflbiblkphaagaaStkA
import Derived.Laws.StructEq
import Derived.Deep.DeepCutAuto
namespace Go.Proofs.Ytflbiblkphaagaa
open Go.RowKit

set_option maxRecDepth 100000 in
set_option maxHeartbeats 4000000 in
theorem stackNobody_any (n : Int) (r : Bool) (w : World) : Calls Try.prog 6 #[.int .i64 n, .bool r] w fun e w' => e = .returned (.bool true) ∧ Below w.heap.size w w' := by
  have hz := z_run
  have hs := z_size
  have zn := z_n
  obtain ⟨Z, hZ⟩ : ∃ Z, zCells = Z := ⟨_, rfl⟩
  rw [hZ] at hz hs zn
  obtain ⟨W, hW⟩ : ∃ W, w.alloc (.cells Z 52) = W := ⟨_, rfl⟩
  have hbn := below_new w (.cells Z 52)
  have hh := heap_alloc_new w (.cells Z 52)
  rw [hW] at hbn hh
  obtain ⟨g, hg⟩ : ∃ g, w.heap.size = g := ⟨_, rfl⟩
  rw [hg] at hh
  have HZ0 : Hid (NoAt W (.pointer (some ⟨g, 0, none⟩))) := Lib.hid (.inr ⟨g, rfl, hp_cell hh zn⟩)
  have HN : Hid (∀ W, NoAt W (.pointer none)) := Lib.hid (fun _ => .inl rfl)
  have HB0 := Lib.hid hbn
  clear hbn hh zn hs
  have hE1 : ((13 : Int) == 13) = true := by decide
  cases r with
  | true =>
    go_enter Try.func6, Try.ntmps6
    go_wp2_with fail
    refine (noEndE (HN.out _)).mono ?_
    rintro e w1 ⟨rfl, rfl⟩
    go_wp2_with fail
    refine (noEndI HZ0.out).mono ?_
    rintro e w1 ⟨rfl, rfl⟩
    go_wp2_with fail
    refine (noPush (HN.out W) n 0 false).mono ?_
    rintro e w1 ⟨rfl, hb1⟩
    have HB1 := Lib.hid (below_self HB0.out hb1)
    have HZ1 := Lib.hid (HZ0.out.low hb1)
    clear hb1
    go_wp2_with fail
    refine (noPop (HN.out _)).mono ?_
    rintro e w2 ⟨rfl, rfl⟩
    go_wp2_with fail
    refine (noPop HZ1.out).mono ?_
    rintro e w2 ⟨rfl, rfl⟩
    go_wp2_with fail
    refine (noEmbed (HN.out _) true n).mono ?_
    rintro e w2 ⟨rfl, rfl⟩
    go_wp2_with fail
    refine (noIsolate (HN.out _) true).mono ?_
    rintro e w2 ⟨rfl, rfl⟩
    go_wp2_with fail
    refine (noLen (HN.out _)).mono ?_
    rintro e w2 ⟨rfl, rfl⟩
    go_wp2_with fail
    refine (noLen HZ1.out).mono ?_
    rintro e w2 ⟨rfl, rfl⟩
    go_wp2_with fail
    refine (noNext (HN.out w1) true).mono ?_
    rintro e w2 ⟨rfl, hb2⟩
    have HB2 := Lib.hid (below_self HB1.out hb2)
    have HZ2 := Lib.hid (HZ1.out.low hb2)
    clear hb2
    simp only [if_true]
    go_wp2_with fail
    refine (noNext HZ2.out true).mono ?_
    rintro e w3 ⟨rfl, hb3⟩
    have HB3 := Lib.hid (below_self HB2.out hb3)
    have HZ3 := Lib.hid (HZ2.out.low hb3)
    clear hb3
    simp only [if_true]
    go_wp2_with fail
    refine (noOver (HN.out _)).mono ?_
    rintro e w4 ⟨rfl, rfl⟩
    go_wp2_with fail
    refine (noTop (HN.out w3)).mono ?_
    rintro e w4 ⟨rfl, hb4⟩
    have HB4 := Lib.hid (below_self HB3.out hb4)
    have HZ4 := Lib.hid (HZ3.out.low hb4)
    clear hb4
    go_wp2_with fail
    refine (noTop HZ4.out).mono ?_
    rintro e w5 ⟨rfl, hb5⟩
    have HB5 := Lib.hid (below_self HB4.out hb5)
    clear hb5
    go_wp2_with fail
    refine (awakeSt_any w5).mono ?_
    rintro e w6 ⟨rfl, hb6⟩
    have HB6 := Lib.hid (below_self HB5.out hb6)
    clear hb6
    go_wp2
    go_ret
    exact ⟨rfl, HB6.out⟩
  | false =>
    go_enter Try.func6, Try.ntmps6
    go_wp2_with fail
    refine (noEndE (HN.out _)).mono ?_
    rintro e w1 ⟨rfl, rfl⟩
    go_wp2_with fail
    refine (noEndI HZ0.out).mono ?_
    rintro e w1 ⟨rfl, rfl⟩
    go_wp2_with fail
    refine (noPush (HN.out W) n 0 false).mono ?_
    rintro e w1 ⟨rfl, hb1⟩
    have HB1 := Lib.hid (below_self HB0.out hb1)
    have HZ1 := Lib.hid (HZ0.out.low hb1)
    clear hb1
    go_wp2_with fail
    refine (noPop (HN.out _)).mono ?_
    rintro e w2 ⟨rfl, rfl⟩
    go_wp2_with fail
    refine (noPop HZ1.out).mono ?_
    rintro e w2 ⟨rfl, rfl⟩
    go_wp2_with fail
    refine (noEmbed (HN.out _) false n).mono ?_
    rintro e w2 ⟨rfl, rfl⟩
    go_wp2_with fail
    refine (noIsolate (HN.out _) false).mono ?_
    rintro e w2 ⟨rfl, rfl⟩
    go_wp2_with fail
    refine (noLen (HN.out _)).mono ?_
    rintro e w2 ⟨rfl, rfl⟩
    go_wp2_with fail
    refine (noLen HZ1.out).mono ?_
    rintro e w2 ⟨rfl, rfl⟩
    go_wp2_with fail
    refine (noNext (HN.out w1) false).mono ?_
    rintro e w2 ⟨rfl, hb2⟩
    have HB2 := Lib.hid (below_self HB1.out hb2)
    have HZ2 := Lib.hid (HZ1.out.low hb2)
    clear hb2
    simp only [Bool.false_eq_true, if_false]
    go_wp2_with fail
    refine (noNext HZ2.out false).mono ?_
    rintro e w3 ⟨rfl, hb3⟩
    have HB3 := Lib.hid (below_self HB2.out hb3)
    have HZ3 := Lib.hid (HZ2.out.low hb3)
    clear hb3
    simp only [Bool.false_eq_true, if_false]
    go_wp2_with fail
    refine (noOver (HN.out _)).mono ?_
    rintro e w4 ⟨rfl, rfl⟩
    go_wp2_with fail
    refine (noTop (HN.out w3)).mono ?_
    rintro e w4 ⟨rfl, hb4⟩
    have HB4 := Lib.hid (below_self HB3.out hb4)
    have HZ4 := Lib.hid (HZ3.out.low hb4)
    clear hb4
    go_wp2_with fail
    refine (noTop HZ4.out).mono ?_
    rintro e w5 ⟨rfl, hb5⟩
    have HB5 := Lib.hid (below_self HB4.out hb5)
    clear hb5
    go_wp2_with fail
    refine (awakeSt_any w5).mono ?_
    rintro e w6 ⟨rfl, hb6⟩
    have HB6 := Lib.hid (below_self HB5.out hb6)
    clear hb6
    go_wp2
    go_ret
    exact ⟨rfl, HB6.out⟩
end Go.Proofs.Ytflbiblkphaagaa
