/- A stack that no call made: nil, or zero: what each call answers. -/
import Derived.Test.YtflbiblkphaagaaStkP1
import Derived.Test.YtflbiblkphaagaaStkN
import Derived.Deep.RegionLaw
namespace Go.Proofs.Ytflbiblkphaagaa
open Go.RowKit

/-- What no call made: the pointer is nil, or its stack has no entries. -/
def NoAt (w : World) (v : Value) : Prop := v = .pointer none ∨ ∃ b, v = .pointer (some ⟨b, 0, none⟩) ∧ w.cell? ⟨b, 381, none⟩ = some (.int .i64 0)
theorem NoAt.low {w w' : World} {v : Value} (h : NoAt w v) (hb : Below w.heap.size w w') : NoAt w' v := by
  rcases h with rfl | ⟨b, rfl, h⟩
  · exact .inl rfl
  · exact .inr ⟨b, rfl, cell_below hb h⟩
theorem NoAt.drewN {w : World} {v : Value} (h : NoAt w v) (k : Nat) : NoAt (w.drewN k) v := h
section
variable {v : Value} {w : World}
set_option maxRecDepth 100000 in
theorem noMade (h : NoAt w v) : Calls Try.prog 43 #[v] w fun e w' => e = .returned (.bool false) ∧ w = w' := by
  rcases h with rfl | ⟨b, rfl, h⟩
  · go_enter Try.func43, Try.ntmps43
    go_wp2
    go_ret
    exact ⟨rfl, rfl⟩
  · go_enter Try.func43, Try.ntmps43
    go_wp2
    go_ret
    exact ⟨rfl, rfl⟩
set_option maxRecDepth 100000 in
theorem noLen (h : NoAt w v) : Calls Try.prog 18 #[v] w fun e w' => e = .returned (.int .i64 0) ∧ w = w' := by
  have HM := Lib.hid (noMade h)
  clear h
  go_enter Try.func18, Try.ntmps18
  go_wp2_with fail
  refine HM.out.mono ?_
  rintro e w1 ⟨rfl, rfl⟩
  go_wp2
  go_ret
  exact ⟨rfl, rfl⟩
set_option maxRecDepth 100000 in
theorem noTop (h : NoAt w v) : Calls Try.prog 16 #[v] w fun e w' => e = .returned (.agg #[.int .i64 0, .int .i64 13, .bool false]) ∧ Below w.heap.size w w' := by
  have hbl := below_new w (.cells #[.int .i64 0, .int .i64 0, .bool false] 34)
  have HM := Lib.hid (noMade (h.low hbl))
  clear h hbl
  go_enter Try.func16, Try.ntmps16
  go_wp2_with fail
  refine HM.out.mono ?_
  rintro e w1 ⟨rfl, rfl⟩
  go_wp2
  refine bodyPost_ret (v := .agg #[.int .i64 0, .int .i64 13, .bool false]) (results_cell_row rfl _ _ w.heap.size 34 #[.int .i64 0, .int .i64 13, .bool false] (0, 0) _ rfl (heap_alloc_new w _) Try.underlying34 rfl (by kernel_rfl)) rfl ?_
  exact ⟨rfl, below_new w _⟩
set_option maxRecDepth 100000 in
theorem noPop (h : NoAt w v) : Calls Try.prog 27 #[v] w fun e w' => e = .returned (.bool false) ∧ w = w' := by
  have HL := Lib.hid (noLen h)
  clear h
  go_enter Try.func27, Try.ntmps27
  go_wp2_with fail
  refine HL.out.mono ?_
  rintro e w1 ⟨rfl, rfl⟩
  go_wp2
  go_ret
  exact ⟨rfl, rfl⟩
set_option maxRecDepth 100000 in
theorem noNext (h : NoAt w v) (r : Bool) : Calls Try.prog 19 #[v, .bool r] w fun e w' => e = .returned (.int .i64 (if r = true then 1 else 2)) ∧ Below w.heap.size w w' := by
  have HT := Lib.hid (noTop h)
  have fd := ent_lv 0 13 false
  have hn := bits_next ⟨0, by decide⟩
  have h1 : bits .or .i64 1 1 = 1 := by decide +kernel
  have h2 : bits .andNot .i64 2 1 = 2 := by decide +kernel
  clear h hn
  cases r
  · go_enter Try.func19, Try.ntmps19
    go_wp2_with fail
    refine HT.out.mono ?_
    rintro e w1 ⟨rfl, hb⟩
    go_wp2
    go_ret
    exact ⟨by simp, hb⟩
  · go_enter Try.func19, Try.ntmps19
    go_wp2_with fail
    refine HT.out.mono ?_
    rintro e w1 ⟨rfl, hb⟩
    go_wp2
    go_ret
    exact ⟨by simp, hb⟩
set_option maxRecDepth 100000 in
theorem noEmbed (h : NoAt w v) (r : Bool) (o : Int) : Calls Try.prog 22 #[v, .bool r, .int .i64 o] w fun e w' => e = .returned (.bool false) ∧ w = w' := by
  have HM := Lib.hid (noMade h)
  clear h
  go_enter Try.func22, Try.ntmps22
  go_wp2_with fail
  refine HM.out.mono ?_
  rintro e w1 ⟨rfl, rfl⟩
  go_wp2
  go_ret
  exact ⟨rfl, rfl⟩
set_option maxRecDepth 100000 in
theorem noIsolate (h : NoAt w v) (r : Bool) : Calls Try.prog 23 #[v, .bool r] w fun e w' => e = .returned (.bool false) ∧ w = w' := by
  have HM := Lib.hid (noMade h)
  clear h
  go_enter Try.func23, Try.ntmps23
  go_wp2_with fail
  refine HM.out.mono ?_
  rintro e w1 ⟨rfl, rfl⟩
  go_wp2
  go_ret
  exact ⟨rfl, rfl⟩
set_option maxRecDepth 100000 in
theorem noEndE (h : NoAt w v) : Calls Try.prog 24 #[v] w fun e w' => e = .returned (.tuple #[]) ∧ w = w' := by
  have HM := Lib.hid (noMade h)
  clear h
  go_enter Try.func24, Try.ntmps24
  go_wp2_with fail
  refine HM.out.mono ?_
  rintro e w1 ⟨rfl, rfl⟩
  go_wp2
  exact bodyPost_end (v := .tuple #[]) (by simp [results, go_sem]) rfl ⟨rfl, rfl⟩
set_option maxRecDepth 100000 in
theorem noEndI (h : NoAt w v) : Calls Try.prog 25 #[v] w fun e w' => e = .returned (.tuple #[]) ∧ w = w' := by
  have HM := Lib.hid (noMade h)
  clear h
  go_enter Try.func25, Try.ntmps25
  go_wp2_with fail
  refine HM.out.mono ?_
  rintro e w1 ⟨rfl, rfl⟩
  go_wp2
  exact bodyPost_end (v := .tuple #[]) (by simp [results, go_sem]) rfl ⟨rfl, rfl⟩
set_option maxRecDepth 100000 in
theorem noOver (h : NoAt w v) : Calls Try.prog 14 #[v] w fun e w' => e = .returned (.tuple #[.int .i64 0, .int .i64 0, .int .i64 0]) ∧ w = w' := by
  have HM := Lib.hid (noMade h)
  clear h
  go_enter Try.func14, Try.ntmps14
  go_wp2_with fail
  refine HM.out.mono ?_
  rintro e w1 ⟨rfl, rfl⟩
  go_wp2
  exact bodyPost_ret (v := .tuple #[.int .i64 0, .int .i64 0, .int .i64 0]) (by simp [results, go_sem]) rfl ⟨rfl, rfl⟩
set_option maxRecDepth 100000 in
set_option maxHeartbeats 2000000 in
theorem noPush (h : NoAt w v) (x y : Int) (z : Bool) : Calls Try.prog 26 #[v, .agg #[.int .i64 x, .int .i64 y, .bool z]] w fun e w' => e = .returned (.bool false) ∧ Below w.heap.size w w' := by
  obtain ⟨W, hW⟩ : ∃ W, w.alloc (.cells #[.int .i64 x, .int .i64 y, .bool z] 34) = W := ⟨_, rfl⟩
  have hbl := below_new w (.cells #[.int .i64 x, .int .i64 y, .bool z] 34)
  rw [hW] at hbl
  have HM := Lib.hid (h.low hbl)
  have HB := Lib.hid hbl
  clear h hbl
  go_enter Try.func26, Try.ntmps26
  go_wp2_with fail
  go_quiet ((go_at_call 43; exact quiet_eq (noMade (HM.out.drewN _))))
  go_wp2
  go_ret
  exact ⟨rfl, below_drewN HB.out _⟩
end
end Go.Proofs.Ytflbiblkphaagaa
