/- stack's made, Top, Len, Next, fit, Over, walked. -/
import Derived.Test.YtflbiblkphaagaaStkM
import Derived.Test.YtflbiblkphaagaaMem3
import Derived.Laws.ResultCell
namespace Go.Proofs.Ytflbiblkphaagaa
open Go.RowKit

set_option maxRecDepth 100000 in
theorem stkMade_any (b : Nat) (s : Stk) (w : World) (h : StkAt w b s) : Calls Try.prog 43 #[.pointer (some ⟨b, 0, none⟩)] w fun e w' => e = .returned (.bool true) ∧ w = w' := by
  have cn := h.cn
  have hb := h.fits
  clear h
  go_enter Try.func43, Try.ntmps43
  go_wp2
  go_ret
  exact ⟨by simp, rfl⟩
set_option maxRecDepth 100000 in
theorem stkFit_any (b : Nat) (s : Stk) (w : World) (h : StkAt w b s) : Calls Try.prog 51 #[.pointer (some ⟨b, 0, none⟩)] w fun e w' => e = .returned (.bool (decide (s.a = 0) && decide (s.b = 0))) ∧ w = w' := by
  have ca := h.ca
  have cb := h.cb
  clear h
  by_cases ha : s.a = 0
  · have ha' : (s.a : Int) = 0 := by omega
    rw [ha'] at ca
    go_enter Try.func51, Try.ntmps51
    go_wp2
    go_ret
    exact ⟨by simp [ha]; rw [Bool.eq_iff_iff]; simp, rfl⟩
  · have ha' : ((s.a : Int) == 0) = false := by simp; omega
    have ha2 : ¬ (s.a : Int) = 0 := by omega
    go_enter Try.func51, Try.ntmps51
    go_wp2
    go_ret
    exact ⟨by simp [ha], rfl⟩
set_option maxRecDepth 100000 in
theorem stkLen_any (b : Nat) (s : Stk) (w : World) (h : StkAt w b s) : Calls Try.prog 18 #[.pointer (some ⟨b, 0, none⟩)] w fun e w' => e = .returned (.int .i64 ((s.R.length : Int) + 1)) ∧ w = w' := by
  have cn := h.cn
  have HM := Lib.hid (stkMade_any b s w h)
  clear h
  go_enter Try.func18, Try.ntmps18
  go_wp2_with fail
  refine HM.out.mono ?_
  rintro e w1 ⟨rfl, rfl⟩
  go_wp2
  go_ret
  exact ⟨rfl, rfl⟩
set_option maxRecDepth 100000 in
theorem stkTop_any (b : Nat) (s : Stk) (w : World) (h : StkAt w b s) : Calls Try.prog 16 #[.pointer (some ⟨b, 0, none⟩)] w fun e w' => e = .returned (entV s.top) ∧ Below w.heap.size w w' := by
  have hbl := below_new w (.cells #[.int .i64 0, .int .i64 0, .bool false] 34)
  have h1 := h.low hbl
  have HB := Lib.hid hbl
  have HM := Lib.hid (stkMade_any b s _ h1)
  have cn := h1.cn
  have ct := h1.ct
  obtain ⟨ct0, ct1, ct2⟩ := ct
  have hf := h.fits
  have hr : (s.R.length : Int) < 126 := by omega
  have hb := h.lt
  obtain ⟨r, hr⟩ : ∃ r, s.R.length = r := ⟨_, rfl⟩
  rw [hr] at *
  clear h h1 hbl
  go_enter Try.func16, Try.ntmps16
  go_wp2_with fail
  refine HM.out.mono ?_
  rintro e w1 ⟨rfl, rfl⟩
  go_wp2
  go_region
  all_goals go_wp2
  all_goals refine bodyPost_ret (v := .agg #[.int .i64 s.top.lv, .int .i64 s.top.ov, .bool s.top.is]) (results_cell_row rfl _ _ w.heap.size 34 #[.int .i64 s.top.lv, .int .i64 s.top.ov, .bool s.top.is] (0, 0) _ rfl (heap_alloc_new w _) Try.underlying34 rfl (by kernel_rfl)) rfl ?_
  all_goals exact ⟨rfl, below_drew (below_new w _) 1⟩
theorem ent_lv (x y : Int) (z : Bool) (w : World) : (Instr.field 34 (.agg #[.int .i64 x, .int .i64 y, .bool z]) 0).run Try.prog w = .ok (.int .i64 x) w := by kernel_rfl
theorem ent_ov (x y : Int) (z : Bool) (w : World) : (Instr.field 34 (.agg #[.int .i64 x, .int .i64 y, .bool z]) 1).run Try.prog w = .ok (.int .i64 y) w := by kernel_rfl
theorem ent_is (x y : Int) (z : Bool) (w : World) : (Instr.field 34 (.agg #[.int .i64 x, .int .i64 y, .bool z]) 2).run Try.prog w = .ok (.bool z) w := by kernel_rfl
/-- The next level, as the program reckons it. -/
theorem bits_next : ∀ n : Fin 131, bits .or .i64 ((n.val : Int) + 1) 1 = nextN (n.val : Int) true ∧ bits .andNot .i64 ((n.val : Int) + 2) 1 = nextN (n.val : Int) false := by decide +kernel
theorem bits_nextN {x : Int} (h0 : 0 ≤ x) (h1 : x ≤ 125) : bits .or .i64 (x + 1) 1 = nextN x true ∧ bits .andNot .i64 (x + 2) 1 = nextN x false := by
  have := bits_next ⟨x.toNat, by omega⟩
  simp only [Int.toNat_of_nonneg h0] at this
  exact this
set_option maxRecDepth 100000 in
theorem stkNext_any (b : Nat) (s : Stk) (r : Bool) (w : World) (h : StkAt w b s) : Calls Try.prog 19 #[.pointer (some ⟨b, 0, none⟩), .bool r] w fun e w' => e = .returned (.int .i64 (nextS s r)) ∧ Below w.heap.size w w' := by
  have HT := Lib.hid (stkTop_any b s w h)
  obtain ⟨h0, h1, _⟩ := h.fits
  have HN := Lib.hid (bits_nextN h0 h1)
  have fd := ent_lv s.top.lv s.top.ov s.top.is
  clear h
  unfold nextS
  cases r
  · go_enter Try.func19, Try.ntmps19
    go_wp2_with fail
    refine HT.out.mono ?_
    rintro e w1 ⟨rfl, hb⟩
    unfold entV
    go_wp2
    rw [HN.out.2]
    go_ret
    exact ⟨rfl, hb⟩
  · go_enter Try.func19, Try.ntmps19
    go_wp2_with fail
    refine HT.out.mono ?_
    rintro e w1 ⟨rfl, hb⟩
    unfold entV
    go_wp2
    rw [HN.out.1]
    go_ret
    exact ⟨rfl, hb⟩
set_option maxRecDepth 100000 in
theorem stkOver_any (b : Nat) (s : Stk) (w : World) (h : StkAt w b s) : Calls Try.prog 14 #[.pointer (some ⟨b, 0, none⟩)] w fun e w' => e = .returned (.tuple #[.int .i64 (s.a : Int), .int .i64 (s.b : Int), .int .i64 (s.c : Int)]) ∧ Below w.heap.size w w' := by
  have HM := Lib.hid (stkMade_any b s w h)
  have ca := h.ca
  have cb := h.cb
  have cc := h.cc
  clear h
  go_enter Try.func14, Try.ntmps14
  go_wp2_with fail
  refine HM.out.mono ?_
  rintro e w1 ⟨rfl, rfl⟩
  go_wp2
  go_region
  all_goals go_wp2
  all_goals refine bodyPost_ret (v := .tuple #[.int .i64 (s.a : Int), .int .i64 (s.b : Int), .int .i64 (s.c : Int)]) (by simp [results, go_sem]) rfl ?_
  all_goals exact ⟨rfl, below_drew (Below.refl _ _) 1⟩
end Go.Proofs.Ytflbiblkphaagaa
