/- Texts of one claim, one behind the other. -/
import Derived.Deep.DeepCutAuto
import Derived.Deep.CutBlock
import Derived.Test.YtdgomaoikeffhaaGreatMgAp1
import Derived.Test.YtdgomaoikeffhaaGreatMgAp5
/- stack's New, walked. -/
namespace Go.Proofs.YtdgomaoikeffhaaGreat
open Go.RowKit

/-- The cells of a stack that no call made. -/
noncomputable def zCells : Array Value := match (Tryz.prog.info? 112).bind (fun i => i.zero) with
  | some (.agg cs) => cs
  | _ => #[]
theorem z_size : zCells.size = 382 := by kernel_rfl
theorem z_a : zCells[0]? = some (.int .i64 0) := by kernel_rfl
theorem z_b : zCells[1]? = some (.int .i64 0) := by kernel_rfl
theorem z_c : zCells[2]? = some (.int .i64 0) := by kernel_rfl
theorem z_e : zCells[3]? = some (.int .i64 0) := by kernel_rfl
theorem z_n : zCells[381]? = some (.int .i64 0) := by kernel_rfl
theorem z_run (w : World) : (zeroValue 112).run Tryz.prog w = .ok (.agg zCells) w := by kernel_rfl
theorem new_cells (level : Int) : CsOf ((((zCells.setIfInBounds 381 (.int .i64 1)).setIfInBounds 3 (.int .i64 (min (max level 0) 125))).setIfInBounds 4 (.int .i64 13)).setIfInBounds 5 (.bool false)) (newS level) := by
  have hs := z_size
  refine ⟨by simp [hs], ?_, ?_, ?_, ?_, fun k e he => ?_⟩
  · rw [aset_ne (by omega), aset_ne (by omega), aset_ne (by omega), aset_ne (by omega)]; exact z_a
  · rw [aset_ne (by omega), aset_ne (by omega), aset_ne (by omega), aset_ne (by omega)]; exact z_b
  · rw [aset_ne (by omega), aset_ne (by omega), aset_ne (by omega), aset_ne (by omega)]; exact z_c
  · rw [aset_ne (by omega), aset_ne (by omega), aset_ne (by omega)]; exact aset_eq (by omega)
  · have hk := Stk.all_at he
    have hk0 : k = 0 := by simp [Stk.len, newS] at hk; exact hk
    subst hk0
    have he' : e = ⟨min (max level 0) 125, 13, false⟩ := by simpa [Stk.all, newS] using he.symm
    subst he'
    refine ⟨?_, ?_, ?_⟩
    · rw [aset_ne (by omega), aset_ne (by omega)]; exact aset_eq (by simp [hs])
    · rw [aset_ne (by omega)]; exact aset_eq (by simp [hs])
    · exact aset_eq (by simp [hs])
set_option maxRecDepth 100000 in
set_option maxHeartbeats 400000 in
theorem stkNew_any (level : Int) (w : World) : Calls Tryz.prog 37 #[.int .i64 level] w fun e w' => e = .returned (.pointer (some ⟨w.heap.size, 0, none⟩)) ∧ StkAt w' w.heap.size (newS level) ∧ Below w.heap.size w w' := by
  have hz := z_run
  have hc := new_cells level
  have hs := z_size
  have z3 := z_e
  obtain ⟨Z, hZ⟩ : ∃ Z, zCells = Z := ⟨_, rfl⟩
  rw [hZ] at hz hc hs z3
  have hnlt : ¬ Z.size < 382 := by omega
  obtain ⟨W, hW⟩ : ∃ W, w.alloc (.cells (Z.setIfInBounds 381 (.int .i64 1)) 112) = W := ⟨_, rfl⟩
  have hbn := below_new w (.cells (Z.setIfInBounds 381 (.int .i64 1)) 112)
  have hh : W.heap[w.heap.size]? = some (.cells (Z.setIfInBounds 381 (.int .i64 1)) 112 (0, 0)) := by rw [← hW]; exact heap_alloc_new w _
  rw [hW] at hbn
  have g1 := heap_setCell_same W w.heap.size 3 _ _ (.int .i64 (min (max level 0) 125)) hh
  have g2 := heap_setCell_same _ w.heap.size 4 _ _ (.int .i64 13) g1
  have g3 := heap_setCell_same _ w.heap.size 5 _ _ (.bool false) g2
  have HA : Hid (StkAt (((W.setCell ⟨w.heap.size, 3, none⟩ (.int .i64 (min (max level 0) 125))).setCell ⟨w.heap.size, 4, none⟩ (.int .i64 13)).setCell ⟨w.heap.size, 5, none⟩ (.bool false)) w.heap.size (newS level)) := Lib.hid ⟨⟨_, g3, hc⟩, rises_new level⟩
  have HB : Hid (Below w.heap.size w (((W.setCell ⟨w.heap.size, 3, none⟩ (.int .i64 (min (max level 0) 125))).setCell ⟨w.heap.size, 4, none⟩ (.int .i64 13)).setCell ⟨w.heap.size, 5, none⟩ (.bool false))) := Lib.hid (((hbn.setCell (p := ⟨w.heap.size, 3, none⟩) (Nat.le_refl _) _).setCell (p := ⟨w.heap.size, 4, none⟩) (Nat.le_refl _) _).setCell (p := ⟨w.heap.size, 5, none⟩) (Nat.le_refl _) _)
  obtain ⟨u3, c3⟩ : ∃ u, W.cell? ⟨w.heap.size, 3, none⟩ = some u := ⟨_, hp_cell hh (Array.getElem?_eq_getElem (by simp [hs]))⟩
  obtain ⟨u4, c4⟩ : ∃ u, W.cell? ⟨w.heap.size, 4, none⟩ = some u := ⟨_, hp_cell hh (Array.getElem?_eq_getElem (by simp [hs]))⟩
  obtain ⟨u5, c5⟩ : ∃ u, W.cell? ⟨w.heap.size, 5, none⟩ = some u := ⟨_, hp_cell hh (Array.getElem?_eq_getElem (by simp [hs]))⟩
  have f3 := hp_froz hh 3
  have f4 := hp_froz hh 4
  have f5 := hp_froz hh 5
  obtain ⟨m, hm⟩ : ∃ m, min (max level 0) 125 = m := ⟨_, rfl⟩
  rw [hm] at HA HB
  obtain ⟨g, hg⟩ : ∃ g, w.heap.size = g := ⟨_, rfl⟩
  rw [hg] at HA HB c3 c4 c5 f3 f4 f5 ⊢
  clear hc hh g1 g2 g3 z3 hbn
  go_enter Tryz.func37, Tryz.ntmps37
  go_upto_region 2 with fail
  go_wp2
  all_goals go_ret
  all_goals first
    | (have e0 : m = 0 := by omega
       rw [e0] at HA HB
       exact ⟨rfl, HA.out, HB.out⟩)
    | (have e0 : m = 125 := by omega
       rw [e0] at HA HB
       exact ⟨rfl, HA.out, HB.out⟩)
    | (have e0 : m = level := by omega
       rw [e0] at HA HB
       exact ⟨rfl, HA.out, HB.out⟩)
end Go.Proofs.YtdgomaoikeffhaaGreat
