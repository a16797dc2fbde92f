/- Texts of one claim, one behind the other. -/
import Derived.Laws.MakeOwn
import Derived.Laws.OwnMore
import Derived.Deep.DeepCutAuto
import Derived.Deep.CutBlock
import Derived.Test.YtcbiaeeifclieaaGreatDoorMgM2
/- cluster's sets: a place a set, walked. -/
namespace Go.Proofs.YtcbiaeeifclieaaGreatDoor
open Go.RowKit

theorem mk_ints (n : Nat) (hn : n ≤ 100000000) (w : World) : (Instr.makeSlice 22 (.int .i64 (n : Int)) (.int .i64 (n : Int))).run Tryz.prog w = .ok (.slice (some ⟨w.heap.size, 0, none⟩) n n) (w.alloc (.cells (ints (List.replicate n 0)).toArray 3)) := by
  have hin : (Tryz.prog.info? 3).map (fun i => (i.zero, i.size, i.bytes)) = some (some (.int .i64 0), 1, 8) := by kernel_rfl
  obtain ⟨i, h1, h2, h3, h4⟩ := info_parts hin
  have h := run_make (P := Tryz.prog) w 22 3 i (.int .i64 0) Tryz.underlying22 h1 h2 .i64 .i64 n n (by omega) (Int.le_refl _) (by rw [h4]; omega) (by omega)
  rw [h3] at h
  simp only [Int.toNat_natCast, Nat.mul_one] at h
  rw [h]
  refine congrArg (fun c => Result.ok _ (w.alloc (.cells c _))) ?_
  apply Array.toList_inj.1
  rw [show (Value.int .i64 0).cells = #[.int .i64 0] from rfl, toList_madeCells_one]
  simp [ints]
/-- Sets as they are made. -/
structure NewAt (w wx : World) (n b gA gE : Nat) (ah en : List Nat) : Prop where
  sets : SetsAt wx b gA gE n ah en
  kept : Kept w wx []
  res : wx.heap[w.heap.size]? = some (.cells #[.slice none 0 0, .slice none 0 0] 168 (0, 0))
  a : w.heap.size < gA
  e : w.heap.size < gE
  b : w.heap.size < b
theorem four_heap (w : World) (o0 o1 o2 o3 : Obj) : ((((w.alloc o0).alloc o1).alloc o2).alloc o3).drew.heap[w.heap.size]? = some o0 ∧ ((((w.alloc o0).alloc o1).alloc o2).alloc o3).drew.heap[w.heap.size + 1]? = some o1 ∧ ((((w.alloc o0).alloc o1).alloc o2).alloc o3).drew.heap[w.heap.size + 1 + 1]? = some o2 ∧ ((((w.alloc o0).alloc o1).alloc o2).alloc o3).drew.heap[w.heap.size + 1 + 1 + 1]? = some o3 ∧ Kept w ((((w.alloc o0).alloc o1).alloc o2).alloc o3).drew [] := by
  have hk : Below w.heap.size w ((((w.alloc o0).alloc o1).alloc o2).alloc o3) := ((((Below.refl _ _).alloc (Nat.le_refl _) _).alloc (by simp) _).alloc (by simp; omega) _).alloc (by simp; omega) _
  have h1 := heap_alloc_new (w.alloc o0) o1
  have h2 := heap_alloc_new ((w.alloc o0).alloc o1) o2
  have h3 := heap_alloc_new (((w.alloc o0).alloc o1).alloc o2) o3
  simp only [World.size_alloc] at h1 h2 h3
  simp only [heap_drew]
  refine ⟨?_, ?_, ?_, h3, (Kept.of_below hk []).drew⟩
  · rw [heap_alloc_old (h := by simp; omega), heap_alloc_old (h := by simp; omega), heap_alloc_old (h := by simp)]
    exact heap_alloc_new w _
  · rw [heap_alloc_old (h := by simp), heap_alloc_old (h := by simp)]
    exact h1
  · rw [heap_alloc_old (h := by simp)]
    exact h2
theorem newAt_of {w W : World} {n b gA gE : Nat} (hb : W.heap[b]? = some (.cells #[.slice (some ⟨gA, 0, none⟩) n n, .slice (some ⟨gE, 0, none⟩) n n] 168 (0, 0))) {ah en : List Nat} (hA : W.heap[gA]? = some (.cells (ints ah).toArray 3 (0, 0))) (hE : W.heap[gE]? = some (.cells (ints en).toArray 3 (0, 0)))
    (hR : W.heap[w.heap.size]? = some (.cells #[.slice none 0 0, .slice none 0 0] 168 (0, 0))) (hk : Kept w W []) (h1 : w.heap.size < gA ∧ w.heap.size < gE ∧ w.heap.size < b ∧ gA ≠ b ∧ gE ≠ b ∧ gA ≠ gE) (l1 : ah.length = n) (l2 : en.length = n) : NewAt w W n b gA gE ah en := by
  refine ⟨⟨?_, ?_, hA, hE, l1, l2, h1.2.2.2.1, h1.2.2.2.2.1, h1.2.2.2.2.2⟩, hk, hR, h1.1, h1.2.1, h1.2.2.1⟩
  · unfold World.cell?
    rw [show W.heap[(⟨b, 0, none⟩ : Addr).block]? = _ from hb]
    rfl
  · unfold World.cell?
    rw [show W.heap[(⟨b, 1, none⟩ : Addr).block]? = _ from hb]
    rfl
def upA (n k : Nat) : List Nat := (List.range n).map fun j => if j < k then j else 0
def upE (n k : Nat) : List Nat := (List.range n).map fun j => if j < k then j + 1 else 0
theorem upA_zero (n : Nat) : upA n 0 = List.replicate n 0 := by
  apply List.ext_getElem <;> simp [upA]
theorem upE_zero (n : Nat) : upE n 0 = List.replicate n 0 := by
  apply List.ext_getElem <;> simp [upE]
theorem upA_succ {n k : Nat} : (upA n k).set k k = upA n (k + 1) := by
  apply List.ext_getElem
  · simp [upA]
  · intro j h1 h2
    simp only [upA, List.getElem_set, List.getElem_map, List.getElem_range]
    split <;> split <;> (try split) <;> omega
theorem upE_succ {n k : Nat} : (upE n k).set k (k + 1) = upE n (k + 1) := by
  apply List.ext_getElem
  · simp [upE]
  · intro j h1 h2
    simp only [upE, List.getElem_set, List.getElem_map, List.getElem_range]
    split <;> split <;> (try split) <;> omega
theorem upA_all (n : Nat) : upA n n = List.range n := by
  apply List.ext_getElem
  · simp [upA]
  · intro j h1 h2
    have : j < n := by simpa using h2
    simp [upA, this]
theorem upE_all (n : Nat) : upE n n = (List.range n).map (· + 1) := by
  apply List.ext_getElem
  · simp [upE]
  · intro j h1 h2
    have : j < n := by simpa using h2
    simp [upE, this]
theorem NewAt.put {w wx : World} {n b gA gE : Nat} {ah en : List Nat} (h : NewAt w wx n b gA gE ah en) {k : Nat} (hk : k < n) (x y : Nat) : NewAt w ((wx.setCell ⟨gA, k, none⟩ (.int .i64 (x : Int))).setCell ⟨gE, k, none⟩ (.int .i64 (y : Int))).drew n b gA gE (ah.set k x) (en.set k y) := by
  obtain ⟨hS, hK, hR, h1, h2, h3⟩ := h
  have hk2 : Kept wx ((wx.setCell ⟨gA, k, none⟩ (.int .i64 (x : Int))).setCell ⟨gE, k, none⟩ (.int .i64 (y : Int))).drew [gA, gE] := (((Kept.refl wx [gA, gE]).set (.inl (by simp)) _ _).set (.inl (by simp)) _ _).drew
  have n1 := hS.ne1
  have n2 := hS.ne2
  have n3 := hS.ne3
  refine ⟨⟨hk2.cell hS.c0 (by simp; omega), hk2.cell hS.c1 (by simp; omega), ?_, ?_, by rw [List.length_set]; exact hS.lA, by rw [List.length_set]; exact hS.lE, n1, n2, n3⟩, ?_, hk2.heap hR (by simp; omega), h1, h2, h3⟩
  · exact (heap_setCell_far n3 _ _).trans (setCell_heap hS.hA (by rw [hS.lA]; exact hk) x)
  · exact setCell_heap ((heap_setCell_far (fun e9 => n3 e9.symm) _ _).trans hS.hE) (by rw [hS.lE]; exact hk) y
  · exact ((hK.set (.inr (by omega)) _ _).set (.inr (by omega)) _ _).drew
theorem res_sets {fn : Func} {p : Tmp} (hf : fn.results = #[.cell p 168]) (tmps : Array Value) (w : World) (g : Nat) (u v : Value) (hp : tmps.getD p undef = .pointer (some ⟨g, 0, none⟩))
    (hC : w.heap[g]? = some (.cells #[u, v] 168 (0, 0))) : (results fn tmps).run Tryz.prog w = .ok (.agg #[u, v]) w := by
  have c0 : w.cell? ⟨g, 0, none⟩ = some u := by
    unfold World.cell?
    rw [show w.heap[(⟨g, 0, none⟩ : Addr).block]? = _ from hC]
    rfl
  have c1 : w.cell? ⟨g, 1, none⟩ = some v := by
    unfold World.cell?
    rw [show w.heap[(⟨g, 1, none⟩ : Addr).block]? = _ from hC]
    rfl
  have hp' : tmps[p]?.getD undef = .pointer (some ⟨g, 0, none⟩) := by simpa using hp
  simp only [results, hf]
  clear hp hf hC
  go_simp
set_option maxRecDepth 100000 in
set_option maxHeartbeats 1000000 in
theorem newSets_any (n : Nat) (hn : n ≤ 100000000) (w : World) :
    Calls Tryz.prog 102 #[.int .i64 (n : Int)] w fun e' w' => ∃ gA gE, e' = .returned (.agg #[.slice (some ⟨gA, 0, none⟩) n n, .slice (some ⟨gE, 0, none⟩) n n]) ∧ w'.heap[gA]? = some (.cells (ints (List.range n)).toArray 3 (0, 0)) ∧ w'.heap[gE]? = some (.cells (ints ((List.range n).map (· + 1))).toArray 3 (0, 0)) ∧ gA ≠ gE ∧ w.heap.size ≤ gA ∧ w.heap.size ≤ gE ∧ Kept w w' [] := by
  have hmk := mk_ints n hn
  go_enter Tryz.func102, Tryz.ntmps102
  go_upto_region 1 with fail
  go_cut [3] (fun s3 wx => ∃ b gA gE, s3 = .pointer (some ⟨b, 0, none⟩) ∧ NewAt w wx n b gA gE (List.replicate n 0) (List.replicate n 0))
  case first =>
    go_wp2_with fail
    go_region
    all_goals (
      rename_i hJ hK
      refine hK _ _ (Met.intro (hJ _ _ ?_))
      (repeat apply Exists.intro)
      refine ⟨?_, rfl⟩)
    all_goals clear hJ hK
    all_goals first
      | exact ⟨_, _, _, rfl, newAt_of (four_heap w _ _ _ _).2.2.2.1 (four_heap w _ _ _ _).2.1 (four_heap w _ _ _ _).2.2.1 (four_heap w _ _ _ _).1 (four_heap w _ _ _ _).2.2.2.2 (by omega) (by simp) (by simp)⟩
      | exact ⟨_, _, _, rfl, newAt_of (four_heap w _ _ _ _).2.2.2.1 (four_heap w _ _ _ _).2.2.1 (four_heap w _ _ _ _).2.1 (four_heap w _ _ _ _).1 (four_heap w _ _ _ _).2.2.2.2 (by omega) (by simp) (by simp)⟩
      | exact ⟨_, _, _, rfl, newAt_of (four_heap w _ _ _ _).2.1 (four_heap w _ _ _ _).2.2.2.1 (four_heap w _ _ _ _).2.2.1 (four_heap w _ _ _ _).1 (four_heap w _ _ _ _).2.2.2.2 (by omega) (by simp) (by simp)⟩
      | exact ⟨_, _, _, rfl, newAt_of (four_heap w _ _ _ _).2.1 (four_heap w _ _ _ _).2.2.1 (four_heap w _ _ _ _).2.2.2.1 (four_heap w _ _ _ _).1 (four_heap w _ _ _ _).2.2.2.2 (by omega) (by simp) (by simp)⟩
      | exact ⟨_, _, _, rfl, newAt_of (four_heap w _ _ _ _).2.2.1 (four_heap w _ _ _ _).2.2.2.1 (four_heap w _ _ _ _).2.1 (four_heap w _ _ _ _).1 (four_heap w _ _ _ _).2.2.2.2 (by omega) (by simp) (by simp)⟩
      | exact ⟨_, _, _, rfl, newAt_of (four_heap w _ _ _ _).2.2.1 (four_heap w _ _ _ _).2.1 (four_heap w _ _ _ _).2.2.2.1 (four_heap w _ _ _ _).1 (four_heap w _ _ _ _).2.2.2.2 (by omega) (by simp) (by simp)⟩
      | fail
  case rest =>
    clear hmk
    obtain ⟨b, gA, gE, rfl, hN⟩ := hcut
    have HN := Lib.hid (show NewAt w wc n b gA gE (upA n 0) (upE n 0) by rw [upA_zero, upE_zero]; exact hN)
    clear hN
    go_wp2_with fail
    go_loopw [11] (fun i wr => ∃ k : Nat, i = .int .i64 (k : Int) ∧ k ≤ n ∧ NewAt w wr n b gA gE (upA n k) (upE n k)) (fun i _ => n - (intOf i).toNat)
    case atStart => exact ⟨0, rfl, Nat.zero_le _, HN.out⟩
    case round =>
      obtain ⟨k, rfl, hk, hN⟩ := hrel
      have HM := Lib.hid hN
      clear HN
      by_cases hlt : k < n
      · obtain ⟨x0, hx0⟩ : ∃ x0, (upA n k)[k]? = some x0 := ⟨_, List.getElem?_eq_getElem (by rw [hN.sets.lA]; exact hlt)⟩
        obtain ⟨y0, hy0⟩ : ∃ y0, (upE n k)[k]? = some y0 := ⟨_, List.getElem?_eq_getElem (by rw [hN.sets.lE]; exact hlt)⟩
        have cx := cells_of_heap hN.sets.hA hx0
        have cy := cells_of_heap hN.sets.hE hy0
        have fx := frozen_of_heap hN.sets.hA k
        have fy := frozen_of_heap hN.sets.hE k
        have c0 := hN.sets.c0
        have c1 := hN.sets.c1
        have n1 := hN.sets.ne1
        have n2 := hN.sets.ne2
        have n3 := hN.sets.ne3
        clear hx0 hy0 hN
        go_wp2_with fail
        go_region
        have HP := Lib.hid (show NewAt w ((wr.setCell ⟨gA, k, none⟩ (.int .i64 (k : Int))).setCell ⟨gE, k, none⟩ (.int .i64 ((k : Int) + 1))).drew n b gA gE (upA n (k + 1)) (upE n (k + 1)) by
          have h := HM.out.put hlt k (k + 1)
          rw [upA_succ, upE_succ] at h
          exact h)
        clear cx cy fx fy c0 c1 n1 n2 n3
        generalize ((wr.setCell ⟨gA, k, none⟩ (.int .i64 (k : Int))).setCell ⟨gE, k, none⟩ (.int .i64 ((k : Int) + 1))).drew = w5 at *
        go_wp2
        go_roundw
        case rel => exact ⟨k + 1, rfl, hlt, HP.out⟩
        case measure => simp [intOf]; omega
      · obtain rfl : k = n := by omega
        have c0 := hN.sets.c0
        have c1 := hN.sets.c1
        obtain ⟨R, hRe⟩ : ∃ R, w.heap.size = R := ⟨_, rfl⟩
        have hR := hN.res
        rw [hRe] at hR
        simp only [hRe]
        have HRE := Lib.hid hRe
        have r0 : wr.cell? ⟨R, 0, none⟩ = some (.slice none 0 0) := by
          unfold World.cell?
          rw [show wr.heap[(⟨R, 0, none⟩ : Addr).block]? = _ from hR]
          rfl
        have r1 : wr.cell? ⟨R, 1, none⟩ = some (.slice none 0 0) := by
          unfold World.cell?
          rw [show wr.heap[(⟨R, 1, none⟩ : Addr).block]? = _ from hR]
          rfl
        have f0 := frozen_of_heap hR 0
        have f1 := frozen_of_heap hR 1
        have hne : R ≠ b := by have := hN.b; omega
        have HRR := Lib.hid hR
        clear hN hR hRe hlt hk
        go_wp2_with fail
        (try simp only [Exit.inBlock, Exit.then])
        have h1 : (wr.setCell ⟨R, 0, none⟩ (.slice (some ⟨gA, 0, none⟩) k k)).heap[R]? = some (.cells #[.slice (some ⟨gA, 0, none⟩) k k, .slice none 0 0] 168 (0, 0)) := heap_setCell_same wr R 0 _ _ _ HRR.out
        have h2 : ((wr.setCell ⟨R, 0, none⟩ (.slice (some ⟨gA, 0, none⟩) k k)).setCell ⟨R, 1, none⟩ (.slice (some ⟨gE, 0, none⟩) k k)).heap[R]? = some (.cells #[.slice (some ⟨gA, 0, none⟩) k k, .slice (some ⟨gE, 0, none⟩) k k] 168 (0, 0)) := heap_setCell_same _ R 1 _ _ _ h1
        have far : ∀ j, j ≠ R → ((wr.setCell ⟨R, 0, none⟩ (.slice (some ⟨gA, 0, none⟩) k k)).setCell ⟨R, 1, none⟩ (.slice (some ⟨gE, 0, none⟩) k k)).heap[j]? = wr.heap[j]? := fun j hj => (heap_setCell_far hj _ _).trans (heap_setCell_far hj _ _)
        have hA := HM.out.sets.hA
        have hE := HM.out.sets.hE
        rw [upA_all] at hA
        rw [upE_all] at hE
        have l1 := HM.out.a
        have l2 := HM.out.e
        rw [HRE.out] at l1 l2
        refine bodyPost_ret (v := .agg #[.slice (some ⟨gA, 0, none⟩) k k, .slice (some ⟨gE, 0, none⟩) k k]) (res_sets rfl _ _ R _ _ rfl h2) rfl ⟨gA, gE, rfl, (far gA (by omega)).trans hA, (far gE (by omega)).trans hE, HM.out.sets.ne3, by rw [HRE.out]; omega, by rw [HRE.out]; omega, ?_⟩
        exact (HM.out.kept.set (.inr (by rw [HRE.out]; exact Nat.le_refl _)) _ _).set (.inr (by rw [HRE.out]; exact Nat.le_refl _)) _ _
end Go.Proofs.YtcbiaeeifclieaaGreatDoor
