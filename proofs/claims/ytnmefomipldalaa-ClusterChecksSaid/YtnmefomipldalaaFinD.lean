/- cluster's sides: a new one, walked. -/
import Derived.Test.YtnmefomipldalaaFinN
import Derived.Deep.RegionWith
namespace Go.Proofs.Ytnmefomipldalaa
open Go.RowKit

/-- A new side at b. -/
def SideNew (w W : World) (n b : Nat) : Prop := ∃ gA gE m, SetsAt W b gA gE n (List.range n) ((List.range n).map (· + 1)) ∧ W.cell? ⟨b, 2, none⟩ = some (.map (some m)) ∧ W.heap[m]? = some (.map #[] 0) ∧ w.heap.size ≤ b ∧ w.heap.size ≤ gA ∧ w.heap.size ≤ gE ∧ w.heap.size ≤ m ∧ m ≠ gA ∧ m ≠ gE ∧ m ≠ b ∧ Kept w W []
theorem sideNew_of {w W : World} {n b gA gE m : Nat} (hb : W.heap[b]? = some (.cells #[.slice (some ⟨gA, 0, none⟩) n n, .slice (some ⟨gE, 0, none⟩) n n, .map (some m)] 117 (0, 0))) (hA : W.heap[gA]? = some (.cells (ints (List.range n)).toArray 3 (0, 0))) (hE : W.heap[gE]? = some (.cells (ints ((List.range n).map (· + 1))).toArray 3 (0, 0))) (hm : W.heap[m]? = some (.map #[] 0))
    (hk : Kept w W []) (h : w.heap.size ≤ gA ∧ w.heap.size ≤ gE ∧ w.heap.size ≤ m ∧ w.heap.size ≤ b ∧ gA ≠ gE ∧ m ≠ gA ∧ m ≠ gE ∧ m ≠ b ∧ gA ≠ b ∧ gE ≠ b) : SideNew w W n b := by
  obtain ⟨h1, h2, h3, h4, h5, h6, h7, h8, h9, h10⟩ := h
  have hc : ∀ j u, (#[.slice (some ⟨gA, 0, none⟩) n n, .slice (some ⟨gE, 0, none⟩) n n, .map (some m)] : Array Value)[j]? = some u → W.cell? ⟨b, j, none⟩ = some u := fun j u hu => by
    unfold World.cell?
    rw [show W.heap[(⟨b, j, none⟩ : Addr).block]? = _ from hb]
    exact hu
  exact ⟨gA, gE, m, ⟨hc 0 _ rfl, hc 1 _ rfl, hA, hE, by simp, by simp, h9, h10, h5⟩, hc 2 _ rfl, hm, h4, h1, h2, h3, h6, h7, h8, hk⟩
theorem Kept.alloc {w W : World} {S : List Nat} (h : Kept w W S) (o : Obj) : Kept w (W.alloc o) S := h.trans (Kept.of_below (below_new _ _) S)
theorem sideNew_1 {w w' : World} {n gA gE : Nat} (hA : w'.heap[gA]? = some (.cells (ints (List.range n)).toArray 3 (0, 0))) (hE : w'.heap[gE]? = some (.cells (ints ((List.range n).map (fun x => x + 1))).toArray 3 (0, 0))) (hne : gA ≠ gE) (l1 : w.drew.heap.size ≤ gA) (l2 : w.drew.heap.size ≤ gE) (hk : Kept w.drew w' []) :
    SideNew w ((w'.alloc (.map #[] 0)).alloc (.cells #[.slice (some ⟨gA, 0, none⟩) n n, .slice (some ⟨gE, 0, none⟩) n n, .map (some w'.heap.size)] 117)) n (w'.heap.size + 1) := by
  have hk' : Kept w w' [] := ⟨hk.os, hk.tape, hk.output, hk.size, hk.block⟩
  have a1 := heap_lt hA
  have a2 := heap_lt hE
  have hsz := hk'.size
  have hb := heap_alloc_new (w'.alloc (.map #[] 0)) (.cells #[.slice (some ⟨gA, 0, none⟩) n n, .slice (some ⟨gE, 0, none⟩) n n, .map (some w'.heap.size)] 117)
  rw [World.size_alloc] at hb
  simp only [World.size_drew] at l1 l2
  refine sideNew_of hb ?_ ?_ ?_ ((hk'.alloc _).alloc _) ⟨l1, l2, hsz, by omega, hne, by omega, by omega, by omega, by omega, by omega⟩
  · rw [heap_alloc_old (h := by simp; omega), heap_alloc_old (h := a1)]
    exact hA
  · rw [heap_alloc_old (h := by simp; omega), heap_alloc_old (h := a2)]
    exact hE
  · rw [heap_alloc_old (h := by simp)]
    exact heap_alloc_new w' _
theorem sideNew_2 {w w' : World} {n gA gE : Nat} (hA : w'.heap[gA]? = some (.cells (ints (List.range n)).toArray 3 (0, 0))) (hE : w'.heap[gE]? = some (.cells (ints ((List.range n).map (fun x => x + 1))).toArray 3 (0, 0))) (hne : gA ≠ gE) (l1 : (w.alloc (.map #[] 0)).drew.heap.size ≤ gA) (l2 : (w.alloc (.map #[] 0)).drew.heap.size ≤ gE) (hk : Kept (w.alloc (.map #[] 0)).drew w' []) :
    SideNew w (w'.alloc (.cells #[.slice (some ⟨gA, 0, none⟩) n n, .slice (some ⟨gE, 0, none⟩) n n, .map (some w.heap.size)] 117)) n w'.heap.size := by
  have hk1 : Kept (w.alloc (.map #[] 0)) w' [] := ⟨hk.os, hk.tape, hk.output, hk.size, hk.block⟩
  have hk' : Kept w w' [] := (Kept.of_below (below_new _ _) []).trans hk1
  have a1 := heap_lt hA
  have a2 := heap_lt hE
  have hsz := hk1.size
  have hm := hk1.heap (heap_alloc_new w (.map #[] 0)) (by simp)
  simp only [World.size_drew, World.size_alloc] at l1 l2 hsz
  refine sideNew_of (heap_alloc_new w' _) ?_ ?_ ?_ (hk'.alloc _) ⟨by omega, by omega, Nat.le_refl _, by omega, hne, by omega, by omega, by omega, by omega, by omega⟩
  · rw [heap_alloc_old (h := a1)]
    exact hA
  · rw [heap_alloc_old (h := a2)]
    exact hE
  · rw [heap_alloc_old (h := by omega)]
    exact hm
set_option maxRecDepth 100000 in
set_option maxHeartbeats 1000000 in
theorem newSide_any (n k : Nat) (hn : n ≤ 100000000) (hk : k ≤ 100000000) (w : World) :
    Calls Try.prog 48 #[.int .i64 (n : Int), .int .i64 (k : Int)] w fun e' w' => ∃ b, e' = .returned (.pointer (some ⟨b, 0, none⟩)) ∧ SideNew w w' n b := by
  have hmk : ∀ (W : World) (x : Int), (Instr.makeMap 115 (some (.int .i64 x))).run Try.prog W = .ok (.map (some W.heap.size)) (W.alloc (.map #[] 0)) := fun _ _ => rfl
  have hns := fun W => newSets_any n hn W
  go_enter Try.func48, Try.ntmps48
  go_upto_region 1 with fail
  by_cases hkn : (k : Int) < (n : Int)
  all_goals go_region_with (go_at_call 81; refine (hns _).mono ?_; rintro e w' ⟨gA, gE, rfl, hA, hE, hne, l1, l2, hk⟩)
  all_goals (
    clear hns hmk
    go_wp2_with fail
    (try simp only [Exit.inBlock, Exit.then])
    refine bodyPost_ret (v := .pointer (some ⟨_, 0, none⟩)) (by simp [results, go_sem]; rfl) rfl ⟨_, rfl, ?_⟩
    first
      | exact sideNew_1 hA hE hne l1 l2 hk
      | exact sideNew_2 hA hE hne l1 l2 hk
      | fail)
end Go.Proofs.Ytnmefomipldalaa
