/- cluster's sets: the set that a place is in, walked. -/
import Derived.Test.YtnmefomipldalaaFinS
import Derived.Laws.ResultCell
import Derived.Laws.Rows
namespace Go.Proofs.Ytnmefomipldalaa
open Go.RowKit

theorem setCell_heap {w : World} {g : Nat} {l : List Nat} {t : TypeId} (h : w.heap[g]? = some (.cells (ints l).toArray t (0, 0))) {i : Nat} (hi : i < l.length) (x : Nat) : (w.setCell ⟨g, i, none⟩ (.int .i64 (x : Int))).heap[g]? = some (.cells (ints (l.set i x)).toArray t (0, 0)) := by
  rw [heap_setCell_same w g i _ t _ h]
  congr 2
  unfold ints
  rw [List.map_set, List.setIfInBounds_toArray]
theorem grown_drew {a w : World} {row : Option Nat} (h : a.grownBy w row) : a.grownBy w.drew row := ⟨h.os, h.tape, h.output, h.size, h.block⟩
theorem grownTwo {a b c : World} {row : Option Nat} (h : a.grownBy b row) (k : b.grownBy c row) : a.grownBy c row := ⟨k.os.trans h.os, k.tape.trans h.tape, k.output.trans h.output, Nat.le_trans h.size k.size, fun i hi hr => (k.block i (Nat.lt_of_lt_of_le hi h.size) hr).trans (h.block i hi hr)⟩
theorem res_span {fn : Func} {p : Tmp} (hf : fn.results = #[.cell p 31]) (tmps : Array Value) (w : World) (g : Nat) (s : Sp) (hp : tmps.getD p undef = .pointer (some ⟨g, 0, none⟩))
    (hC : SpanBlk w g s) : (results fn tmps).run Try.prog w = .ok (valS s) w := by
  obtain ⟨c0, c1, _, _⟩ := hC
  have hp' : tmps[p]?.getD undef = .pointer (some ⟨g, 0, none⟩) := by simpa using hp
  unfold valS
  simp only [results, hf]
  clear hp hf
  go_simp
set_option maxRecDepth 100000 in
set_option maxHeartbeats 2000000 in
theorem set_any (b gA gE n : Nat) (ah en : List Nat) (r e : Nat → Nat) (at0 : Nat) (hat : at0 < n) (hn : n ≤ 100000000) (w : World) (hS : SetsAt w b gA gE n ah en) (hF : Forest n ah r) (hEn : ∀ i, r i = i → i < n → en[i]? = some (e i)) :
    Calls Try.prog 95 #[.pointer (some ⟨b, 0, none⟩), .int .i64 (at0 : Int)] w fun e' w' => e' = .returned (.agg #[.int .i64 (r at0 : Nat), .int .i64 (e (r at0) : Nat)]) ∧ ∃ ah', Forest n ah' r ∧ w'.heap[gA]? = some (.cells (ints ah').toArray 3 (0, 0)) ∧ w.grownBy w' (some gA) := by
  obtain ⟨w1, hw1⟩ : ∃ w1, w.alloc (.cells #[.int .i64 0, .int .i64 0] 31) = w1 := ⟨_, rfl⟩
  have hg1 : w.grownBy w1 (some gA) := by rw [← hw1]; exact World.grownBy_alloc w _ _
  have hS1 : SetsAt w1 b gA gE n ah en := hS.grown hg1 (blk_grown hS.hA (by rw [← hw1]; exact World.grownBy_alloc w _ none) (by simp)) hS.lA
  have HEN := Lib.hid hEn
  have HI := Lib.hid (show Forest n ah r ∧ SetsAt w1 b gA gE n ah en ∧ w.grownBy w1 (some gA) from ⟨hF, hS1, hg1⟩)
  clear hS hF hEn hg1 hS1
  go_enter Try.func95, Try.ntmps95
  go_wp2_with fail
  have HR := Lib.hid (show w1.heap[w.heap.size]? = some (.cells #[.int .i64 0, .int .i64 0] 31 (0, 0)) from by rw [← hw1]; exact heap_alloc_new _ _)
  have hRA : gA ≠ w.heap.size := by
    have := cell_lt HI.out.2.1.c0
    intro e9
    have h1 := HI.out.2.1.hA
    have h2 := HR.out
    rw [e9, h2] at h1
    injection h1 with h1
    injection h1 with _ h3 _
    cases h3
  clear hw1
  generalize hRe : w.heap.size = R at *
  have HRE := Lib.hid hRe
  clear hRe
  go_loopw [1] (fun i wr => ∃ (a : Nat) (ah' : List Nat), i = .int .i64 (a : Int) ∧ a < n ∧ r a = r at0 ∧ Forest n ah' r ∧ SetsAt wr b gA gE n ah' en ∧ w1.grownBy wr (some gA)) (fun i _ => (intOf i).toNat)
  case atStart => exact ⟨at0, ah, rfl, hat, rfl, HI.out.1, HI.out.2.1, World.grownBy.refl _ _⟩
  case round =>
    obtain ⟨a, ah', rfl, han, hra, hF, hS, hg⟩ := hrel
    obtain ⟨a1, ha1⟩ : ∃ a1, ah'[a]? = some a1 := ⟨_, List.getElem?_eq_getElem (by rw [hS.lA]; exact han)⟩
    obtain ⟨f1, f2, f3⟩ := hF.2 a a1 ha1
    have han1 : a1 < n := by omega
    have fA : wr.frozen? ⟨gA, a, none⟩ = false := by
      unfold World.frozen?
      rw [show wr.heap[(⟨gA, a, none⟩ : Addr).block]? = _ from hS.hA]
      rfl
    have c0 := hS.c0
    have cA := cells_of_heap hS.hA ha1
    have HF := Lib.hid hF
    have HS := Lib.hid hS
    have HG := Lib.hid hg
    by_cases he : a1 = a
    · subst he
      have hroot : r a1 = a1 := f3.1 rfl
      have cE := cells_of_heap hS.hE (HEN.out a1 hroot han)
      have c1 := hS.c1
      have hSp : SpanBlk wr R (0, 0) := (show SpanBlk w1 R (0, 0) from by
        unfold SpanBlk World.cell? World.frozen?
        rw [show w1.heap[(⟨R, 0, none⟩ : Addr).block]? = _ from HR.out]
        exact ⟨rfl, rfl, rfl, rfl⟩).grown hg (fun e9 => hRA (Option.some.inj e9))
      obtain ⟨q0, q1, q2, q3⟩ := hSp
      have HSP := Lib.hid (show SpanBlk wr R (0, 0) from ⟨q0, q1, q2, q3⟩)
      clear hF hS hg f1 f2 f3
      go_wp2_with fail
      (try simp only [Exit.inBlock, Exit.then])
      refine bodyPost_ret (v := valS ((r at0 : Nat), (e (r at0) : Nat))) ?_ rfl ⟨rfl, ah', HF.out, ?_, ?_⟩
      · rw [← hra, hroot]
        exact res_span rfl _ _ R ((a1 : Int), (e a1 : Int)) rfl (HSP.out.put _ _)
      · exact (Below.heap_setCell _ _ _ _ (show gA ≠ R from hRA)).trans ((Below.heap_setCell _ _ _ _ (show gA ≠ R from hRA)).trans HS.out.hA)
      · refine only_setCell (only_setCell ?_ (.inr ?_) _) (.inr ?_) _
        · exact grownTwo HI.out.2.2 HG.out
        · rw [HRE.out]; exact Nat.le_refl _
        · rw [HRE.out]; exact Nat.le_refl _
    · obtain ⟨a2, ha2⟩ : ∃ a2, ah'[a1]? = some a2 := ⟨_, List.getElem?_eq_getElem (by rw [hS.lA]; omega)⟩
      have cB := cells_of_heap hS.hA ha2
      have HH := Lib.hid (hF.halve ha1 ha2)
      have h1 : ((a1 : Int) != (a : Int)) = true := by simp; omega
      have hA2 : (wr.setCell ⟨gA, a, none⟩ (.int .i64 (a2 : Int))).heap[gA]? = some (.cells (ints (ah'.set a a2)).toArray 3 (0, 0)) := setCell_heap hS.hA (by rw [hS.lA]; exact han) a2
      have hg2 : w1.grownBy (wr.setCell ⟨gA, a, none⟩ (.int .i64 (a2 : Int))).drew (some gA) := grown_drew (only_setCell (p := ⟨gA, a, none⟩) hg (.inl rfl) _)
      have hg3 : wr.grownBy (wr.setCell ⟨gA, a, none⟩ (.int .i64 (a2 : Int))).drew (some gA) := grown_drew (only_setCell (p := ⟨gA, a, none⟩) (World.grownBy.refl wr _) (.inl rfl) _)
      have HS2 := Lib.hid (show SetsAt (wr.setCell ⟨gA, a, none⟩ (.int .i64 (a2 : Int))).drew b gA gE n (ah'.set a a2) en from hS.grown hg3 hA2 (by rw [List.length_set]; exact hS.lA))
      have hn2 : (wr.setCell ⟨gA, a, none⟩ (.int .i64 (a2 : Int))).drew.cell? ⟨gA, a, none⟩ = some (.int .i64 (a2 : Int)) := cells_of_heap HS2.out.hA (by rw [List.getElem?_set_self (by rw [hS.lA]; exact han)])
      have hn0 := HS2.out.c0
      have HG2 := Lib.hid hg2
      obtain ⟨b1, b2, b3⟩ := hF.2 a1 a2 ha2
      have hra2 : r a2 = r at0 := b2.trans (f2.trans hra)
      clear hF hS hg hA2 hg2 hg3 f3 b3
      go_wp2
      go_region
      generalize (wr.setCell ⟨gA, a, none⟩ (.int .i64 (a2 : Int))).drew = w5 at *
      go_wp2
      go_roundw
      case rel => exact ⟨a2, _, rfl, by omega, hra2, HH.out, HS2.out, HG2.out⟩
      case measure => simp [intOf]; omega
end Go.Proofs.Ytnmefomipldalaa
