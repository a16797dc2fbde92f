/- narrow.Sizes and its reference hand back each code's size. -/
import Derived.Test.YtoopchpolcfdaaaDoorEncN
namespace Go.Proofs.YtoopchpolcfdaaaDoor
open Go.RowKit

set_option maxHeartbeats 2000000 in
theorem refSizesN_any (A : Option Addr) (n c : Nat) (l : List Int) (w : World) (hr : Rd w 1 A n (l.map (Value.int .i64))) (hn : n ≤ 1000000) :
    Calls Tryd.prog 35 #[.slice A n c] w fun e w' => ∃ v, e = .returned v ∧ w'.ownsRow w.heap.size 3 1 v n ((l.map sizeN).map (Value.int .i64)) ∧ Below w.heap.size w w' := by
  have hlen : l.length = n := by simpa using hr.len1
  have HL := Lib.hid hlen
  clear hlen
  go_enter Tryd.func35, Tryd.ntmps35
  go_wp2
  go_loopw [3, 4] (fun v i wr => ∃ k : Nat, k ≤ n ∧ i = .int .i64 k ∧ wr.ownsRow w.heap.size 3 1 v k (((l.take k).map sizeN).map (Value.int .i64)) ∧ Below w.heap.size w wr) (fun _ i _ => n - (intOf i).toNat)
  case atStart => exact ⟨0, Nat.zero_le _, rfl, ⟨rfl, .inl ⟨rfl, rfl⟩⟩, Below.refl _ _⟩
  case round =>
    obtain ⟨k, hk, rfl, hown, hbr⟩ := hrel
    by_cases hlt : k < n
    · obtain ⟨x, hxk⟩ : ∃ x, l[k]? = some x := ⟨_, List.getElem?_eq_getElem (by rw [HL.out]; exact hlt)⟩
      obtain ⟨ad, rfl, _, hcells⟩ := (hr.below hbr).2 (by omega)
      have hcx : wr.cell? (ad.add k) = some (.int .i64 x) := hcells k _ (by rw [List.getElem?_map, hxk]; rfl)
      have HT := Lib.hid (show ((l.take (k + 1)).map sizeN).map (Value.int .i64) = ((l.take k).map sizeN).map (Value.int .i64) ++ [.int .i64 (sizeN x)] by rw [List.take_add_one, hxk]; simp)
      clear hxk hcells
      go_wp2_with (first
        | (go_at_call 37; refine (refSizeN_any x _).mono ?_; rintro e w' ⟨rfl, rfl⟩)
        | (at_builtin; refine wpList_app rfl _ _ _ rfl intSlice (by decide) u3 k _ rfl (hown.alloc _) ⟨wr.heap.size, 0, none⟩ 1 1 [.int .i64 (sizeN x)] rfl rfl (cell_one_new _ _ _) (oneInt _ _) (by omega) (by unfold maxLen; omega) (Nat.le_trans hbr.size (by simp)) ?_; intro v1 w1 hown1 hg1 hat1))
      have hgr := below_app (hbr.alloc hbr.size _) hg1 (hown.alloc _) (Nat.le_trans hbr.size (by simp))
      go_roundw
      case rel => exact ⟨k + 1, by omega, by go_num, by rw [HT.out]; exact hown1, hgr⟩
      case measure => simp [intOf]; omega
    · have hkn : k = n := by omega
      have HN := Lib.hid (show ((l.take k).map sizeN).map (Value.int .i64) = (l.map sizeN).map (Value.int .i64) by rw [List.take_of_length_le (by rw [HL.out]; omega)])
      have HK := Lib.hid hkn
      clear hkn
      go_wp2
      go_ret
      exact ⟨u3, rfl, by rw [← HN.out, ← HK.out]; exact hown, hbr⟩

/-- The row while it is being filled. -/
def fillN (l : List Int) (k : Nat) : List Value := ((l.take k).map sizeN).map (Value.int .i64) ++ List.replicate (l.length - k) (.int .i64 0)
theorem fillN_step {l : List Int} {k : Nat} {x : Int} (h : l[k]? = some x) : (fillN l k).set k (.int .i64 (sizeN x)) = fillN l (k + 1) := by
  have hlt := (List.getElem?_eq_some_iff.1 h).1
  unfold fillN
  have e1 : l.length - k = (l.length - (k + 1)) + 1 := by omega
  rw [e1, List.replicate_succ, List.take_add_one, h]
  have e2 : (((l.take k).map sizeN).map (Value.int .i64)).length = k := by simp; omega
  rw [List.set_append_right _ _ (by omega), e2]
  simp
theorem fillN_end (l : List Int) : fillN l l.length = (l.map sizeN).map (Value.int .i64) := by simp [fillN]
theorem fillN_start (l : List Int) : fillN l 0 = List.replicate l.length (.int .i64 0) := by simp [fillN]

set_option maxHeartbeats 2000000 in
theorem sizesN_any (A : Option Addr) (n c : Nat) (l : List Int) (w : World) (hs : TabN w) (hr : Rd w 1 A n (l.map (Value.int .i64))) (hn : n ≤ 1000000) :
    Calls Tryd.prog 34 #[.slice A n c] w fun e w' => ∃ v, e = .returned v ∧ w'.ownsRow w.heap.size 3 1 v n ((l.map sizeN).map (Value.int .i64)) ∧ Below w.heap.size w w' := by
  have hlen : l.length = n := by simpa using hr.len1
  have HL := Lib.hid hlen
  clear hlen
  go_enter Tryd.func34, Tryd.ntmps34
  go_wp2_with (at_make; refine wpList_mkFull rfl _ _ _ rfl (base := w.heap.size) (z := .int .i64 0) (bytes := 8) Tryd.underlying27 (by kernel_rfl) rfl _ _ n rfl rfl rfl rfl (by omega) (by unfold maxLen; omega) (Nat.le_refl _) ?_; intro w0 hown0 hg0)
  have hb0 : Below w.heap.size w w0 := (Below.refl _ _).grown hg0 (Nat.le_refl _) (fun k hk => by cases hk)
  go_loopw [11] (fun i wr => ∃ k : Nat, k ≤ n ∧ i = .int .i64 k ∧ wr.ownsRow w.heap.size 3 1 (.slice (some ⟨w.heap.size, 0, none⟩) n n) n (fillN l k) ∧ Below w.heap.size w wr) (fun i _ => n - (intOf i).toNat)
  case atStart => exact ⟨0, Nat.zero_le _, rfl, by rw [fillN_start, HL.out]; exact hown0, hb0⟩
  case round =>
    obtain ⟨k, hk, rfl, hown, hbr⟩ := hrel
    by_cases hlt : k < n
    · obtain ⟨x, hxk⟩ : ∃ x, l[k]? = some x := ⟨_, List.getElem?_eq_getElem (by rw [HL.out]; exact hlt)⟩
      obtain ⟨ad, rfl, _, hcells⟩ := (hr.below hbr).2 (by omega)
      have hcx : wr.cell? (ad.add k) = some (.int .i64 x) := hcells k _ (by rw [List.getElem?_map, hxk]; rfl)
      have HT := Lib.hid (fillN_step hxk)
      clear hxk hcells
      go_wp2_with fail
      refine (sizeN_any x _ (hs.below hbr).lasts).mono ?_
      rintro e w1 ⟨rfl, rfl⟩
      have hb1 := Below.refl wr.heap.size wr
      have hown1 := hown.kept (w' := wr) (row := none) ⟨hb1.os, hb1.tape, hb1.output, hb1.size, fun k hk _ => hb1.block k hk⟩ (.inr (by simp [Value.ownBlock]))
      obtain ⟨u, hcu⟩ : ∃ u, wr.cell? ⟨w.heap.size, k, none⟩ = some u := by
        rw [hown1.cellAt k (by omega)]
        exact ⟨_, List.getElem?_eq_getElem (by have := hown1.1; omega)⟩
      have hfu := hown1.frozenAt k
      have hst := (hown1.stored k (.int .i64 (sizeN x))).1
      have hb2 := (hbr.trans (hb1.mono hbr.size)).setCell (p := ⟨w.heap.size, k, none⟩) (Nat.le_refl _) (.int .i64 (sizeN x))
      clear hown1
      go_wp2
      go_roundw
      case rel => exact ⟨k + 1, by omega, by go_num, by rw [← HT.out]; exact hst, hb2⟩
      case measure => simp [intOf]; omega
    · have hkn : k = n := by omega
      have HN := Lib.hid (show fillN l k = (l.map sizeN).map (Value.int .i64) by rw [← fillN_end, HL.out, hkn])
      clear hkn
      go_wp2
      go_ret
      exact ⟨_, rfl, by rw [← HN.out]; exact hown, hbr⟩
end Go.Proofs.YtoopchpolcfdaaaDoor
