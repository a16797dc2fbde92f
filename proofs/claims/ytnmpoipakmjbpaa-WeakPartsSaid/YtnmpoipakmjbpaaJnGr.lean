/- slices.Grow of no slice; slices.Concat at []int. -/
import Derived.Lib.Walk
import Derived.Lib.SliceRun
import Derived.Lib.AppendZerosOnto
import Derived.Test.YtnmpoipakmjbpaaHp
import Derived.Test.YtnmpoipakmjbpaaMem3
namespace Go.Proofs.Ytnmpoipakmjbpaa
open Go.RowKit Go.Lib

set_option maxHeartbeats 4000000 in
set_option maxRecDepth 100000 in
theorem grow_nil (n : Nat) (h0 : 0 < n) (hn : n ≤ 1000000) (w : World) :
    Calls Try.prog 51 #[.slice none 0 0, .int .i64 (n : Int)] w fun e w' => (∃ v, e = .returned v ∧ w'.ownsRow w.heap.size 3 1 v 0 []) ∧ Below w.heap.size w w' := by
  have hin : (Try.prog.info? 3).map (fun i => (i.zero, i.size, i.bytes)) = some (some (.int .i64 0), 1, 8) := by kernel_rfl
  obtain ⟨i0, hi0, hz0, hzs, hzb⟩ := info_parts hin
  have hrz : ∀ ty, (Builtin.append_ #[22, 3] ty #[.slice none 0 0, .int .i64 (n : Int)]).run Try.prog w =
      .ok (.slice (some ⟨w.heap.size, 0, none⟩) n (grownCap w n 0 3)) (w.drew.alloc (.cells ((#[] : Array Value) ++ Builtin.zeroCells (Value.int .i64 0).cells n ++ Builtin.zeroCells (Value.int .i64 0).cells (grownCap w n 0 3 - n)) 3)) := fun ty => by
    have h := Lib.run_append_grow_zeros w 22 3 ty 3 i0 (.int .i64 0) .i64 .i64 Try.underlying22 Try.underlying3 hi0 hz0 none 0 0 [] (run_firstCells_none w.drew i0.size 0 0 0) n h0 (by omega) (by omega) (by omega) (by rw [hzb]; omega)
      (by have := growslice_fits (bytes := i0.bytes) (old := 0) (need := 0 + n) (by omega) (by rw [hzb]; omega); exact this)
    simpa using h
  have hge := grownCap_ge w n 0 3
  have hle := grownCap_le_maxLen w n 0 3 (by unfold maxLen; omega)
  obtain ⟨G, hG⟩ : ∃ G, grownCap w n 0 3 = G := ⟨_, rfl⟩
  rw [hG] at hrz hge hle
  have hown : (w.alloc (.cells (Builtin.zeroCells #[.int .i64 0] n ++ Builtin.zeroCells #[.int .i64 0] (G - n)) 3)).drew.ownsRow w.heap.size 3 1 (.slice (some ⟨w.heap.size, 0, none⟩) 0 G) 0 [] :=
    World.ownsRow_made (base := w.heap.size) (e := 3) (size := 1) w (Builtin.zeroCells #[.int .i64 0] n ++ Builtin.zeroCells #[.int .i64 0] (G - n)) G (Nat.le_refl _) hle (by simp [size_zeroCells]; omega)
  have hbb : Below w.heap.size w (w.alloc (.cells (Builtin.zeroCells #[.int .i64 0] n ++ Builtin.zeroCells #[.int .i64 0] (G - n)) 3)).drew := (below_new w _).drew
  have HO := Lib.hid hown
  have HB := Lib.hid hbb
  have h3 : G ≤ 9223372036854775807 := by unfold maxLen at hle; omega
  clear hG hown hbb hle
  go_enter Try.func51, Try.ntmps51
  go_wp2_with (at_builtin; refine Lib.wpList_append_run _ rfl _ _ _ _ rfl _ _ rfl rfl _ _ (hrz _) ?_)
  go_ret
  exact ⟨⟨_, rfl, HO.out⟩, HB.out⟩
/-- Slices side by side: their addresses, lengths, capacities and what they hold. -/
abbrev SlQ := Option Addr × Nat × Nat × List Int
def slV (q : SlQ) : Value := .slice q.1 q.2.1 q.2.2.1
def catL (Q : List SlQ) : List Int := Q.flatMap fun q => q.2.2.2
theorem catL_take {Q : List SlQ} {k : Nat} {q : SlQ} (h : Q[k]? = some q) : catL (Q.take (k + 1)) = catL (Q.take k) ++ q.2.2.2 := by
  rw [List.take_add_one, h]; simp [catL]
theorem catL_le {Q : List SlQ} {k : Nat} : (catL (Q.take k)).length ≤ (catL Q).length := by
  conv => rhs; rw [← List.take_append_drop k Q]
  simp only [catL, List.flatMap_append, List.length_append]
  omega
theorem intSliceC : SliceOf Try.prog 22 3 1 8 := .mk_ (z := .int .i64 0) Try.underlying22 (by kernel_rfl) rfl
set_option maxHeartbeats 4000000 in
set_option maxRecDepth 100000 in
theorem concat_any (b m f : Nat) (Q : List SlQ) (hQ : Q.length = m) (w : World) (hb : w.heap[b]? = some (.cells (Q.map slV).toArray 22 (0, 0))) (hq : ∀ q ∈ Q, q.2.2.2.length = q.2.1 ∧ Rd w 1 q.1 q.2.1 (q.2.2.2.map (Value.int .i64))) (h0 : 0 < (catL Q).length) (hn : (catL Q).length ≤ 1000000) (hm : m ≤ 1000) :
    Calls Try.prog 22 #[.slice (some ⟨b, 0, none⟩) m f] w fun e w' => (∃ v, e = .returned v ∧ w'.ownsRow w.heap.size 3 1 v (catL Q).length ((catL Q).map (Value.int .i64))) ∧ Below w.heap.size w w' := by
  have HQ := Lib.hid hQ
  have HB := Lib.hid hb
  have HQQ := Lib.hid hq
  have HC := fun k => Lib.hid (catL_le (Q := Q) (k := k))
  clear hQ hb hq
  go_enter Try.func22, Try.ntmps22
  go_wp2_with fail
  go_loop [3, 11] (fun a i => ∃ k : Nat, k ≤ m ∧ i = .int .i64 k ∧ a = .int .i64 ((catL (Q.take k)).length : Int)) (fun _ i => m - (RowKit.intOf i).toNat)
  case atStart => exact ⟨0, Nat.zero_le _, rfl, rfl⟩
  case round =>
    obtain ⟨k, hk, rfl, rfl⟩ := hrel
    by_cases hlt : k < m
    · obtain ⟨q, hqk⟩ : ∃ q, Q[k]? = some q := ⟨_, List.getElem?_eq_getElem (by rw [HQ.out]; exact hlt)⟩
      have hc : w.cell? ⟨b, k, none⟩ = some (slV q) := hp_cell HB.out (by simp [hqk])
      have hlq := (HQQ.out q (List.mem_of_getElem? hqk)).1
      have hl1 : (catL (Q.take (k + 1))).length = (catL (Q.take k)).length + q.2.1 := by rw [catL_take hqk, List.length_append, hlq]
      have hle1 := (HC (k + 1)).out
      obtain ⟨A, l, c, xs⟩ := q
      simp only [slV] at hc hl1
      obtain ⟨x, hx⟩ : ∃ x, (catL (Q.take k)).length = x := ⟨_, rfl⟩
      obtain ⟨x1, hx1⟩ : ∃ x, (catL (Q.take (k + 1))).length = x := ⟨_, rfl⟩
      obtain ⟨xt, hxt⟩ : ∃ x, (catL Q).length = x := ⟨_, rfl⟩
      rw [hx1, hx] at hl1
      rw [hx1, hxt] at hle1
      rw [hxt] at hn
      rw [hx]
      have HX1 := Lib.hid (show (catL (Q.take (k + 1))).length = x + l by rw [hx1, hl1])
      clear hqk hlq hx1 hx hxt
      go_wp2_with fail
      go_round
      case rel => exact ⟨k + 1, by omega, by go_num, by rw [HX1.out]; go_num⟩
      case measure => simp [RowKit.intOf]; omega
    · obtain rfl : k = m := by omega
      rw [List.take_of_length_le (by rw [HQ.out]; exact Nat.le_refl _)]
      obtain ⟨xt, hxt⟩ : ∃ x, (catL Q).length = x := ⟨_, rfl⟩
      rw [hxt] at h0 hn ⊢
      have HXT := Lib.hid hxt
      clear hxt
      go_wp2_with fail
      refine (grow_nil xt h0 hn w).mono ?_
      rintro e w1 ⟨⟨v, rfl, hown⟩, hb1⟩
      have HO1 := Lib.hid hown
      have HB1 := Lib.hid hb1
      clear hown hb1
      go_wp2_with fail
      go_loopw [6, 27] (fun v i wr => ∃ k' : Nat, k' ≤ k ∧ i = .int .i64 k' ∧ wr.ownsRow w.heap.size 3 1 v (catL (Q.take k')).length ((catL (Q.take k')).map (Value.int .i64)) ∧ Below w.heap.size w wr) (fun _ i _ => k - (RowKit.intOf i).toNat)
      case atStart => exact ⟨0, Nat.zero_le _, rfl, HO1.out, HB1.out⟩
      case round =>
        obtain ⟨j, hj, rfl, hown, hbw⟩ := hrel
        by_cases hlt2 : j < k
        · obtain ⟨q, hqk⟩ : ∃ q, Q[j]? = some q := ⟨_, List.getElem?_eq_getElem (by rw [HQ.out]; exact hlt2)⟩
          have hc : wr.cell? ⟨b, j, none⟩ = some (slV q) := cell_below hbw (hp_cell HB.out (by simp [hqk]))
          obtain ⟨hlq, hrq⟩ := HQQ.out q (List.mem_of_getElem? hqk)
          have hrw := hrq.below hbw
          have hct := catL_take hqk
          have hle1 := (HC (j + 1)).out
          rw [hct, List.length_append, hlq, HXT.out] at hle1
          obtain ⟨A, l, c, xs⟩ := q
          simp only [slV] at hc hrw hct hlq hle1
          have HCT := Lib.hid hct
          have HO := Lib.hid hown
          have HBW := Lib.hid hbw
          have HRW := Lib.hid hrw
          have HLQ := Lib.hid hlq
          obtain ⟨acc, hacc⟩ : ∃ acc, catL (Q.take j) = acc := ⟨_, rfl⟩
          rw [hacc] at HO HCT hle1
          clear hqk hown hbw hrq hrw hct hlq hacc
          go_wp2_with (first
            | (at_builtin; refine wpList_appR rfl _ _ _ rfl intSliceC (by decide) _ acc.length _ rfl HO.out A l c _ rfl HRW.out (oneInts _ _) (by omega) (by unfold maxLen; omega) HBW.out.size ?_; intro v1 w2 hown1 hg1 hat1)
            | fail)
          have hgr := below_app HBW.out hg1 HO.out HBW.out.size
          go_roundw
          case rel => exact ⟨j + 1, by omega, by go_num, by rw [HCT.out, List.length_append, HLQ.out, List.map_append]; exact hown1, hgr⟩
          case measure => simp [RowKit.intOf]; omega
        · obtain rfl : j = k := by omega
          rw [List.take_of_length_le (by rw [HQ.out]; exact Nat.le_refl _)] at hown
          rw [HXT.out] at hown
          have HO := Lib.hid hown
          have HBW := Lib.hid hbw
          clear hown hbw
          go_wp2_with fail
          go_ret
          exact ⟨⟨_, rfl, by rw [HXT.out]; exact HO.out⟩, HBW.out⟩
end Go.Proofs.Ytnmpoipakmjbpaa
