/- Options: the flags as places, as a number, set from one. -/
import Derived.Test.YtcdogkabdhbjmaaDoorOpN
import Derived.Test.YtcdogkabdhbjmaaDoorBits
import Derived.StillTailTactics
namespace Go.Proofs.YtcdogkabdhbjmaaDoor
open Go.RowKit

/-- The flags: a bit, and the place of its field. -/
def flagCells (b : Nat) : List Value := [.int .i64 1, .pointer (some ⟨b, 4, none⟩), .int .i64 2, .pointer (some ⟨b, 5, none⟩), .int .i64 4, .pointer (some ⟨b, 6, none⟩), .int .i64 8, .pointer (some ⟨b, 7, none⟩), .int .i64 16, .pointer (some ⟨b, 8, none⟩), .int .i64 32, .pointer (some ⟨b, 9, none⟩), .int .i64 64, .pointer (some ⟨b, 10, none⟩), .int .i64 128, .pointer (some ⟨b, 11, none⟩), .int .i64 256, .pointer (some ⟨b, 12, none⟩), .int .i64 512, .pointer (some ⟨b, 13, none⟩)]
set_option maxRecDepth 100000 in
set_option maxHeartbeats 4000000 in
theorem opFlags_any (b : Nat) (w : World) :
    Calls Tryd.prog 52 #[.pointer (some ⟨b, 0, none⟩)] w fun e w' => (∃ g, e = .returned (.slice (some ⟨g, 0, none⟩) 10 10) ∧ Rd w' 2 (some ⟨g, 0, none⟩) 10 (flagCells b)) ∧ Below w.heap.size w w' := by
  go_enter Tryd.func52, Tryd.ntmps52
  go_wp2
  go_still_tail 40, (by kernel_rfl)
  change wpList _ _ _ _ _ w.drew
  have hbd : Below w.heap.size w w.drew := (Below.refl _ _).drew
  generalize w.drew = w2 at *
  go_wp2
  go_ret
  exact ⟨⟨_, rfl, ⟨rfl, fun _ => ⟨_, rfl, by simp, cells_new w2 (flagCells b) _⟩⟩⟩, below_self hbd (below_new _ _)⟩
/-- Fourteen cells of options, in a block that may be written. -/
def OptAt (W : World) (b : Nat) (o : Opt) : Prop := (∀ (j : Nat) (u : Value), o.cells[j]? = some u → W.cell? ⟨b, j, none⟩ = some u) ∧ ∀ i, W.frozen? ⟨b, i, none⟩ = false
theorem OptAt.new_ (w : World) (o : Opt) (T : TypeId) : OptAt (w.alloc (.cells o.cells T)) w.heap.size o := by
  refine ⟨fun j u hu => ?_, fun i => by simp [go_sem]⟩
  rw [World.cell?_alloc_at _ _ _ _ rfl]
  exact hu
theorem OptAt.below {W W' : World} {b : Nat} {o : Opt} (h : OptAt W b o) (hb : Below W.heap.size W W') : OptAt W' b o := by
  have hl : b < W.heap.size := cell_lt (h.1 0 _ rfl)
  exact ⟨fun j u hu => cell_below hb (h.1 j u hu), fun i => (hb.frozen hl).trans (h.2 i)⟩
theorem OptAt.flag {W : World} {b : Nat} {o : Opt} (h : OptAt W b o) {k : Nat} {x : Bool} (hk : o.flags[k]? = some x) : W.cell? ⟨b, 4 + k, none⟩ = some (.bool x) := by
  have hk10 : k < 10 := (List.getElem?_eq_some_iff.1 hk).1
  refine h.1 (4 + k) (.bool x) ?_
  have hc : k = 0 ∨ k = 1 ∨ k = 2 ∨ k = 3 ∨ k = 4 ∨ k = 5 ∨ k = 6 ∨ k = 7 ∨ k = 8 ∨ k = 9 := by omega
  rcases hc with rfl | rfl | rfl | rfl | rfl | rfl | rfl | rfl | rfl | rfl <;> (rw [← Option.some.inj hk]; rfl)
theorem flag_cells (b k : Nat) (hk : k < 10) : (flagCells b)[k * 2]? = some (.int .i64 ((2 : Int) ^ k)) ∧ (flagCells b)[k * 2 + 1]? = some (.pointer (some ⟨b, 4 + k, none⟩)) := by
  have hc : k = 0 ∨ k = 1 ∨ k = 2 ∨ k = 3 ∨ k = 4 ∨ k = 5 ∨ k = 6 ∨ k = 7 ∨ k = 8 ∨ k = 9 := by omega
  rcases hc with rfl | rfl | rfl | rfl | rfl | rfl | rfl | rfl | rfl | rfl <;> exact ⟨rfl, rfl⟩
theorem low_next {l : List Bool} {k : Nat} {x : Bool} (h : l[k]? = some x) : Opt.low (l.take (k + 1)) = Opt.low (l.take k) + Opt.n1 x * 2 ^ k := by
  have hk := (List.getElem?_eq_some_iff.1 h).1
  rw [List.take_add_one, h]
  simp only [Option.toList_some]
  rw [Opt.low_snoc, List.length_take, Nat.min_eq_left (by omega)]
theorem low_lt_take (l : List Bool) (k : Nat) : Opt.low (l.take k) < 2 ^ k := Nat.lt_of_lt_of_le (Opt.low_lt _) (Nat.pow_le_pow_right (by decide) (List.length_take_le k l))
set_option maxRecDepth 100000 in
set_option maxHeartbeats 4000000 in
theorem opBits_any (o : Opt) (w : World) :
    Calls Tryd.prog 34 #[.agg #[.int .i64 o.d, .int .i64 o.l, .int .i64 o.t, .int .i64 o.g, .bool o.b0, .bool o.b1, .bool o.b2, .bool o.b3, .bool o.b4, .bool o.b5, .bool o.b6, .bool o.b7, .bool o.b8, .bool o.b9]] w fun e w' => e = .returned (.int .i64 (o.fl : Nat)) ∧ Below w.heap.size w w' := by
  have hb0 := below_new w (.cells o.cells 23)
  have HO := Lib.hid (OptAt.new_ w o 23)
  have HB := Lib.hid hb0
  have hFLEN : o.flags.length = 10 := rfl
  have HFIN := Lib.hid (show ∀ k, ¬ k < 10 → Opt.low (o.flags.take k) = o.fl from fun k hk => by
    rw [List.take_of_length_le (by rw [hFLEN]; omega)]
    rfl)
  clear hb0
  obtain ⟨F, hF⟩ : ∃ F, o.fl = F := ⟨_, rfl⟩
  rw [hF] at HFIN ⊢
  obtain ⟨fs, hfs⟩ : ∃ fs, o.flags = fs := ⟨_, rfl⟩
  rw [hfs] at HFIN hFLEN
  have HFS := Lib.hid hfs
  have HFL := Lib.hid hFLEN
  clear hF hfs hFLEN
  obtain ⟨W, hW⟩ : ∃ W, w.alloc (.cells o.cells 23) = W := ⟨_, rfl⟩
  have hW' : w.alloc (.cells #[.int .i64 o.d, .int .i64 o.l, .int .i64 o.t, .int .i64 o.g, .bool o.b0, .bool o.b1, .bool o.b2, .bool o.b3, .bool o.b4, .bool o.b5, .bool o.b6, .bool o.b7, .bool o.b8, .bool o.b9] 23) = W := hW
  rw [hW] at HO HB
  clear hW
  go_enter Tryd.func34, Tryd.ntmps34
  go_wp2_with fail
  clear hW'
  refine (opFlags_any w.heap.size W).mono ?_
  rintro e w1 ⟨⟨gb, rfl, hr⟩, hb1⟩
  have HR := Lib.hid hr
  have HO1 := Lib.hid (HO.out.below hb1)
  have HB1 := Lib.hid (below_self HB.out hb1)
  clear hr hb1
  go_wp2
  go_loopw [3, 8] (fun n i wr => ∃ k : Nat, k ≤ 10 ∧ i = .int .i64 k ∧ n = .int .i64 (Opt.low (fs.take k) : Nat) ∧ Below w1.heap.size w1 wr) (fun _ i _ => 10 - (intOf i).toNat)
  case atStart => exact ⟨0, Nat.zero_le _, rfl, rfl, Below.refl _ _⟩
  case round =>
    obtain ⟨k, hk, rfl, rfl, hb⟩ := hrel
    obtain ⟨N, hN⟩ : ∃ N, Opt.low (fs.take k) = N := ⟨_, rfl⟩
    rw [hN]
    have HN := Lib.hid hN
    by_cases hlt : k < 10
    · obtain ⟨x, hx⟩ : ∃ x, fs[k]? = some x := ⟨_, List.getElem?_eq_getElem (by rw [HFL.out]; exact hlt)⟩
      have HX := Lib.hid (low_next hx)
      have hlow := low_lt_take fs k
      rw [hN] at hlow HX
      obtain ⟨hc1, hc2⟩ := flag_cells w.heap.size k hlt
      have q1 := (HR.out.below hb).news (k * 2) _ hc1
      have q2 := (HR.out.below hb).news (k * 2 + 1) _ hc2
      rw [addNew] at q1 q2
      obtain ⟨P2, hP2⟩ : ∃ P2 : Int, (2 : Int) ^ k = P2 := ⟨_, rfl⟩
      rw [hP2] at q1
      have cx := (HO1.out.below hb).flag (k := k) (x := x) (by rw [HFS.out]; exact hx)
      have hbn := below_self hb (below_new wr (.cells #[.int .i64 P2, .pointer (some ⟨w.heap.size, 4 + k, none⟩)] 86))
      have cx2 := cell_below (below_new wr (.cells #[.int .i64 P2, .pointer (some ⟨w.heap.size, 4 + k, none⟩)] 86)) cx
      clear hN hc1 hc2
      cases x with
      | false =>
        have HY := Lib.hid (show Opt.low (fs.take (k + 1)) = N by rw [HX.out]; simp [Opt.n1])
        go_wp2
        go_roundw
        case rel => exact ⟨k + 1, by omega, by go_num, by rw [HY.out], hbn⟩
        case measure => simp [intOf]; omega
      | true =>
        have hor : bits .or .i64 (N : Int) P2 = ((N + 2 ^ k : Nat) : Int) := by
          have hp : (P2 : Int) = ((2 ^ k : Nat) : Int) := by rw [← hP2]; simp
          have hk2 : (2 : Nat) ^ k ≤ 2 ^ 9 := Nat.pow_le_pow_right (by decide) (by omega)
          have h512 : (2 : Nat) ^ 9 = 512 := by decide
          rw [hp, or_i64 _ _ (by omega) (by omega)]
          congr 1
          have := Nat.two_pow_add_eq_or_of_lt hlow 1
          rw [Nat.mul_one] at this
          rw [Nat.or_comm, ← this, Nat.add_comm]
        have HY := Lib.hid (show Opt.low (fs.take (k + 1)) = N + 2 ^ k by rw [HX.out]; simp [Opt.n1])
        obtain ⟨M, hM⟩ : ∃ M, N + 2 ^ k = M := ⟨_, rfl⟩
        rw [hM] at hor HY
        have HP := Lib.hid hP2
        clear hM hlow hP2
        go_wp2
        go_roundw
        case rel => exact ⟨k + 1, by omega, by go_num, by rw [HY.out], hbn⟩
        case measure => simp [intOf]; omega
    · have HF := Lib.hid (HN.out.symm.trans (HFIN.out k hlt))
      go_wp2
      go_ret
      exact ⟨by rw [HF.out]; rfl, below_self HB1.out hb⟩
end Go.Proofs.YtcdogkabdhbjmaaDoor
