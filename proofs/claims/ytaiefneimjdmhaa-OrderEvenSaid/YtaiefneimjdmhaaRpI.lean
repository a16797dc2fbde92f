/- slices.Repeat at one number, a few times. -/
import Derived.Test.YtaiefneimjdmhaaMem3
import Derived.Test.YtaiefneimjdmhaaLayMul
import Derived.Laws.CopyOwn
import Derived.Deep.RegionLaw
import Derived.Lib.SlBytesRow
import Derived.RegionTactic
import Derived.Deep.DeepCutAuto
namespace Go.Proofs.Ytaiefneimjdmhaa
open Go.RowKit Go.Shelf

/-- A row of m bytes of which k are blanks. -/
def rowBI (x : Int) (k m : Nat) : List Value := List.replicate k (.int .i64 x) ++ List.replicate (m - k) (.int .i64 0)
theorem rowBI_len {x : Int} {k m : Nat} (h : k ≤ m) : (rowBI x k m).length = m := by unfold rowBI; simp; omega
theorem rowBI_all (x : Int) (m : Nat) : rowBI x m m = List.replicate m (.int .i64 x) := by unfold rowBI; simp
theorem rowBI_splice {x : Int} {k m j : Nat} (h : k + j ≤ m) : splice (rowBI x k m) k (List.replicate j (.int .i64 x)) = rowBI x (k + j) m := by
  unfold splice rowBI
  have h1 : (List.replicate k (Value.int .i64 x) ++ List.replicate (m - k) (Value.int .i64 0)).take k = List.replicate k (Value.int .i64 x) := List.take_left' (by simp)
  have h2 : (List.replicate k (Value.int .i64 x) ++ List.replicate (m - k) (Value.int .i64 0)).drop (k + (List.replicate j (Value.int .i64 x)).length) = List.replicate (m - (k + j)) (Value.int .i64 0) := by
    rw [List.length_replicate, List.drop_append, List.length_replicate]
    rw [List.drop_eq_nil_of_le (by simp), List.nil_append, List.drop_replicate]
    congr 1
    omega
  rw [h1, h2, ← List.append_assoc, List.replicate_append_replicate]
theorem rowBI_at {x : Int} {k m i : Nat} (h : i < k) : (rowBI x k m)[i]? = some (.int .i64 x) := by
  unfold rowBI
  rw [List.getElem?_append_left (by simpa using h), List.getElem?_replicate, if_pos h]
theorem oneBI (x : Int) (j : Nat) : ∀ v ∈ List.replicate j (Value.int .i64 x), v.oneCell' = true := fun v hv => by
  rw [List.eq_of_mem_replicate hv]
  rfl
theorem blk_fullI {w : World} {base : Nat} {e : TypeId} {g n : Nat} {xs : List Value} (h : w.ownsRow base e 1 (.slice (some ⟨g, 0, none⟩) n n) n xs) : w.heap[g]? = some (.cells xs.toArray e (0, 0)) := by
  obtain ⟨hl, h2⟩ := h
  rcases h2 with ⟨h3, _⟩ | ⟨g', cap, cur, hv, _, hh, _, _, hs, ht⟩
  · cases h3
  · injection hv with h1 _ h3
    injection h1 with h1
    injection h1 with h1
    subst h1 h3
    rw [hh, ← ht, List.take_of_length_le (by simp; omega)]
/-- A copy of blanks into the row, from place k on. -/
theorem copyBI (x : Int) (w : World) (g k m j sLen sCap dCap : Nat) (ad : Addr) (hg : w.heap[g]? = some (.cells (rowBI x k m).toArray 3 (0, 0))) (hj : j = Nat.min sLen (m - k)) (hkj : k + j ≤ m) (hsrc : ∀ i, i < j → w.cell? (ad.add i) = some (.int .i64 x)) :
    ∃ W', (Builtin.copy_ #[22, 22] 3 #[.slice (some ⟨g, k, none⟩) (m - k) dCap, .slice (some ad) sLen sCap]).run Try.prog w = .ok (.int .i64 (j : Int)) W' ∧
      W'.heap[g]? = some (.cells (rowBI x (k + j) m).toArray 3 (0, 0)) ∧ ∀ B w0, B ≤ g → Below B w0 w → Below B w0 W' := by
  have hcp := run_copy_row (P := Try.prog) w 22 22 3 3 g k (m - k) dCap ad sLen sCap (rowBI x k m).toArray 3 (List.replicate j (Value.int .i64 x)) Try.underlying22 (by kernel_rfl) hg (by rw [List.length_replicate]; exact hj) (fun i v hv => by
      rw [List.getElem?_replicate] at hv
      split at hv
      · obtain rfl := Option.some.inj hv
        exact hsrc i (by assumption)
      · cases hv) (by rw [List.length_replicate, List.size_toArray, rowBI_len (by omega)]; exact hkj) (oneBI x j)
  have hs := rowBI_splice (x := x) hkj
  unfold splice at hs
  rw [List.length_replicate] at hs hcp
  rw [← List.append_assoc] at hs
  rw [hs] at hcp
  exact ⟨_, hcp, setRow_heap w g _ _ _ _ hg, fun B w0 hB hb => below_setRow hb hB _⟩
set_option maxRecDepth 100000 in
set_option maxHeartbeats 2000000 in
theorem repeatI_any (x : Int) (g0 c0 : Nat) (m : Nat) (hm : m ≤ 100) (w : World) (hc : w.cell? ⟨g0, 0, none⟩ = some (.int .i64 x)) :
    Calls Try.prog 20 #[.slice (some ⟨g0, 0, none⟩) 1 c0, .int .i64 (m : Int)] w fun e w' => ∃ g, e = .returned (.slice (some ⟨g, 0, none⟩) m m) ∧ w'.heap[g]? = some (.cells (List.replicate m (.int .i64 x)).toArray 3 (0, 0)) ∧ w.heap.size ≤ g ∧ Below w.heap.size w w' := by
  have HC := Lib.hid hc
  have h1 : IntKind.u64.wrap (m : Int) = (m : Int) := by rw [IntKind.wrap_u64]; omega
  have HM := Lib.hid (show ∀ w, Calls Try.prog 37 #[.int .u64 1, .int .u64 (m : Int)] w fun e w' => e = .returned (.tuple #[.int .u64 0, .int .u64 (m : Int)]) ∧ w = w' from fun w => by
    have h := Any.bits_Mul mul_lays 1 m (by omega) (by omega) w
    rw [Nat.one_mul, show m / 18446744073709551616 = 0 by omega, show m % 18446744073709551616 = m by omega] at h
    exact h.mono fun _ _ x => ⟨x.1, x.2.symm⟩)
  clear hc
  go_enter Try.func20, Try.ntmps20
  go_wp2_with fail
  refine (HM.out _).mono ?_
  rintro e w1 ⟨rfl, rfl⟩
  clear h1
  by_cases h0 : m = 0
  · subst h0
    go_upto_region 7 with (at_make; refine wpList_mkFull rfl _ _ _ rfl (base := w.heap.size) (z := .int .i64 0) (bytes := 8) Try.underlying22 (by kernel_rfl) rfl _ _ 0 rfl rfl rfl rfl (by omega) (by unfold maxLen; omega) (Nat.le_refl _) ?_; intro w2 hown2 hg2; have hbk := blk_fullI hown2; have hb2 : Below w.heap.size w w2 := (Below.refl w.heap.size w).grown hg2 (Nat.le_refl _) (fun k hk => by cases hk); clear hown2 hg2)
    have hcp := run_copy_none (P := Try.prog) w2 22 22 3 3 (some ⟨w.heap.size, 0, none⟩) (some ⟨g0, 0, none⟩) 0 0 1 c0 Try.underlying22 (by kernel_rfl) rfl
    have HBK := Lib.hid hbk
    have HB2 := Lib.hid hb2
    clear hbk hb2
    go_wp2
    go_loopw [8] (fun i wr => i = .int .i64 0 ∧ wr = w2) (fun i _ => 0)
    case atStart => exact ⟨rfl, rfl⟩
    case round =>
      obtain ⟨rfl, rfl⟩ := hrel
      go_wp2
      go_ret
      exact ⟨_, rfl, HBK.out, Nat.le_refl _, HB2.out⟩
  · have hm1 : 1 ≤ m := by omega
    go_upto_region 7 with (at_make; refine wpList_mkFull rfl _ _ _ rfl (base := w.heap.size) (z := .int .i64 0) (bytes := 8) Try.underlying22 (by kernel_rfl) rfl _ _ m rfl rfl rfl rfl (by omega) (by unfold maxLen; omega) (Nat.le_refl _) ?_; intro w2 hown2 hg2; have hbk := blk_fullI hown2; have hb2 : Below w.heap.size w w2 := (Below.refl w.heap.size w).grown hg2 (Nat.le_refl _) (fun k hk => by cases hk); have hc2 := cell_below hb2 HC.out; clear hown2 hg2)
    have hrow : rowBI x 0 m = List.replicate m (.int .i64 0) := by unfold rowBI; simp
    rw [← hrow] at hbk
    obtain ⟨W3, hcp, hg3, hbW⟩ := copyBI x w2 w.heap.size 0 m 1 1 c0 m ⟨g0, 0, none⟩ hbk (Nat.min_eq_left (by omega)).symm (by omega) (fun i hi => by
      obtain rfl : i = 0 := by omega
      exact hc2)
    have HG3 := Lib.hid hg3
    have HB3 := Lib.hid (hbW w.heap.size w (Nat.le_refl _) hb2)
    rw [Nat.sub_zero] at hcp
    clear hbk hb2 hc2 hg3 hrow hbW
    go_wp2
    generalize hgE : w.heap.size = g at *
    have HGE := Lib.hid hgE
    clear hgE hcp
    go_loopw [8] (fun i wr => ∃ (k : Nat), 1 ≤ k ∧ k ≤ m ∧ i = .int .i64 k ∧ wr.heap[g]? = some (.cells (rowBI x k m).toArray 3 (0, 0)) ∧ Below g w wr) (fun i _ => m - (intOf i).toNat)
    case atStart => exact ⟨1, Nat.le_refl _, hm1, rfl, HG3.out, HB3.out⟩
    case round =>
      obtain ⟨k, hk1, hk, rfl, hg, hb⟩ := hrel
      have HG := Lib.hid hg
      have HB := Lib.hid hb
      by_cases hlt : k < m
      · obtain ⟨j, hj⟩ : ∃ j, Nat.min k (m - k) = j := ⟨_, rfl⟩
        have hj1 : 1 ≤ j ∧ k + j ≤ m := by
          have h1 : j = k ∨ j = m - k := by
            rw [← hj]
            show min k (m - k) = k ∨ min k (m - k) = m - k
            omega
          have h2 : j ≤ k := by rw [← hj]; exact Nat.min_le_left _ _
          have h3 : j ≤ m - k := by rw [← hj]; exact Nat.min_le_right _ _
          omega
        obtain ⟨W4, hcp, hg4, hbW⟩ := copyBI x wr.drew g k m j k m (m - k) ⟨g, 0, none⟩ hg hj.symm hj1.2 (fun i hi => by
          have hik : i < k := by
            have : j ≤ k := by rw [← hj]; exact Nat.min_le_left _ _
            omega
          rw [addNew]
          show wr.cell? _ = _
          unfold World.cell?
          rw [hg]
          simp [rowBI_at (x := x) hik])
        have HG4 := Lib.hid hg4
        have HB4 := Lib.hid (hbW g w (Nat.le_refl _) hb.drew)
        have HJ := Lib.hid hj1
        obtain ⟨hj2, hj3⟩ := hj1
        have hki : (k : Int) < (m : Int) := by omega
        have hk0 : (0 : Int) ≤ (k : Int) := by omega
        have hmk : ¬ m = k := by omega
        clear hg hb hj hg4 hbW hlt
        go_wp2
        go_region
        go_wp2
        go_roundw
        case rel => exact ⟨k + j, by have := HJ.out; omega, HJ.out.2, by go_num, HG4.out, HB4.out⟩
        case measure => have := HJ.out; simp [intOf]; omega
      · obtain rfl : k = m := by omega
        rw [rowBI_all] at HG
        clear hg hb
        go_wp2
        go_ret
        exact ⟨g, rfl, HG.out, by rw [HGE.out]; exact Nat.le_refl _, by rw [HGE.out]; exact HB.out⟩
end Go.Proofs.Ytaiefneimjdmhaa
