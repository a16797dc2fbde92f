/- The reference's Bits of options. -/
import Derived.Test.YtcdogkabdhbjmaaDoorOpRf
namespace Go.Proofs.YtcdogkabdhbjmaaDoor
open Go.RowKit

set_option maxRecDepth 100000 in
set_option maxHeartbeats 8000000 in
theorem refBits_any (d l t g : Int) (b0 b1 b2 b3 b4 b5 b6 b7 b8 b9 : Bool) (N E : Int) (hb : Opt.bits ⟨d, l, t, g, b0, b1, b2, b3, b4, b5, b6, b7, b8, b9⟩ = (N, E)) (w : World) :
    Calls Tryd.prog 16 #[.agg #[.int .i64 d, .int .i64 l, .int .i64 t, .int .i64 g, .bool b0, .bool b1, .bool b2, .bool b3, .bool b4, .bool b5, .bool b6, .bool b7, .bool b8, .bool b9]] w fun e w' => e = .returned (.tuple #[.int .i64 N, .int .i64 E]) ∧ Below w.heap.size w w' := by
  obtain ⟨R, hR⟩ : ∃ R, Opt.err ⟨d, l, t, g, b0, b1, b2, b3, b4, b5, b6, b7, b8, b9⟩ = R := ⟨_, rfl⟩
  have hb0 := below_new w (.cells (Opt.cells ⟨d, l, t, g, b0, b1, b2, b3, b4, b5, b6, b7, b8, b9⟩) 23)
  have HO := Lib.hid (OptAt.new_ w ⟨d, l, t, g, b0, b1, b2, b3, b4, b5, b6, b7, b8, b9⟩ 23)
  have HCK := Lib.hid (refCheckO_any d l t g b0 b1 b2 b3 b4 b5 b6 b7 b8 b9 R hR (w.alloc (.cells (Opt.cells ⟨d, l, t, g, b0, b1, b2, b3, b4, b5, b6, b7, b8, b9⟩) 23)))
  have HB0 := Lib.hid hb0
  have HR := Lib.hid hR
  have HBB := Lib.hid hb
  clear hb0 hR hb
  go_enter Tryd.func16, Tryd.ntmps16
  go_wp2_with fail
  refine HCK.out.mono ?_
  rintro e w3 ⟨rfl, hb3⟩
  have HO3 := Lib.hid (HO.out.below hb3)
  have HB4 := Lib.hid (below_self HB0.out hb3)
  clear HCK hb3 HO HB0
  by_cases h0 : R = 0
  · have hmay := may_of_err (HR.out.trans h0)
    simp only at hmay
    obtain ⟨d0, d1, l0, l1, t0, t1, g0, g1⟩ := hmay
    obtain ⟨Q, hQ⟩ : ∃ Q : Int, d + 4 * l + 20 * t + 100 * g = Q := ⟨_, rfl⟩
    have hQ1 : 0 ≤ Q ∧ Q ≤ 499 := by omega
    obtain ⟨fs, hfs⟩ : ∃ fs, Opt.flags ⟨d, l, t, g, b0, b1, b2, b3, b4, b5, b6, b7, b8, b9⟩ = fs := ⟨_, rfl⟩
    have hFL : fs.length = 10 := by rw [← hfs]; rfl
    have hN : N = Q + 500 * (Opt.low fs : Nat) ∧ E = 0 := by
      have := HBB.out
      unfold Opt.bits at this
      rw [if_pos (HR.out.trans h0)] at this
      injection this with e1 e2
      refine ⟨?_, e2.symm⟩
      rw [← e1, ← hQ, ← hfs]
      rfl
    obtain ⟨hN1, rfl⟩ := hN
    have HN := Lib.hid hN1
    have HFL := Lib.hid hFL
    have HF := Lib.hid (refFlags_any ⟨d, l, t, g, b0, b1, b2, b3, b4, b5, b6, b7, b8, b9⟩ w3)
    rw [hfs] at HF
    subst h0
    have c : ∀ (j : Nat) (u : Value), (Opt.cells ⟨d, l, t, g, b0, b1, b2, b3, b4, b5, b6, b7, b8, b9⟩)[j]? = some u → w3.cell? ⟨w.heap.size, j, none⟩ = some u := HO3.out.1
    have c0 : w3.cell? ⟨w.heap.size, 0, none⟩ = some (.int .i64 d) := c 0 _ rfl
    have c1 : w3.cell? ⟨w.heap.size, 1, none⟩ = some (.int .i64 l) := c 1 _ rfl
    have c2 : w3.cell? ⟨w.heap.size, 2, none⟩ = some (.int .i64 t) := c 2 _ rfl
    have c3 : w3.cell? ⟨w.heap.size, 3, none⟩ = some (.int .i64 g) := c 3 _ rfl
    have c4 : w3.cell? ⟨w.heap.size, 4, none⟩ = some (.bool b0) := c 4 _ rfl
    have c5 : w3.cell? ⟨w.heap.size, 5, none⟩ = some (.bool b1) := c 5 _ rfl
    have c6 : w3.cell? ⟨w.heap.size, 6, none⟩ = some (.bool b2) := c 6 _ rfl
    have c7 : w3.cell? ⟨w.heap.size, 7, none⟩ = some (.bool b3) := c 7 _ rfl
    have c8 : w3.cell? ⟨w.heap.size, 8, none⟩ = some (.bool b4) := c 8 _ rfl
    have c9 : w3.cell? ⟨w.heap.size, 9, none⟩ = some (.bool b5) := c 9 _ rfl
    have c10 : w3.cell? ⟨w.heap.size, 10, none⟩ = some (.bool b6) := c 10 _ rfl
    have c11 : w3.cell? ⟨w.heap.size, 11, none⟩ = some (.bool b7) := c 11 _ rfl
    have c12 : w3.cell? ⟨w.heap.size, 12, none⟩ = some (.bool b8) := c 12 _ rfl
    have c13 : w3.cell? ⟨w.heap.size, 13, none⟩ = some (.bool b9) := c 13 _ rfl
    have HQ := Lib.hid hQ
    clear c hN1 HBB HR HO3 hfs hFL hQ
    go_wp2_with fail
    refine HF.out.mono ?_
    rintro e w4 ⟨⟨gb, rfl, hr⟩, hb4⟩
    simp only [HQ.out]
    have HRd := Lib.hid hr
    have HB5 := Lib.hid (below_self HB4.out hb4)
    clear c0 c1 c2 c3 c4 c5 c6 c7 c8 c9 c10 c11 c12 c13 hr hb4 HB4 HF d0 d1 l0 l1 t0 t1 g0 g1
    obtain ⟨hQ0, hQ9⟩ := hQ1
    go_wp2
    go_loopw [5, 7] (fun n i wr => ∃ k : Nat, k ≤ 10 ∧ i = .int .i64 k ∧ n = .int .i64 (Q + 500 * (Opt.low (fs.take k) : Nat)) ∧ w4 = wr) (fun _ i _ => 10 - (intOf i).toNat)
    case atStart => exact ⟨0, Nat.zero_le _, rfl, by simp [Opt.low], rfl⟩
    case round =>
      obtain ⟨k, hk, rfl, rfl, rfl⟩ := hrel
      obtain ⟨M, hM⟩ : ∃ M, Opt.low (fs.take k) = M := ⟨_, rfl⟩
      rw [hM]
      have HM := Lib.hid hM
      have hlow := low_lt_take fs k
      rw [hM] at hlow
      have hk2 : (2 : Nat) ^ k ≤ 2 ^ 10 := Nat.pow_le_pow_right (by decide) hk
      have h1024 : (2 : Nat) ^ 10 = 1024 := by decide
      have hMb : M < 1024 := by omega
      clear hM hlow hk2 h1024
      by_cases hlt : k < 10
      · obtain ⟨x, hx⟩ : ∃ x, fs[k]? = some x := ⟨_, List.getElem?_eq_getElem (by rw [HFL.out]; exact hlt)⟩
        have HX := Lib.hid (low_next hx)
        rw [HM.out] at HX
        have q1 := HRd.out.news k _ (by rw [List.getElem?_map, hx]; rfl)
        rw [addNew] at q1
        clear hx
        cases x with
        | false =>
          have HY := Lib.hid (show Opt.low (fs.take (k + 1)) = M by rw [HX.out]; simp [Opt.n1])
          go_wp2
          go_roundw
          case rel => exact ⟨k + 1, by omega, by go_num, by rw [HY.out], by trivial⟩
          case measure => simp [intOf]; omega
        | true =>
          have HY := Lib.hid (show Opt.low (fs.take (k + 1)) = M + 2 ^ k by rw [HX.out]; simp [Opt.n1])
          have HP := Lib.hid (show wrap64 (Q + 500 * (M : Int) + wrap64 (500 * 2 ^ k)) = Q + 500 * ((M + 2 ^ k : Nat) : Int) by
            have hp : ((2 : Int) ^ k) = ((2 ^ k : Nat) : Int) := by simp
            have h2 : (2 : Nat) ^ k ≤ 2 ^ 9 := Nat.pow_le_pow_right (by decide) (by omega)
            have h512 : (2 : Nat) ^ 9 = 512 := by decide
            rw [hp]
            generalize 2 ^ k = p at *
            unfold wrap64
            omega)
          go_wp2
          go_roundw
          case rel => exact ⟨k + 1, by omega, by go_num, by rw [HY.out, ← HP.out], by trivial⟩
          case measure => simp [intOf]; omega
      · have hk10 : k = 10 := by omega
        subst hk10
        have HT := Lib.hid (show Q + 500 * (M : Int) = N by rw [HN.out, ← HM.out, List.take_of_length_le (by rw [HFL.out]; omega)])
        simp only [HT.out]
        go_wp2
        go_ret2
        exact ⟨rfl, HB5.out⟩
  · have g1 : (R != 0) = true := by simp [h0]
    have hN : N = 0 ∧ E = R := by
      have := HBB.out
      unfold Opt.bits at this
      rw [if_neg (fun e => h0 (HR.out.symm.trans e)), HR.out] at this
      injection this with e1 e2
      exact ⟨e1.symm, e2.symm⟩
    obtain ⟨rfl, rfl⟩ := hN
    clear h0
    go_wp2
    go_ret2
    exact ⟨rfl, HB4.out⟩
end Go.Proofs.YtcdogkabdhbjmaaDoor
