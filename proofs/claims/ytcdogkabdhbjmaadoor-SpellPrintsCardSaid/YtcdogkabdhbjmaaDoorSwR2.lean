/- Options as words, the reference: a field set. -/
import Derived.Test.YtcdogkabdhbjmaaDoorSwN
import Derived.Test.YtcdogkabdhbjmaaDoorOpH2
import Derived.Deep.DeepCutAuto
import Derived.Deep.CutBlock
namespace Go.Proofs.YtcdogkabdhbjmaaDoor
open Go.RowKit

set_option maxRecDepth 100000 in
set_option maxHeartbeats 8000000 in
theorem setAt_any (d l t g : Int) (b0 b1 b2 b3 b4 b5 b6 b7 b8 b9 : Bool) (k : Nat) (hk : k < 14) (n : Int) (hn : 0 ≤ n ∧ n ≤ 4) (R : Opt) (hR : Opt.put ⟨d, l, t, g, b0, b1, b2, b3, b4, b5, b6, b7, b8, b9⟩ k (if k = 0 then n - 1 else n) = R) (w : World) :
    Calls Tryd.prog 49 #[.agg #[.int .i64 d, .int .i64 l, .int .i64 t, .int .i64 g, .bool b0, .bool b1, .bool b2, .bool b3, .bool b4, .bool b5, .bool b6, .bool b7, .bool b8, .bool b9], .int .i64 (k : Int), .int .i64 n] w fun e w' => e = .returned R.val ∧ Below w.heap.size w w' := by
  obtain ⟨hn0, hn1⟩ := hn
  obtain ⟨W1, hW1⟩ : ∃ W1, w.alloc (.cells #[.int .i64 d, .int .i64 l, .int .i64 t, .int .i64 g, .bool b0, .bool b1, .bool b2, .bool b3, .bool b4, .bool b5, .bool b6, .bool b7, .bool b8, .bool b9] 23) = W1 := ⟨_, rfl⟩
  have hO1 : OptAt W1 w.heap.size ⟨d, l, t, g, b0, b1, b2, b3, b4, b5, b6, b7, b8, b9⟩ := by rw [← hW1]; exact OptAt.new_ w ⟨d, l, t, g, b0, b1, b2, b3, b4, b5, b6, b7, b8, b9⟩ 23
  have hb1 : Below w.heap.size w W1 := by rw [← hW1]; exact below_new _ _
  obtain ⟨W2, hW2⟩ : ∃ W2, W1.alloc (.cells #[.int .i64 0, .int .i64 0, .int .i64 0, .int .i64 0, .bool false, .bool false, .bool false, .bool false, .bool false, .bool false, .bool false, .bool false, .bool false, .bool false] 23) = W2 := ⟨_, rfl⟩
  have hR2 : OptAt W2 W1.heap.size Opt.zero := by rw [← hW2]; exact OptAt.new_ W1 Opt.zero 23
  have hb2 : Below W1.heap.size W1 W2 := by rw [← hW2]; exact below_new _ _
  have hO2 := hO1.below hb2
  have hl1 := hO1.lt
  have hne : W1.heap.size ≠ w.heap.size := by omega
  have hle : w.heap.size ≤ W1.heap.size := by omega
  have HL := Lib.hid hle
  have HN := Lib.hid hne
  have HI := Lib.hid (show RInv w.heap.size W1.heap.size w ⟨d, l, t, g, b0, b1, b2, b3, b4, b5, b6, b7, b8, b9⟩ W2 from ⟨hO2, hR2, below_self hb1 hb2⟩)
  have HR := Lib.hid hR
  clear hO1 hb1 hb2 hO2 hR2 hne hle hR hl1
  go_enter Tryd.func49, Tryd.ntmps49
  go_upto_block 0 with fail
  clear hW1 hW2
  generalize W1.heap.size = r at *
  obtain ⟨B, hB⟩ : ∃ B, w.heap.size = B := ⟨_, rfl⟩
  have HB := Lib.hid hB
  rw [hB] at HI HN HL
  simp only [hB]
  clear hB
  go_cut [] (fun wx => RInv B r w R wx)
  case first =>
    clear HB
    have hkc : k = 0 ∨ k = 1 ∨ k = 2 ∨ k = 3 ∨ k = 4 ∨ k = 5 ∨ k = 6 ∨ k = 7 ∨ k = 8 ∨ k = 9 ∨ k = 10 ∨ k = 11 ∨ k = 12 ∨ k = 13 := by omega
    clear hk
    rcases hkc with rfl | rfl | rfl | rfl | rfl | rfl | rfl | rfl | rfl | rfl | rfl | rfl | rfl | rfl
    · have c0 : W2.cell? ⟨B, 0, none⟩ = some (.int .i64 d) := HI.out.1.1 0 _ rfl
      have e0 := HI.out.1.2 0
      have HX := Lib.hid (show R = ⟨n - 1, l, t, g, b0, b1, b2, b3, b4, b5, b6, b7, b8, b9⟩ from HR.out.symm)
      clear HR
      go_wp2_with fail
      go_meet
      rw [HX.out]
      exact ⟨HI.out.1.set0 (n - 1), HI.out.2.1.far HN.out _ _, below_setB HI.out.2.2 (Nat.le_refl _) _ _⟩
    · have c1 : W2.cell? ⟨B, 1, none⟩ = some (.int .i64 l) := HI.out.1.1 1 _ rfl
      have e1 := HI.out.1.2 1
      have HX := Lib.hid (show R = ⟨d, n, t, g, b0, b1, b2, b3, b4, b5, b6, b7, b8, b9⟩ from HR.out.symm)
      clear HR
      go_wp2_with fail
      go_meet
      rw [HX.out]
      exact ⟨HI.out.1.set1 n, HI.out.2.1.far HN.out _ _, below_setB HI.out.2.2 (Nat.le_refl _) _ _⟩
    · have c2 : W2.cell? ⟨B, 2, none⟩ = some (.int .i64 t) := HI.out.1.1 2 _ rfl
      have e2 := HI.out.1.2 2
      have HX := Lib.hid (show R = ⟨d, l, n, g, b0, b1, b2, b3, b4, b5, b6, b7, b8, b9⟩ from HR.out.symm)
      clear HR
      go_wp2_with fail
      go_meet
      rw [HX.out]
      exact ⟨HI.out.1.set2 n, HI.out.2.1.far HN.out _ _, below_setB HI.out.2.2 (Nat.le_refl _) _ _⟩
    · have c3 : W2.cell? ⟨B, 3, none⟩ = some (.int .i64 g) := HI.out.1.1 3 _ rfl
      have e3 := HI.out.1.2 3
      have HX := Lib.hid (show R = ⟨d, l, t, n, b0, b1, b2, b3, b4, b5, b6, b7, b8, b9⟩ from HR.out.symm)
      clear HR
      go_wp2_with fail
      go_meet
      rw [HX.out]
      exact ⟨HI.out.1.set3 n, HI.out.2.1.far HN.out _ _, below_setB HI.out.2.2 (Nat.le_refl _) _ _⟩
    · have c4 : W2.cell? ⟨B, 4, none⟩ = some (.bool b0) := HI.out.1.1 4 _ rfl
      have e4 := HI.out.1.2 4
      have HX := Lib.hid (show R = ⟨d, l, t, g, true, b1, b2, b3, b4, b5, b6, b7, b8, b9⟩ from HR.out.symm)
      clear HR
      go_wp2_with fail
      go_meet
      rw [HX.out]
      exact ⟨HI.out.1.setF0 true, HI.out.2.1.far HN.out _ _, below_setB HI.out.2.2 (Nat.le_refl _) _ _⟩
    · have c5 : W2.cell? ⟨B, 5, none⟩ = some (.bool b1) := HI.out.1.1 5 _ rfl
      have e5 := HI.out.1.2 5
      have HX := Lib.hid (show R = ⟨d, l, t, g, b0, true, b2, b3, b4, b5, b6, b7, b8, b9⟩ from HR.out.symm)
      clear HR
      go_wp2_with fail
      go_meet
      rw [HX.out]
      exact ⟨HI.out.1.setF1 true, HI.out.2.1.far HN.out _ _, below_setB HI.out.2.2 (Nat.le_refl _) _ _⟩
    · have c6 : W2.cell? ⟨B, 6, none⟩ = some (.bool b2) := HI.out.1.1 6 _ rfl
      have e6 := HI.out.1.2 6
      have HX := Lib.hid (show R = ⟨d, l, t, g, b0, b1, true, b3, b4, b5, b6, b7, b8, b9⟩ from HR.out.symm)
      clear HR
      go_wp2_with fail
      go_meet
      rw [HX.out]
      exact ⟨HI.out.1.setF2 true, HI.out.2.1.far HN.out _ _, below_setB HI.out.2.2 (Nat.le_refl _) _ _⟩
    · have c7 : W2.cell? ⟨B, 7, none⟩ = some (.bool b3) := HI.out.1.1 7 _ rfl
      have e7 := HI.out.1.2 7
      have HX := Lib.hid (show R = ⟨d, l, t, g, b0, b1, b2, true, b4, b5, b6, b7, b8, b9⟩ from HR.out.symm)
      clear HR
      go_wp2_with fail
      go_meet
      rw [HX.out]
      exact ⟨HI.out.1.setF3 true, HI.out.2.1.far HN.out _ _, below_setB HI.out.2.2 (Nat.le_refl _) _ _⟩
    · have c8 : W2.cell? ⟨B, 8, none⟩ = some (.bool b4) := HI.out.1.1 8 _ rfl
      have e8 := HI.out.1.2 8
      have HX := Lib.hid (show R = ⟨d, l, t, g, b0, b1, b2, b3, true, b5, b6, b7, b8, b9⟩ from HR.out.symm)
      clear HR
      go_wp2_with fail
      go_meet
      rw [HX.out]
      exact ⟨HI.out.1.setF4 true, HI.out.2.1.far HN.out _ _, below_setB HI.out.2.2 (Nat.le_refl _) _ _⟩
    · have c9 : W2.cell? ⟨B, 9, none⟩ = some (.bool b5) := HI.out.1.1 9 _ rfl
      have e9 := HI.out.1.2 9
      have HX := Lib.hid (show R = ⟨d, l, t, g, b0, b1, b2, b3, b4, true, b6, b7, b8, b9⟩ from HR.out.symm)
      clear HR
      go_wp2_with fail
      go_meet
      rw [HX.out]
      exact ⟨HI.out.1.setF5 true, HI.out.2.1.far HN.out _ _, below_setB HI.out.2.2 (Nat.le_refl _) _ _⟩
    · have c10 : W2.cell? ⟨B, 10, none⟩ = some (.bool b6) := HI.out.1.1 10 _ rfl
      have e10 := HI.out.1.2 10
      have HX := Lib.hid (show R = ⟨d, l, t, g, b0, b1, b2, b3, b4, b5, true, b7, b8, b9⟩ from HR.out.symm)
      clear HR
      go_wp2_with fail
      go_meet
      rw [HX.out]
      exact ⟨HI.out.1.setF6 true, HI.out.2.1.far HN.out _ _, below_setB HI.out.2.2 (Nat.le_refl _) _ _⟩
    · have c11 : W2.cell? ⟨B, 11, none⟩ = some (.bool b7) := HI.out.1.1 11 _ rfl
      have e11 := HI.out.1.2 11
      have HX := Lib.hid (show R = ⟨d, l, t, g, b0, b1, b2, b3, b4, b5, b6, true, b8, b9⟩ from HR.out.symm)
      clear HR
      go_wp2_with fail
      go_meet
      rw [HX.out]
      exact ⟨HI.out.1.setF7 true, HI.out.2.1.far HN.out _ _, below_setB HI.out.2.2 (Nat.le_refl _) _ _⟩
    · have c12 : W2.cell? ⟨B, 12, none⟩ = some (.bool b8) := HI.out.1.1 12 _ rfl
      have e12 := HI.out.1.2 12
      have HX := Lib.hid (show R = ⟨d, l, t, g, b0, b1, b2, b3, b4, b5, b6, b7, true, b9⟩ from HR.out.symm)
      clear HR
      go_wp2_with fail
      go_meet
      rw [HX.out]
      exact ⟨HI.out.1.setF8 true, HI.out.2.1.far HN.out _ _, below_setB HI.out.2.2 (Nat.le_refl _) _ _⟩
    · have c13 : W2.cell? ⟨B, 13, none⟩ = some (.bool b9) := HI.out.1.1 13 _ rfl
      have e13 := HI.out.1.2 13
      have HX := Lib.hid (show R = ⟨d, l, t, g, b0, b1, b2, b3, b4, b5, b6, b7, b8, true⟩ from HR.out.symm)
      clear HR
      go_wp2_with fail
      go_meet
      rw [HX.out]
      exact ⟨HI.out.1.setF9 true, HI.out.2.1.far HN.out _ _, below_setB HI.out.2.2 (Nat.le_refl _) _ _⟩
  case rest =>
    clear HI HR HN
    obtain ⟨d4, l4, t4, g4, z0, z1, z2, z3, z4, z5, z6, z7, z8, z9⟩ := R
    have HI := Lib.hid hcut
    clear hcut
    have c0 : wc.cell? ⟨B, 0, none⟩ = some (.int .i64 d4) := HI.out.1.1 0 _ rfl
    have c1 : wc.cell? ⟨B, 1, none⟩ = some (.int .i64 l4) := HI.out.1.1 1 _ rfl
    have c2 : wc.cell? ⟨B, 2, none⟩ = some (.int .i64 t4) := HI.out.1.1 2 _ rfl
    have c3 : wc.cell? ⟨B, 3, none⟩ = some (.int .i64 g4) := HI.out.1.1 3 _ rfl
    have c4 : wc.cell? ⟨B, 4, none⟩ = some (.bool z0) := HI.out.1.1 4 _ rfl
    have c5 : wc.cell? ⟨B, 5, none⟩ = some (.bool z1) := HI.out.1.1 5 _ rfl
    have c6 : wc.cell? ⟨B, 6, none⟩ = some (.bool z2) := HI.out.1.1 6 _ rfl
    have c7 : wc.cell? ⟨B, 7, none⟩ = some (.bool z3) := HI.out.1.1 7 _ rfl
    have c8 : wc.cell? ⟨B, 8, none⟩ = some (.bool z4) := HI.out.1.1 8 _ rfl
    have c9 : wc.cell? ⟨B, 9, none⟩ = some (.bool z5) := HI.out.1.1 9 _ rfl
    have c10 : wc.cell? ⟨B, 10, none⟩ = some (.bool z6) := HI.out.1.1 10 _ rfl
    have c11 : wc.cell? ⟨B, 11, none⟩ = some (.bool z7) := HI.out.1.1 11 _ rfl
    have c12 : wc.cell? ⟨B, 12, none⟩ = some (.bool z8) := HI.out.1.1 12 _ rfl
    have c13 : wc.cell? ⟨B, 13, none⟩ = some (.bool z9) := HI.out.1.1 13 _ rfl
    have r0 : wc.cell? ⟨r, 0, none⟩ = some (.int .i64 0) := HI.out.2.1.1 0 _ rfl
    have h0 := HI.out.2.1.2 0
    have r1 : wc.cell? ⟨r, 1, none⟩ = some (.int .i64 0) := HI.out.2.1.1 1 _ rfl
    have h1 := HI.out.2.1.2 1
    have r2 : wc.cell? ⟨r, 2, none⟩ = some (.int .i64 0) := HI.out.2.1.1 2 _ rfl
    have h2 := HI.out.2.1.2 2
    have r3 : wc.cell? ⟨r, 3, none⟩ = some (.int .i64 0) := HI.out.2.1.1 3 _ rfl
    have h3 := HI.out.2.1.2 3
    have r4 : wc.cell? ⟨r, 4, none⟩ = some (.bool false) := HI.out.2.1.1 4 _ rfl
    have h4 := HI.out.2.1.2 4
    have r5 : wc.cell? ⟨r, 5, none⟩ = some (.bool false) := HI.out.2.1.1 5 _ rfl
    have h5 := HI.out.2.1.2 5
    have r6 : wc.cell? ⟨r, 6, none⟩ = some (.bool false) := HI.out.2.1.1 6 _ rfl
    have h6 := HI.out.2.1.2 6
    have r7 : wc.cell? ⟨r, 7, none⟩ = some (.bool false) := HI.out.2.1.1 7 _ rfl
    have h7 := HI.out.2.1.2 7
    have r8 : wc.cell? ⟨r, 8, none⟩ = some (.bool false) := HI.out.2.1.1 8 _ rfl
    have h8 := HI.out.2.1.2 8
    have r9 : wc.cell? ⟨r, 9, none⟩ = some (.bool false) := HI.out.2.1.1 9 _ rfl
    have h9 := HI.out.2.1.2 9
    have r10 : wc.cell? ⟨r, 10, none⟩ = some (.bool false) := HI.out.2.1.1 10 _ rfl
    have h10 := HI.out.2.1.2 10
    have r11 : wc.cell? ⟨r, 11, none⟩ = some (.bool false) := HI.out.2.1.1 11 _ rfl
    have h11 := HI.out.2.1.2 11
    have r12 : wc.cell? ⟨r, 12, none⟩ = some (.bool false) := HI.out.2.1.1 12 _ rfl
    have h12 := HI.out.2.1.2 12
    have r13 : wc.cell? ⟨r, 13, none⟩ = some (.bool false) := HI.out.2.1.1 13 _ rfl
    have h13 := HI.out.2.1.2 13
    go_wp2_with fail
    (try simp only [Exit.inBlock, Exit.then])
    refine bodyPost_ret (v := Opt.val ⟨d4, l4, t4, g4, z0, z1, z2, z3, z4, z5, z6, z7, z8, z9⟩) ?_ rfl ⟨rfl, by rw [HB.out]; exact below_stored ⟨d4, l4, t4, g4, z0, z1, z2, z3, z4, z5, z6, z7, z8, z9⟩ HL.out HI.out.2.2⟩
    exact res_opt1 rfl _ _ r ⟨d4, l4, t4, g4, z0, z1, z2, z3, z4, z5, z6, z7, z8, z9⟩ rfl (HI.out.2.1.stored ⟨d4, l4, t4, g4, z0, z1, z2, z3, z4, z5, z6, z7, z8, z9⟩)
theorem set_any (o : Opt) (k : Nat) (hk : k < 14) (n : Int) (hn : 0 ≤ n ∧ n ≤ 4) (w : World) :
    Calls Tryd.prog 49 #[o.val, .int .i64 (k : Int), .int .i64 n] w fun e w' => e = .returned (Opt.val (o.put k (if k = 0 then n - 1 else n))) ∧ Below w.heap.size w w' := by
  obtain ⟨d, l, t, g, b0, b1, b2, b3, b4, b5, b6, b7, b8, b9⟩ := o
  exact setAt_any d l t g b0 b1 b2 b3 b4 b5 b6 b7 b8 b9 k hk n hn _ rfl w
end Go.Proofs.YtcdogkabdhbjmaaDoor
