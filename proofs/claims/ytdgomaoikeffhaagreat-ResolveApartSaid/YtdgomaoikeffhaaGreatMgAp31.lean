/- Texts of one claim, one behind the other. -/
import Derived.Deep.DeepCutAuto
import Derived.Deep.CutBlock
import Derived.Test.YtdgomaoikeffhaaGreatMgAp4
import Derived.Test.YtdgomaoikeffhaaGreatMgAp5
import Derived.Test.YtdgomaoikeffhaaGreatMgAp30
/- explicit: step, walked. -/
namespace Go.Proofs.YtdgomaoikeffhaaGreat
open Go.RowKit

section
variable {bw g n c mc : Nat} {A M : Option Addr} {xs : List Int} {base : Int} {s : Stk}
/-- What a step answers, and leaves. -/
def StepAns (w w' : World) (g : Nat) (xs : List Int) (base : Int) (s : Stk) (k : Nat) (x : Int) (e : Ending) : Prop :=
  e = .returned (.tuple #[.int .i64 (outX base (stepA s x) x).1, .int .i64 (outX base (stepA s x) x).2]) ∧ StkAt w' g (stepB xs k x (stepA s x)) ∧ Kept w w' [g]
/-- As 'StepAns', of what is said. -/
theorem stepAns_of {w w' : World} {k : Nat} {x : Int} {e : Ending} (p q : Int) (T : Stk) (h1 : outX base (stepA s x) x = (p, q)) (h2 : stepB xs k x (stepA s x) = T) (he : e = .returned (.tuple #[.int .i64 p, .int .i64 q])) (hs : StkAt w' g T) (hk : Kept w w' [g]) : StepAns w w' g xs base s k x e := by
  unfold StepAns
  rw [h1, h2]
  exact ⟨he, hs, hk⟩
set_option maxRecDepth 100000 in
set_option maxHeartbeats 4000000 in
theorem exStep_16 (k : Nat) (w : World) (h : WlkAt w bw g A n c xs M mc base s) (hf : Few s 100000) : Calls Tryz.prog 39 #[.pointer (some ⟨bw, 0, none⟩), .int .i64 (k : Int), .int .i64 16] w fun e w' => StepAns w w' g xs base s k 16 e := by
  have HW := Lib.hid h
  have c0 := h.c0
  have HT := Lib.hid (stkTop_any g s w h.st)
  unfold entV at HT
  have fd := ent_lv s.top.lv s.top.ov s.top.is
  have hb : s.b ≤ 100000000 := by have := hf.2.1; omega
  have HE := Lib.hid (fun W (h : WlkAt W bw g A n c xs M mc base s) => exEmbed_any 16 W h hb (by omega))
  clear h
  go_enter Tryz.func39, Tryz.ntmps39
  go_wp2_with fail
  refine HT.out.mono ?_
  rintro e w1 ⟨rfl, hb1⟩
  have HK1 := Lib.hid (Kept.of_below hb1 [g])
  have HW1 := Lib.hid (HW.out.low hb1)
  clear hb1
  go_wp2_with fail
  refine (HE.out _ HW1.out).mono ?_
  rintro e w2 ⟨rfl, hA, hk⟩
  have HA := Lib.hid hA
  have HK := Lib.hid (HK1.out.trans hk)
  clear hA hk
  go_wp2
  refine bodyPost_ret (v := .tuple #[.int .i64 s.top.lv, .int .i64 9]) (by simp [results, go_sem]) rfl ?_
  exact stepAns_of s.top.lv 9 _ (by simp [stepA, outX, leftC]) (by simp [stepA, stepB, embR, embO]) rfl HA.out HK.out
set_option maxRecDepth 100000 in
set_option maxHeartbeats 4000000 in
theorem exStep_14 (k : Nat) (w : World) (h : WlkAt w bw g A n c xs M mc base s) (hf : Few s 100000) : Calls Tryz.prog 39 #[.pointer (some ⟨bw, 0, none⟩), .int .i64 (k : Int), .int .i64 14] w fun e w' => StepAns w w' g xs base s k 14 e := by
  have HW := Lib.hid h
  have c0 := h.c0
  have HT := Lib.hid (stkTop_any g s w h.st)
  unfold entV at HT
  have fd := ent_lv s.top.lv s.top.ov s.top.is
  have hb : s.b ≤ 100000000 := by have := hf.2.1; omega
  have HE := Lib.hid (fun W (h : WlkAt W bw g A n c xs M mc base s) => exEmbed_any 14 W h hb (by omega))
  clear h
  go_enter Tryz.func39, Tryz.ntmps39
  go_wp2_with fail
  refine HT.out.mono ?_
  rintro e w1 ⟨rfl, hb1⟩
  have HK1 := Lib.hid (Kept.of_below hb1 [g])
  have HW1 := Lib.hid (HW.out.low hb1)
  clear hb1
  go_wp2_with fail
  refine (HE.out _ HW1.out).mono ?_
  rintro e w2 ⟨rfl, hA, hk⟩
  have HA := Lib.hid hA
  have HK := Lib.hid (HK1.out.trans hk)
  clear hA hk
  go_wp2
  refine bodyPost_ret (v := .tuple #[.int .i64 s.top.lv, .int .i64 9]) (by simp [results, go_sem]) rfl ?_
  exact stepAns_of s.top.lv 9 _ (by simp [stepA, outX, leftC]) (by simp [stepA, stepB, embR, embO]) rfl HA.out HK.out
set_option maxRecDepth 100000 in
set_option maxHeartbeats 4000000 in
theorem exStep_17 (k : Nat) (w : World) (h : WlkAt w bw g A n c xs M mc base s) (hf : Few s 100000) : Calls Tryz.prog 39 #[.pointer (some ⟨bw, 0, none⟩), .int .i64 (k : Int), .int .i64 17] w fun e w' => StepAns w w' g xs base s k 17 e := by
  have HW := Lib.hid h
  have c0 := h.c0
  have HT := Lib.hid (stkTop_any g s w h.st)
  unfold entV at HT
  have fd := ent_lv s.top.lv s.top.ov s.top.is
  have hb : s.b ≤ 100000000 := by have := hf.2.1; omega
  have HE := Lib.hid (fun W (h : WlkAt W bw g A n c xs M mc base s) => exEmbed_any 17 W h hb (by omega))
  clear h
  go_enter Tryz.func39, Tryz.ntmps39
  go_wp2_with fail
  refine HT.out.mono ?_
  rintro e w1 ⟨rfl, hb1⟩
  have HK1 := Lib.hid (Kept.of_below hb1 [g])
  have HW1 := Lib.hid (HW.out.low hb1)
  clear hb1
  go_wp2_with fail
  refine (HE.out _ HW1.out).mono ?_
  rintro e w2 ⟨rfl, hA, hk⟩
  have HA := Lib.hid hA
  have HK := Lib.hid (HK1.out.trans hk)
  clear hA hk
  go_wp2
  refine bodyPost_ret (v := .tuple #[.int .i64 s.top.lv, .int .i64 9]) (by simp [results, go_sem]) rfl ?_
  exact stepAns_of s.top.lv 9 _ (by simp [stepA, outX, leftC]) (by simp [stepA, stepB, embR, embO]) rfl HA.out HK.out
set_option maxRecDepth 100000 in
set_option maxHeartbeats 4000000 in
theorem exStep_15 (k : Nat) (w : World) (h : WlkAt w bw g A n c xs M mc base s) (hf : Few s 100000) : Calls Tryz.prog 39 #[.pointer (some ⟨bw, 0, none⟩), .int .i64 (k : Int), .int .i64 15] w fun e w' => StepAns w w' g xs base s k 15 e := by
  have HW := Lib.hid h
  have c0 := h.c0
  have HT := Lib.hid (stkTop_any g s w h.st)
  unfold entV at HT
  have fd := ent_lv s.top.lv s.top.ov s.top.is
  have hb : s.b ≤ 100000000 := by have := hf.2.1; omega
  have HE := Lib.hid (fun W (h : WlkAt W bw g A n c xs M mc base s) => exEmbed_any 15 W h hb (by omega))
  clear h
  go_enter Tryz.func39, Tryz.ntmps39
  go_wp2_with fail
  refine HT.out.mono ?_
  rintro e w1 ⟨rfl, hb1⟩
  have HK1 := Lib.hid (Kept.of_below hb1 [g])
  have HW1 := Lib.hid (HW.out.low hb1)
  clear hb1
  go_wp2_with fail
  refine (HE.out _ HW1.out).mono ?_
  rintro e w2 ⟨rfl, hA, hk⟩
  have HA := Lib.hid hA
  have HK := Lib.hid (HK1.out.trans hk)
  clear hA hk
  go_wp2
  refine bodyPost_ret (v := .tuple #[.int .i64 s.top.lv, .int .i64 9]) (by simp [results, go_sem]) rfl ?_
  exact stepAns_of s.top.lv 9 _ (by simp [stepA, outX, leftC]) (by simp [stepA, stepB, embR, embO]) rfl HA.out HK.out
set_option maxRecDepth 100000 in
set_option maxHeartbeats 4000000 in
theorem exStep_20 (k : Nat) (hx : xs[k]? = some 20) (hn : n ≤ 100000) (hnc : n ≤ c) (hfm : ∀ y ∈ matF xs, Fit y) (w : World) (h : WlkAt w bw g A n c xs M mc base s) (hf : Few s 100000) : Calls Tryz.prog 39 #[.pointer (some ⟨bw, 0, none⟩), .int .i64 (k : Int), .int .i64 20] w fun e w' => StepAns w w' g xs base s k 20 e := by
  have HW := Lib.hid h
  have HH := Lib.hid (exHere_any 20 w h)
  have hb : s.a ≤ 100000000 := by have := hf.1; omega
  have hc : s.c ≤ 100000000 := by have := hf.2.2; omega
  clear h
  go_enter Tryz.func39, Tryz.ntmps39
  go_wp2_with fail
  refine HH.out.mono ?_
  rintro e w1 ⟨rfl, hb1⟩
  have HK1 := Lib.hid (Kept.of_below hb1 [g])
  have hW1 := HW.out.low hb1
  have HW1 := Lib.hid hW1
  have c0 := hW1.c0
  have HR := Lib.hid (fun W (k' : Below w1.heap.size w1 W) => exRight_any k 20 W (hW1.low k') hx hn hnc hfm)
  have HI := Lib.hid (fun r W (k' : Below w1.heap.size w1 W) => stkIsolate_any g s r W (hW1.st.low k') hb hc)
  clear hb1 hW1
  go_upto_region 13 with fail
  first | (go_region_law (first
    | (go_simp; go_at_call 56; refine (HR.out _ (by first | exact Below.refl _ _ | exact (Below.refl _ _).drew)).mono ?_; rintro e w3 ⟨⟨r, rfl, hri⟩, h4⟩; have hb3 : Below w1.heap.size w1 w3 := (by first | exact below_self (Below.refl _ _).drew h4 | exact h4); have y0 := cell_below hb3 c0)
    | (go_simp; go_at_call 55; refine (HI.out r _ hb3).mono ?_; rintro e w5 ⟨rfl, hA5, hk5⟩)
    | fail)) | fail
  all_goals (
    rw [hri] at hA5
    have HA := Lib.hid hA5
    have HK := Lib.hid (HK1.out.trans ((Kept.of_below hb3 [g]).trans hk5))
    clear hA5 hk5 hb3 h4 y0 hri
    go_wp2)
  all_goals refine bodyPost_ret (v := .tuple #[.int .i64 s.top.lv, .int .i64 (givS s 20)]) (by simp [results, go_sem]) rfl ?_
  all_goals exact stepAns_of s.top.lv (givS s 20) _ (by simp [stepA, outX, leftC]) (by unfold stepA stepB; simp [opB]) rfl HA.out HK.out
set_option maxRecDepth 100000 in
set_option maxHeartbeats 4000000 in
theorem exStep_19 (k : Nat) (hx : xs[k]? = some 19) (hn : n ≤ 100000) (hnc : n ≤ c) (hfm : ∀ y ∈ matF xs, Fit y) (w : World) (h : WlkAt w bw g A n c xs M mc base s) (hf : Few s 100000) : Calls Tryz.prog 39 #[.pointer (some ⟨bw, 0, none⟩), .int .i64 (k : Int), .int .i64 19] w fun e w' => StepAns w w' g xs base s k 19 e := by
  have HW := Lib.hid h
  have HH := Lib.hid (exHere_any 19 w h)
  have hb : s.a ≤ 100000000 := by have := hf.1; omega
  have hc : s.c ≤ 100000000 := by have := hf.2.2; omega
  clear h
  go_enter Tryz.func39, Tryz.ntmps39
  go_wp2_with fail
  refine HH.out.mono ?_
  rintro e w1 ⟨rfl, hb1⟩
  have HK1 := Lib.hid (Kept.of_below hb1 [g])
  have hW1 := HW.out.low hb1
  have HW1 := Lib.hid hW1
  have c0 := hW1.c0
  have HR := Lib.hid (fun W (k' : Below w1.heap.size w1 W) => exRight_any k 19 W (hW1.low k') hx hn hnc hfm)
  have HI := Lib.hid (fun r W (k' : Below w1.heap.size w1 W) => stkIsolate_any g s r W (hW1.st.low k') hb hc)
  clear hb1 hW1
  go_upto_region 13 with fail
  first | (go_region_law (first
    | (go_simp; go_at_call 56; refine (HR.out _ (by first | exact Below.refl _ _ | exact (Below.refl _ _).drew)).mono ?_; rintro e w3 ⟨⟨r, rfl, hri⟩, h4⟩; have hb3 : Below w1.heap.size w1 w3 := (by first | exact below_self (Below.refl _ _).drew h4 | exact h4); have y0 := cell_below hb3 c0)
    | (go_simp; go_at_call 55; refine (HI.out r _ hb3).mono ?_; rintro e w5 ⟨rfl, hA5, hk5⟩)
    | fail)) | fail
  all_goals (
    rw [hri] at hA5
    have HA := Lib.hid hA5
    have HK := Lib.hid (HK1.out.trans ((Kept.of_below hb3 [g]).trans hk5))
    clear hA5 hk5 hb3 h4 y0 hri
    go_wp2)
  all_goals refine bodyPost_ret (v := .tuple #[.int .i64 s.top.lv, .int .i64 (givS s 19)]) (by simp [results, go_sem]) rfl ?_
  all_goals exact stepAns_of s.top.lv (givS s 19) _ (by simp [stepA, outX, leftC]) (by unfold stepA stepB; simp [opB]) rfl HA.out HK.out
set_option maxRecDepth 100000 in
set_option maxHeartbeats 4000000 in
theorem exStep_21 (k : Nat) (hx : xs[k]? = some 21) (hn : n ≤ 100000) (hnc : n ≤ c) (hfm : ∀ y ∈ matF xs, Fit y) (w : World) (h : WlkAt w bw g A n c xs M mc base s) (hf : Few s 100000) : Calls Tryz.prog 39 #[.pointer (some ⟨bw, 0, none⟩), .int .i64 (k : Int), .int .i64 21] w fun e w' => StepAns w w' g xs base s k 21 e := by
  have HW := Lib.hid h
  have HH := Lib.hid (exHere_any 21 w h)
  have hb : s.a ≤ 100000000 := by have := hf.1; omega
  have hc : s.c ≤ 100000000 := by have := hf.2.2; omega
  clear h
  go_enter Tryz.func39, Tryz.ntmps39
  go_wp2_with fail
  refine HH.out.mono ?_
  rintro e w1 ⟨rfl, hb1⟩
  have HK1 := Lib.hid (Kept.of_below hb1 [g])
  have hW1 := HW.out.low hb1
  have HW1 := Lib.hid hW1
  have c0 := hW1.c0
  have HR := Lib.hid (fun W (k' : Below w1.heap.size w1 W) => exRight_any k 21 W (hW1.low k') hx hn hnc hfm)
  have HI := Lib.hid (fun r W (k' : Below w1.heap.size w1 W) => stkIsolate_any g s r W (hW1.st.low k') hb hc)
  clear hb1 hW1
  go_upto_region 13 with fail
  first | (go_region_law (first
    | (go_simp; go_at_call 56; refine (HR.out _ (by first | exact Below.refl _ _ | exact (Below.refl _ _).drew)).mono ?_; rintro e w3 ⟨⟨r, rfl, hri⟩, h4⟩; have hb3 : Below w1.heap.size w1 w3 := (by first | exact below_self (Below.refl _ _).drew h4 | exact h4); have y0 := cell_below hb3 c0)
    | (go_simp; go_at_call 55; refine (HI.out r _ hb3).mono ?_; rintro e w5 ⟨rfl, hA5, hk5⟩)
    | fail)) | fail
  all_goals (
    rw [hri] at hA5
    have HA := Lib.hid hA5
    have HK := Lib.hid (HK1.out.trans ((Kept.of_below hb3 [g]).trans hk5))
    clear hA5 hk5 hb3 h4 y0 hri
    go_wp2)
  all_goals refine bodyPost_ret (v := .tuple #[.int .i64 s.top.lv, .int .i64 (givS s 21)]) (by simp [results, go_sem]) rfl ?_
  all_goals exact stepAns_of s.top.lv (givS s 21) _ (by simp [stepA, outX, leftC]) (by unfold stepA stepB; simp [opB]) rfl HA.out HK.out
set_option maxRecDepth 100000 in
set_option maxHeartbeats 4000000 in
theorem exStep_22 (k : Nat) (w : World) (h : WlkAt w bw g A n c xs M mc base s) (hf : Few s 100000) : Calls Tryz.prog 39 #[.pointer (some ⟨bw, 0, none⟩), .int .i64 (k : Int), .int .i64 22] w fun e w' => StepAns w w' g xs base s k 22 e := by
  have HW := Lib.hid h
  have c0 := h.c0
  have hb : s.a ≤ 100000000 := by have := hf.1; omega
  have hc : s.c ≤ 100000000 := by have := hf.2.2; omega
  have HE := Lib.hid (stkEndI_any g s w h.st hb hc)
  clear h
  go_enter Tryz.func39, Tryz.ntmps39
  go_wp2_with fail
  refine HE.out.mono ?_
  rintro e w1 ⟨rfl, hA, hk⟩
  have HW1 := Lib.hid (HW.out.kept hk hA)
  have HK1 := Lib.hid hk
  clear hA hk
  go_wp2_with fail
  refine (exHere_any 22 w1 HW1.out).mono ?_
  rintro e w2 ⟨rfl, hb2⟩
  have HA := Lib.hid (HW1.out.low hb2).st
  have HK := Lib.hid (HK1.out.trans (Kept.of_below hb2 [g]))
  clear hb2
  go_wp2
  refine bodyPost_ret (v := .tuple #[.int .i64 (endIS s).top.lv, .int .i64 (givS (endIS s) 22)]) (by simp [results, go_sem]) rfl ?_
  exact stepAns_of (endIS s).top.lv (givS (endIS s) 22) _ (by simp [stepA, outX, leftC]) (by unfold stepA stepB; simp [opB]) rfl HA.out HK.out
set_option maxRecDepth 100000 in
set_option maxHeartbeats 4000000 in
theorem exStep_18 (k : Nat) (w : World) (h : WlkAt w bw g A n c xs M mc base s) (hf : Few s 100000) : Calls Tryz.prog 39 #[.pointer (some ⟨bw, 0, none⟩), .int .i64 (k : Int), .int .i64 18] w fun e w' => StepAns w w' g xs base s k 18 e := by
  have HW := Lib.hid h
  have c0 := h.c0
  have HT := Lib.hid (stkTop_any g s w h.st)
  unfold entV at HT
  have fd := ent_lv s.top.lv s.top.ov s.top.is
  have hb : s.b ≤ 100000000 := by have := hf.2.1; omega
  clear h
  go_enter Tryz.func39, Tryz.ntmps39
  go_wp2_with fail
  refine HT.out.mono ?_
  rintro e w1 ⟨rfl, hb1⟩
  have HK1 := Lib.hid (Kept.of_below hb1 [g])
  have hW1 := HW.out.low hb1
  have c01 := hW1.c0
  have HW1 := Lib.hid hW1
  clear hb1 hW1
  go_wp2_with fail
  refine (stkEndE_any g s w1 HW1.out.st hb).mono ?_
  rintro e w2 ⟨rfl, hA, hk⟩
  have HA := Lib.hid hA
  have HK := Lib.hid (HK1.out.trans hk)
  clear hA hk
  go_wp2
  refine bodyPost_ret (v := .tuple #[.int .i64 s.top.lv, .int .i64 9]) (by simp [results, go_sem]) rfl ?_
  exact stepAns_of s.top.lv 9 _ (by simp [stepA, outX, leftC]) (by unfold stepA stepB; simp) rfl HA.out HK.out
set_option maxRecDepth 100000 in
set_option maxHeartbeats 4000000 in
theorem exStep_10 (k : Nat) (w : World) (h : WlkAt w bw g A n c xs M mc base s) : Calls Tryz.prog 39 #[.pointer (some ⟨bw, 0, none⟩), .int .i64 (k : Int), .int .i64 10] w fun e w' => StepAns w w' g xs base s k 10 e := by
  have HW := Lib.hid h
  have c1 := h.c1
  clear h
  go_enter Tryz.func39, Tryz.ntmps39
  go_wp2
  refine bodyPost_ret (v := .tuple #[.int .i64 base, .int .i64 10]) (by simp [results, go_sem]) rfl ?_
  exact stepAns_of base 10 _ (by simp [outX]) (by unfold stepA stepB; simp [opB]) rfl HW.out.st (Kept.refl _ _)
set_option maxRecDepth 100000 in
set_option maxHeartbeats 4000000 in
theorem exStep_9 (k : Nat) (w : World) (h : WlkAt w bw g A n c xs M mc base s) : Calls Tryz.prog 39 #[.pointer (some ⟨bw, 0, none⟩), .int .i64 (k : Int), .int .i64 9] w fun e w' => StepAns w w' g xs base s k 9 e := by
  have HW := Lib.hid h
  have c0 := h.c0
  have HT := Lib.hid (stkTop_any g s w h.st)
  unfold entV at HT
  have fd := ent_lv s.top.lv s.top.ov s.top.is
  clear h
  go_enter Tryz.func39, Tryz.ntmps39
  go_wp2_with fail
  refine HT.out.mono ?_
  rintro e w1 ⟨rfl, hb1⟩
  have HA := Lib.hid (HW.out.low hb1).st
  have HK := Lib.hid (Kept.of_below hb1 [g])
  clear hb1
  go_wp2
  refine bodyPost_ret (v := .tuple #[.int .i64 s.top.lv, .int .i64 9]) (by simp [results, go_sem]) rfl ?_
  exact stepAns_of s.top.lv 9 _ (by simp [stepA, outX, leftC]) (by unfold stepA stepB; simp [opB]) rfl HA.out HK.out
set_option maxRecDepth 100000 in
set_option maxHeartbeats 4000000 in
theorem exStep_other (k : Nat) (x : Int) (hx : ¬ x = 16 ∧ ¬ x = 14 ∧ ¬ x = 17 ∧ ¬ x = 15 ∧ ¬ x = 20 ∧ ¬ x = 19 ∧ ¬ x = 21 ∧ ¬ x = 22 ∧ ¬ x = 18 ∧ ¬ x = 10 ∧ ¬ x = 9) (w : World) (h : WlkAt w bw g A n c xs M mc base s) : Calls Tryz.prog 39 #[.pointer (some ⟨bw, 0, none⟩), .int .i64 (k : Int), .int .i64 x] w fun e w' => StepAns w w' g xs base s k x e := by
  have HW := Lib.hid h
  have HH := Lib.hid (exHere_any x w h)
  clear h
  have g16 : (x == 16) = false := by simp; omega
  have g14 : (x == 14) = false := by simp; omega
  have g17 : (x == 17) = false := by simp; omega
  have g15 : (x == 15) = false := by simp; omega
  have g20 : (x == 20) = false := by simp; omega
  have g19 : (x == 19) = false := by simp; omega
  have g21 : (x == 21) = false := by simp; omega
  have g22 : (x == 22) = false := by simp; omega
  have g18 : (x == 18) = false := by simp; omega
  have g10 : (x == 10) = false := by simp; omega
  have g9 : (x == 9) = false := by simp; omega
  have HX := Lib.hid hx
  clear hx
  go_enter Tryz.func39, Tryz.ntmps39
  go_wp2_with fail
  refine HH.out.mono ?_
  rintro e w1 ⟨rfl, hb1⟩
  have HA := Lib.hid (HW.out.low hb1).st
  have HK := Lib.hid (Kept.of_below hb1 [g])
  clear hb1
  go_wp2
  refine bodyPost_ret (v := .tuple #[.int .i64 s.top.lv, .int .i64 (givS s x)]) (by simp [results, go_sem]) rfl ?_
  exact stepAns_of s.top.lv (givS s x) _ (by have hx := HX.out; unfold stepA; rw [if_neg (show ¬ x = 22 by omega)]; unfold outX; rw [if_neg (show ¬ x = 10 by omega), if_neg (by unfold leftC; simp; omega)]) (by have hx := HX.out; unfold stepA stepB; rw [if_neg (show ¬ x = 22 by omega), if_neg (by omega), if_neg (by omega), if_neg (by omega), if_neg (by omega), if_neg (by omega), if_neg (by rw [opB_iff]; omega)]) rfl HA.out HK.out
/-- A step, whatever the class. -/
theorem exStep_any (k : Nat) (x : Int) (w : World) (h : WlkAt w bw g A n c xs M mc base s) (hf : Few s 100000) (hx : xs[k]? = some x) (hn : n ≤ 100000) (hnc : n ≤ c) (hfm : ∀ y ∈ matF xs, Fit y) : Calls Tryz.prog 39 #[.pointer (some ⟨bw, 0, none⟩), .int .i64 (k : Int), .int .i64 x] w fun e w' => StepAns w w' g xs base s k x e := by
  by_cases h16 : x = 16
  · subst h16; exact exStep_16 k w h hf
  by_cases h14 : x = 14
  · subst h14; exact exStep_14 k w h hf
  by_cases h17 : x = 17
  · subst h17; exact exStep_17 k w h hf
  by_cases h15 : x = 15
  · subst h15; exact exStep_15 k w h hf
  by_cases h20 : x = 20
  · subst h20; exact exStep_20 k hx hn hnc hfm w h hf
  by_cases h19 : x = 19
  · subst h19; exact exStep_19 k hx hn hnc hfm w h hf
  by_cases h21 : x = 21
  · subst h21; exact exStep_21 k hx hn hnc hfm w h hf
  by_cases h22 : x = 22
  · subst h22; exact exStep_22 k w h hf
  by_cases h18 : x = 18
  · subst h18; exact exStep_18 k w h hf
  by_cases h10 : x = 10
  · subst h10; exact exStep_10 k w h
  by_cases h9 : x = 9
  · subst h9; exact exStep_9 k w h
  exact exStep_other k x ⟨h16, h14, h17, h15, h20, h19, h21, h22, h18, h10, h9⟩ w h
end
end Go.Proofs.YtdgomaoikeffhaaGreat
/- explicit: Levels, walked. -/
namespace Go.Proofs.YtdgomaoikeffhaaGreat
open Go.RowKit

/-- Both answers in memory. -/
structure TwoAt (w0 w : World) (ga gb : Nat) (la lb : List Int) : Prop where
  a : w.heap[ga]? = some (.cells (intsZ la).toArray 3 (0, 0))
  b : w.heap[gb]? = some (.cells (intsZ lb).toArray 3 (0, 0))
  ne : ga ≠ gb
  la : w0.heap.size ≤ ga
  lb : w0.heap.size ≤ gb
section
variable {w0 w w' : World} {ga gb : Nat} {la lb : List Int}
theorem TwoAt.kept {S : List Nat} (h : TwoAt w0 w ga gb la lb) (hk : Kept w w' S) (hs : ∀ x ∈ S, x ≠ ga ∧ x ≠ gb) : TwoAt w0 w' ga gb la lb :=
  ⟨hk.heap h.a (fun hm => (hs _ hm).1 rfl), hk.heap h.b (fun hm => (hs _ hm).2 rfl), h.ne, h.la, h.lb⟩
theorem TwoAt.setA (h : TwoAt w0 w ga gb la lb) (i : Nat) (x : Int) : TwoAt w0 (w.setCell ⟨ga, i, none⟩ (.int .i64 x)) ga gb (la.set i x) lb :=
  ⟨hp_row h.a i x, by rw [hp_far (fun e => h.ne e.symm)]; exact h.b, h.ne, h.la, h.lb⟩
theorem TwoAt.setB (h : TwoAt w0 w ga gb la lb) (i : Nat) (x : Int) : TwoAt w0 (w.setCell ⟨gb, i, none⟩ (.int .i64 x)) ga gb la (lb.set i x) :=
  ⟨by rw [hp_far h.ne]; exact h.a, hp_row h.b i x, h.ne, h.la, h.lb⟩
theorem rd_row {g n : Nat} {l : List Int} {t : TypeId} (h : w.heap[g]? = some (.cells (intsZ l).toArray t (0, 0))) (hl : l.length = n) : Rd w 1 (some ⟨g, 0, none⟩) n (l.map (Value.int .i64)) := by
  refine ⟨by simp [hl], fun _ => ⟨_, rfl, hp_lt h, fun j u hj => ?_⟩⟩
  rw [addNew]
  exact hp_cell h (by rw [List.getElem?_toArray]; exact hj)
end
theorem two_heap (w : World) (o0 o1 : Obj) : ((w.alloc o0).alloc o1).drew.heap[w.heap.size]? = some o0 ∧ ((w.alloc o0).alloc o1).drew.heap[w.heap.size + 1]? = some o1 ∧ Below w.heap.size w ((w.alloc o0).alloc o1).drew := by
  have h1 := heap_alloc_new (w.alloc o0) o1
  simp only [World.size_alloc] at h1
  simp only [heap_drew]
  refine ⟨?_, h1, (((Below.refl _ _).alloc (Nat.le_refl _) _).alloc (by simp) _).drew⟩
  rw [heap_alloc_old (h := by simp)]
  exact heap_alloc_new w _
/-- Writes to the answers' blocks leave who goes through. -/
theorem WlkAt.far {W w w' : World} {bw g n c mc ga gb : Nat} {A M : Option Addr} {xs : List Int} {base : Int} {s : Stk} (h : WlkAt w bw g A n c xs M mc base s) (hk : Kept w w' [ga, gb]) (h1 : ∀ x ∈ [g], x ≠ ga ∧ x ≠ gb) (h2 : bw ≠ ga ∧ bw ≠ gb)
    (hA : ∀ ad, 0 < n → A = some ad → ad.block < W.heap.size) (hM : ∀ ad, 0 < n → M = some ad → ad.block < W.heap.size) (hl : W.heap.size ≤ ga ∧ W.heap.size ≤ gb) : WlkAt w' bw g A n c xs M mc base s := by
  have hg := h1 g (by simp)
  have rdn : ∀ (B : Option Addr) (ys : List Int), (∀ ad, 0 < n → B = some ad → ad.block < W.heap.size) → RdN w g B n ys → RdN w' g B n ys := fun B ys hB hr => by
    refine ⟨⟨hr.1.1, fun hn => ?_⟩, hr.2⟩
    obtain ⟨ad, rfl, hb, hc⟩ := hr.1.2 hn
    have hbl := hB ad hn rfl
    refine ⟨ad, rfl, Nat.lt_of_lt_of_le hb hk.size, fun j u hu => ?_⟩
    have h1 := hc j u hu
    unfold World.cell? at h1 ⊢
    rw [show w'.heap[(ad.add j).block]? = w.heap[(ad.add j).block]? from by rw [blockAdd]; exact hk.block _ hb (by simp; omega)]
    exact h1
  exact ⟨hk.heap h.hw (by simp; exact h2), h.st.keep hk (by simp; exact hg), h.ne, rdn A xs hA h.cl, rdn M (matF xs) hM h.mt⟩
set_option maxRecDepth 100000 in
set_option maxHeartbeats 4000000 in
theorem exLevelsT_any (A : Option Addr) (n c : Nat) (xs : List Int) (level : Int) (w : World) (hr : Rd w 1 A n (xs.map (Value.int .i64))) (hn : n ≤ 100000) (hnc : n ≤ c) : Calls Tryz.prog 24 #[.slice A n c, .int .i64 level] w fun e w' => (∃ ga gb, e = .returned (.tuple #[.slice (some ⟨ga, 0, none⟩) n n, .slice (some ⟨gb, 0, none⟩) n n]) ∧ TwoAt w w' ga gb (lvL xs (baseL level) n) (clL xs (baseL level) n)) ∧ Below w.heap.size w w' := by
  have hlen : xs.length = n := by simpa using hr.len1
  have HL := Lib.hid hlen
  have HR := Lib.hid hr
  have HFM : Hid (∀ y ∈ matF xs, Fit y) := Lib.hid (fun y hy => by have := mat_in hy; unfold Fit; omega)
  obtain ⟨base, hbase⟩ : ∃ base, baseL level = base := ⟨_, rfl⟩
  have HBS := Lib.hid (base_in level)
  rw [hbase] at HBS ⊢
  have hmm : min (max level 0) 1 = base := hbase
  obtain ⟨l0, hl0⟩ : ∃ l0, (if level < 0 then 0 else level) = l0 := ⟨_, rfl⟩
  have hmi : (if 1 < l0 then 1 else l0) = base := by
    rw [← hmm, ← hl0]
    repeat' split
    all_goals omega
  obtain ⟨g, hg⟩ : ∃ g, w.heap.size = g := ⟨_, rfl⟩
  have HG := Lib.hid hg
  have HN := Lib.hid (stkNew_any base w)
  have hns : newS base = stE xs base 0 := rfl
  rw [hg, hns] at HN
  have HBA := Lib.hid hbase
  rw [hg]
  have hmk := mk_intsZ n (by omega)
  clear hr hlen hg hns hbase hmm
  go_enter Tryz.func24, Tryz.ntmps24
  go_upto_region 2 with fail
  go_wp2_with fail
  refine HN.out.mono ?_
  rintro e w1 ⟨rfl, hA1, hb1⟩
  have HA1 := Lib.hid hA1
  have HB1 := Lib.hid hb1
  have HR1 := Lib.hid (HR.out.below (show Below w.heap.size w w1 by have := HG.out; subst this; exact hb1))
  clear hA1 hb1
  go_wp2_with fail
  refine (prMatches_any A n c xs w1 HR1.out hn).mono ?_
  rintro e w2 ⟨v, rfl, hown, hb2⟩
  obtain ⟨M, mc, rfl, hmc⟩ := own_form hown
  have HA2 := Lib.hid (HA1.out.low hb2)
  have HB2 : Hid (Below g w w2) := Lib.hid (by have := HG.out; subst this; exact below_self HB1.out hb2)
  have HM2 : Hid (RdN w2 g M n (matF xs)) := Lib.hid ⟨Rd.of_own hown, fun hn0 ad e => by
    subst e
    have := (hown.lt ad.block rfl).1
    have := HA1.out.lt
    omega⟩
  have HC2 : Hid (RdN w2 g A n xs) := Lib.hid ⟨HR1.out.below hb2, fun hn0 ad e => by
    obtain ⟨ad', e', hb, _⟩ := HR.out.2 hn0
    rw [e] at e'
    obtain rfl := Option.some.inj e'
    have := HG.out
    omega⟩
  obtain ⟨W, hW⟩ : ∃ W, w2.alloc (.cells #[.pointer (some ⟨g, 0, none⟩), .int .i64 base, .slice A n c, .slice M n mc] 83) = W := ⟨_, rfl⟩
  have hbn := below_new w2 (.cells #[.pointer (some ⟨g, 0, none⟩), .int .i64 base, .slice A n c, .slice M n mc] 83)
  have hh := heap_alloc_new w2 (.cells #[.pointer (some ⟨g, 0, none⟩), .int .i64 base, .slice A n c, .slice M n mc] 83)
  rw [hW] at hbn hh
  obtain ⟨bw, hbw⟩ : ∃ bw, w2.heap.size = bw := ⟨_, rfl⟩
  have hgw := HA2.out.lt
  rw [hbw] at hh hgw
  have HW : Hid (WlkAt W bw g A n c xs M mc base (stE xs base 0)) := Lib.hid ⟨hh, HA2.out.low hbn, by omega, HC2.out.kept (Kept.of_below hbn _), HM2.out.kept (Kept.of_below hbn _)⟩
  have HBW : Hid (Below g w W) := Lib.hid (by have := HG.out; subst this; exact below_self HB2.out hbn)
  clear hown hb2 hbn hh hgw hmi hl0
  go_upto_region 3 with fail
  go_cut [7, 8] (fun a b wx => ∃ ga gb, a = .slice (some ⟨ga, 0, none⟩) n n ∧ b = .slice (some ⟨gb, 0, none⟩) n n ∧ TwoAt W wx ga gb (List.replicate n 0) (List.replicate n 0) ∧ Below W.heap.size W wx)
  case first =>
    go_wp2_with fail
    go_region
    all_goals (
      go_wp2_with fail
      go_meet)
    all_goals first
      | exact ⟨_, _, rfl, rfl, ⟨(two_heap W _ _).1, (two_heap W _ _).2.1, by omega, by omega, by omega⟩, (two_heap W _ _).2.2⟩
      | exact ⟨_, _, rfl, rfl, ⟨(two_heap W _ _).2.1, (two_heap W _ _).1, by omega, by omega, by omega⟩, (two_heap W _ _).2.2⟩
  case rest =>
    obtain ⟨ga, gb, rfl, rfl, hT0, hbc⟩ := hcut
    clear hmk
    have HT0 : Hid (TwoAt W wc ga gb (lvZ xs base 0 n) (clZ xs base 0 n)) := Lib.hid (by rw [lvZ_zero, clZ_zero]; exact hT0)
    have HW0 := Lib.hid (HW.out.low hbc)
    have HB0 : Hid (Below g w wc) := Lib.hid (by have := HG.out; subst this; exact below_self HBW.out hbc)
    have hgW := HW.out.st.lt
    have hga : ga ≠ g := by have := hT0.la; omega
    have hgb : gb ≠ g := by have := hT0.lb; omega
    have HGA := Lib.hid (show ∀ x ∈ [g], x ≠ ga ∧ x ≠ gb by intro x hx; simp at hx; subst hx; exact ⟨fun e => hga e.symm, fun e => hgb e.symm⟩)
    have hwb : bw < W.heap.size := hp_lt HW.out.hw
    have hba : bw ≠ ga := by have := hT0.la; omega
    have hbb : bw ≠ gb := by have := hT0.lb; omega
    have HNB := Lib.hid (And.intro hba hbb)
    have HAR : Hid (∀ ad, 0 < n → A = some ad → ad.block < W.heap.size) := Lib.hid (fun ad hn0 e => by
      obtain ⟨ad', e', hb, _⟩ := HW.out.cl.1.2 hn0
      rw [e] at e'
      obtain rfl := Option.some.inj e'
      exact hb)
    have HMR : Hid (∀ ad, 0 < n → M = some ad → ad.block < W.heap.size) := Lib.hid (fun ad hn0 e => by
      obtain ⟨ad', e', hb, _⟩ := HW.out.mt.1.2 hn0
      rw [e] at e'
      obtain rfl := Option.some.inj e'
      exact hb)
    have HLA := Lib.hid (And.intro hT0.la hT0.lb)
    clear hT0 hbc hgW hwb hba hbb
    go_wp2_with fail
    go_loopw [30] (fun i wr => ∃ k : Nat, k ≤ n ∧ i = .int .i64 (k : Int) ∧ WlkAt wr bw g A n c xs M mc base (stE xs base k) ∧ TwoAt W wr ga gb (lvZ xs base k n) (clZ xs base k n) ∧ Below g w wr) (fun i _ => n - (intOf i).toNat)
    case atStart => exact ⟨0, Nat.zero_le _, rfl, HW0.out, HT0.out, HB0.out⟩
    case round =>
      obtain ⟨k, hk, rfl, hWk, hTk, hBk⟩ := hrel
      have HWk := Lib.hid hWk
      have HTk := Lib.hid hTk
      have HBk := Lib.hid hBk
      by_cases hlt : k < n
      · obtain ⟨x, hx⟩ : ∃ x, xs[k]? = some x := ⟨_, List.getElem?_eq_getElem (by rw [HL.out]; exact hlt)⟩
        have hxd : xs.getD k 0 = x := by rw [List.getD_eq_getElem?_getD, hx]; rfl
        obtain ⟨ad, rfl, hab, hcell⟩ := hWk.cl.1.at_ hlt
        have cx := hcell _ (by rw [List.getElem?_map, hx]; rfl)
        have HS := Lib.hid (exStep_any k x wr hWk ((few_st xs base k).up (by omega)) hx hn hnc HFM.out)
        have hkn : (k : Int) < (n : Int) := by omega
        have hk0 : (0 : Int) ≤ (k : Int) := by omega
        have HX := Lib.hid hxd
        clear hcell hx hxd hWk hTk hBk
        go_wp2_with fail
        refine HS.out.mono ?_
        rintro e w3 ⟨rfl, hA3, hk3⟩
        have hwk3 := HWk.out.kept hk3 hA3
        have HE : Hid (stepB xs k x (stepA (stE xs base k) x) = stE xs base (k + 1)) := Lib.hid (by rw [stE, HX.out])
        rw [HE.out] at hwk3
        have HEX : Hid (outX base (stepA (stE xs base k) x) x = exA xs base k) := Lib.hid (by unfold exA; rw [HX.out])
        rw [HEX.out]
        have hT3 := HTk.out.kept hk3 HGA.out
        have HB3 : Hid (Below g w w3) := Lib.hid (by have := HG.out; subst this; exact hk3.lower HBk.out HBk.out.size (by simp))
        have hT4 := hT3.setA k (exA xs base k).1
        rw [lvZ_step hlt] at hT4
        have hT5 := hT4.setB k (exA xs base k).2
        rw [clZ_step hlt] at hT5
        obtain ⟨ua, ca⟩ : ∃ u, w3.cell? ⟨ga, k, none⟩ = some u := ⟨_, hp_cell hT3.a (Array.getElem?_eq_getElem (by simp [intsZ, lvZ_len hk, hlt]))⟩
        have fa := hp_froz hT3.a k
        obtain ⟨ub, cb⟩ : ∃ u, w3.cell? ⟨gb, k, none⟩ = some u := ⟨_, hp_cell hT3.b (Array.getElem?_eq_getElem (by simp [intsZ, clZ_len hk, hlt]))⟩
        have fb := hp_froz hT3.b k
        have hne := hT3.ne
        have HT5 := Lib.hid hT5
        have HK5 : Hid (Kept w3 ((w3.setCell ⟨ga, k, none⟩ (.int .i64 (exA xs base k).1)).setCell ⟨gb, k, none⟩ (.int .i64 (exA xs base k).2)) [ga, gb]) := Lib.hid (((Kept.refl _ _).set (.inl (by simp)) k _).set (.inl (by simp)) k _)
        have HW3 := Lib.hid hwk3
        obtain ⟨p, hp⟩ : ∃ p, (exA xs base k).1 = p := ⟨_, rfl⟩
        obtain ⟨q, hq⟩ : ∃ q, (exA xs base k).2 = q := ⟨_, rfl⟩
        rw [hp, hq] at HT5 HK5
        rw [hp, hq]
        clear hA3 hk3 hwk3 hT3 hT4 hT5 hp hq
        go_wp2_with fail
        go_roundw
        case rel => exact ⟨k + 1, by omega, by go_num, HW3.out.far HK5.out HGA.out HNB.out HAR.out HMR.out HLA.out, HT5.out, by have := HG.out; subst this; exact HK5.out.lower HB3.out HB3.out.size (by have := HLA.out; have := HBW.out.size; simp; omega)⟩
        case measure => simp [intOf]; omega
      · obtain rfl : k = n := by omega
        have HTF : Hid (TwoAt w wr ga gb (lvL xs base k) (clL xs base k)) := Lib.hid (by
          have h := hTk
          rw [lvZ_end, clZ_end] at h
          have hz := HBW.out.size
          exact ⟨h.a, h.b, h.ne, Nat.le_trans hz h.la, Nat.le_trans hz h.lb⟩)
        clear hWk hTk hBk
        go_wp2
        exact bodyPost_ret (v := .tuple #[.slice (some ⟨ga, 0, none⟩) k k, .slice (some ⟨gb, 0, none⟩) k k]) (by simp [results, go_sem]) rfl ⟨⟨ga, gb, rfl, HTF.out⟩, HBk.out⟩
theorem exLevels_any (A : Option Addr) (n c : Nat) (xs : List Int) (level : Int) (w : World) (hr : Rd w 1 A n (xs.map (Value.int .i64))) (hn : n ≤ 100000) (hnc : n ≤ c) : Calls Tryz.prog 24 #[.slice A n c, .int .i64 level] w fun e w' => (∃ ga gb, e = .returned (.tuple #[.slice (some ⟨ga, 0, none⟩) n n, .slice (some ⟨gb, 0, none⟩) n n]) ∧ Rd w' 1 (some ⟨ga, 0, none⟩) n ((lvL xs (baseL level) n).map (Value.int .i64)) ∧ Rd w' 1 (some ⟨gb, 0, none⟩) n ((clL xs (baseL level) n).map (Value.int .i64))) ∧ Below w.heap.size w w' := by
  refine (exLevelsT_any A n c xs level w hr hn hnc).mono ?_
  rintro e w' ⟨⟨ga, gb, rfl, h⟩, hb⟩
  exact ⟨⟨ga, gb, rfl, rd_row h.a (lvL_len _ _ _), rd_row h.b (clL_len _ _ _)⟩, hb⟩
end Go.Proofs.YtdgomaoikeffhaaGreat
