/- explicit: step, walked. -/
import Derived.Test.YtflbiblkphaagaaExP2
import Derived.Test.YtflbiblkphaagaaFew
import Derived.Deep.DeepCutAuto
import Derived.Deep.CutBlock
namespace Go.Proofs.Ytflbiblkphaagaa
open Go.RowKit

section
variable {bw g n c mc : Nat} {A M : Option Addr} {xs : List Int} {base : Int} {s : Stk}
/-- What a step answers, and leaves. -/
def StepAns (w w' : World) (g : Nat) (xs : List Int) (base : Int) (s : Stk) (k : Nat) (x : Int) (e : Ending) : Prop :=
  e = .returned (.tuple #[.int .i64 (outX base (stepA s x) x).1, .int .i64 (outX base (stepA s x) x).2]) ∧ StkAt w' g (stepB xs k x (stepA s x)) ∧ Kept w w' [g]
/-- As 'StepAns', of what is said. -/
theorem stepAns_of {w w' : World} {k : Nat} {x : Int} {e : Ending} (p q : Int) (T : Stk) (h1 : outX base (stepA s x) x = (p, q)) (h2 : stepB xs k x (stepA s x) = T) (he : e = .returned (.tuple #[.int .i64 p, .int .i64 q])) (hs : StkAt w' g T) (hk : Kept w w' [g]) : StepAns w w' g xs base s k x e := by
  unfold StepAns
  rw [h1, h2]
  exact ⟨he, hs, hk⟩
set_option maxRecDepth 100000 in
set_option maxHeartbeats 4000000 in
theorem exStep_16 (k : Nat) (w : World) (h : WlkAt w bw g A n c xs M mc base s) (hf : Few s 100000) : Calls Try.prog 46 #[.pointer (some ⟨bw, 0, none⟩), .int .i64 (k : Int), .int .i64 16] w fun e w' => StepAns w w' g xs base s k 16 e := by
  have HW := Lib.hid h
  have c0 := h.c0
  have HT := Lib.hid (stkTop_any g s w h.st)
  unfold entV at HT
  have fd := ent_lv s.top.lv s.top.ov s.top.is
  have hb : s.b ≤ 100000000 := by have := hf.2.1; omega
  have HE := Lib.hid (fun W (h : WlkAt W bw g A n c xs M mc base s) => exEmbed_any 16 W h hb (by omega))
  clear h
  go_enter Try.func46, Try.ntmps46
  go_wp2_with fail
  refine HT.out.mono ?_
  rintro e w1 ⟨rfl, hb1⟩
  have HK1 := Lib.hid (Kept.of_below hb1 [g])
  have HW1 := Lib.hid (HW.out.low hb1)
  clear hb1
  go_wp2_with fail
  refine (HE.out _ HW1.out).mono ?_
  rintro e w2 ⟨rfl, hA, hk⟩
  have HA := Lib.hid hA
  have HK := Lib.hid (HK1.out.trans hk)
  clear hA hk
  go_wp2
  refine bodyPost_ret (v := .tuple #[.int .i64 s.top.lv, .int .i64 9]) (by simp [results, go_sem]) rfl ?_
  exact stepAns_of s.top.lv 9 _ (by simp [stepA, outX, leftC]) (by simp [stepA, stepB, embR, embO]) rfl HA.out HK.out
set_option maxRecDepth 100000 in
set_option maxHeartbeats 4000000 in
theorem exStep_14 (k : Nat) (w : World) (h : WlkAt w bw g A n c xs M mc base s) (hf : Few s 100000) : Calls Try.prog 46 #[.pointer (some ⟨bw, 0, none⟩), .int .i64 (k : Int), .int .i64 14] w fun e w' => StepAns w w' g xs base s k 14 e := by
  have HW := Lib.hid h
  have c0 := h.c0
  have HT := Lib.hid (stkTop_any g s w h.st)
  unfold entV at HT
  have fd := ent_lv s.top.lv s.top.ov s.top.is
  have hb : s.b ≤ 100000000 := by have := hf.2.1; omega
  have HE := Lib.hid (fun W (h : WlkAt W bw g A n c xs M mc base s) => exEmbed_any 14 W h hb (by omega))
  clear h
  go_enter Try.func46, Try.ntmps46
  go_wp2_with fail
  refine HT.out.mono ?_
  rintro e w1 ⟨rfl, hb1⟩
  have HK1 := Lib.hid (Kept.of_below hb1 [g])
  have HW1 := Lib.hid (HW.out.low hb1)
  clear hb1
  go_wp2_with fail
  refine (HE.out _ HW1.out).mono ?_
  rintro e w2 ⟨rfl, hA, hk⟩
  have HA := Lib.hid hA
  have HK := Lib.hid (HK1.out.trans hk)
  clear hA hk
  go_wp2
  refine bodyPost_ret (v := .tuple #[.int .i64 s.top.lv, .int .i64 9]) (by simp [results, go_sem]) rfl ?_
  exact stepAns_of s.top.lv 9 _ (by simp [stepA, outX, leftC]) (by simp [stepA, stepB, embR, embO]) rfl HA.out HK.out
set_option maxRecDepth 100000 in
set_option maxHeartbeats 4000000 in
theorem exStep_17 (k : Nat) (w : World) (h : WlkAt w bw g A n c xs M mc base s) (hf : Few s 100000) : Calls Try.prog 46 #[.pointer (some ⟨bw, 0, none⟩), .int .i64 (k : Int), .int .i64 17] w fun e w' => StepAns w w' g xs base s k 17 e := by
  have HW := Lib.hid h
  have c0 := h.c0
  have HT := Lib.hid (stkTop_any g s w h.st)
  unfold entV at HT
  have fd := ent_lv s.top.lv s.top.ov s.top.is
  have hb : s.b ≤ 100000000 := by have := hf.2.1; omega
  have HE := Lib.hid (fun W (h : WlkAt W bw g A n c xs M mc base s) => exEmbed_any 17 W h hb (by omega))
  clear h
  go_enter Try.func46, Try.ntmps46
  go_wp2_with fail
  refine HT.out.mono ?_
  rintro e w1 ⟨rfl, hb1⟩
  have HK1 := Lib.hid (Kept.of_below hb1 [g])
  have HW1 := Lib.hid (HW.out.low hb1)
  clear hb1
  go_wp2_with fail
  refine (HE.out _ HW1.out).mono ?_
  rintro e w2 ⟨rfl, hA, hk⟩
  have HA := Lib.hid hA
  have HK := Lib.hid (HK1.out.trans hk)
  clear hA hk
  go_wp2
  refine bodyPost_ret (v := .tuple #[.int .i64 s.top.lv, .int .i64 9]) (by simp [results, go_sem]) rfl ?_
  exact stepAns_of s.top.lv 9 _ (by simp [stepA, outX, leftC]) (by simp [stepA, stepB, embR, embO]) rfl HA.out HK.out
set_option maxRecDepth 100000 in
set_option maxHeartbeats 4000000 in
theorem exStep_15 (k : Nat) (w : World) (h : WlkAt w bw g A n c xs M mc base s) (hf : Few s 100000) : Calls Try.prog 46 #[.pointer (some ⟨bw, 0, none⟩), .int .i64 (k : Int), .int .i64 15] w fun e w' => StepAns w w' g xs base s k 15 e := by
  have HW := Lib.hid h
  have c0 := h.c0
  have HT := Lib.hid (stkTop_any g s w h.st)
  unfold entV at HT
  have fd := ent_lv s.top.lv s.top.ov s.top.is
  have hb : s.b ≤ 100000000 := by have := hf.2.1; omega
  have HE := Lib.hid (fun W (h : WlkAt W bw g A n c xs M mc base s) => exEmbed_any 15 W h hb (by omega))
  clear h
  go_enter Try.func46, Try.ntmps46
  go_wp2_with fail
  refine HT.out.mono ?_
  rintro e w1 ⟨rfl, hb1⟩
  have HK1 := Lib.hid (Kept.of_below hb1 [g])
  have HW1 := Lib.hid (HW.out.low hb1)
  clear hb1
  go_wp2_with fail
  refine (HE.out _ HW1.out).mono ?_
  rintro e w2 ⟨rfl, hA, hk⟩
  have HA := Lib.hid hA
  have HK := Lib.hid (HK1.out.trans hk)
  clear hA hk
  go_wp2
  refine bodyPost_ret (v := .tuple #[.int .i64 s.top.lv, .int .i64 9]) (by simp [results, go_sem]) rfl ?_
  exact stepAns_of s.top.lv 9 _ (by simp [stepA, outX, leftC]) (by simp [stepA, stepB, embR, embO]) rfl HA.out HK.out
set_option maxRecDepth 100000 in
set_option maxHeartbeats 4000000 in
theorem exStep_20 (k : Nat) (hx : xs[k]? = some 20) (hn : n ≤ 100000) (hnc : n ≤ c) (hfm : ∀ y ∈ matF xs, Fit y) (w : World) (h : WlkAt w bw g A n c xs M mc base s) (hf : Few s 100000) : Calls Try.prog 46 #[.pointer (some ⟨bw, 0, none⟩), .int .i64 (k : Int), .int .i64 20] w fun e w' => StepAns w w' g xs base s k 20 e := by
  have HW := Lib.hid h
  have HH := Lib.hid (exHere_any 20 w h)
  have hb : s.a ≤ 100000000 := by have := hf.1; omega
  have hc : s.c ≤ 100000000 := by have := hf.2.2; omega
  clear h
  go_enter Try.func46, Try.ntmps46
  go_wp2_with fail
  refine HH.out.mono ?_
  rintro e w1 ⟨rfl, hb1⟩
  have HK1 := Lib.hid (Kept.of_below hb1 [g])
  have hW1 := HW.out.low hb1
  have HW1 := Lib.hid hW1
  have c0 := hW1.c0
  have HR := Lib.hid (fun W (k' : Below w1.heap.size w1 W) => exRight_any k 20 W (hW1.low k') hx hn hnc hfm)
  have HI := Lib.hid (fun r W (k' : Below w1.heap.size w1 W) => stkIsolate_any g s r W (hW1.st.low k') hb hc)
  clear hb1 hW1
  go_upto_region 13 with fail
  first | (go_region_law (first
    | (go_simp; go_at_call 55; refine (HR.out _ (by first | exact Below.refl _ _ | exact (Below.refl _ _).drew)).mono ?_; rintro e w3 ⟨⟨r, rfl, hri⟩, h4⟩; have hb3 : Below w1.heap.size w1 w3 := (by first | exact below_self (Below.refl _ _).drew h4 | exact h4); have y0 := cell_below hb3 c0)
    | (go_simp; go_at_call 23; refine (HI.out r _ hb3).mono ?_; rintro e w5 ⟨rfl, hA5, hk5⟩)
    | fail)) | fail
  all_goals (
    rw [hri] at hA5
    have HA := Lib.hid hA5
    have HK := Lib.hid (HK1.out.trans ((Kept.of_below hb3 [g]).trans hk5))
    clear hA5 hk5 hb3 h4 y0 hri
    go_wp2)
  all_goals refine bodyPost_ret (v := .tuple #[.int .i64 s.top.lv, .int .i64 (givS s 20)]) (by simp [results, go_sem]) rfl ?_
  all_goals exact stepAns_of s.top.lv (givS s 20) _ (by simp [stepA, outX, leftC]) (by unfold stepA stepB; simp [opB]) rfl HA.out HK.out
set_option maxRecDepth 100000 in
set_option maxHeartbeats 4000000 in
theorem exStep_19 (k : Nat) (hx : xs[k]? = some 19) (hn : n ≤ 100000) (hnc : n ≤ c) (hfm : ∀ y ∈ matF xs, Fit y) (w : World) (h : WlkAt w bw g A n c xs M mc base s) (hf : Few s 100000) : Calls Try.prog 46 #[.pointer (some ⟨bw, 0, none⟩), .int .i64 (k : Int), .int .i64 19] w fun e w' => StepAns w w' g xs base s k 19 e := by
  have HW := Lib.hid h
  have HH := Lib.hid (exHere_any 19 w h)
  have hb : s.a ≤ 100000000 := by have := hf.1; omega
  have hc : s.c ≤ 100000000 := by have := hf.2.2; omega
  clear h
  go_enter Try.func46, Try.ntmps46
  go_wp2_with fail
  refine HH.out.mono ?_
  rintro e w1 ⟨rfl, hb1⟩
  have HK1 := Lib.hid (Kept.of_below hb1 [g])
  have hW1 := HW.out.low hb1
  have HW1 := Lib.hid hW1
  have c0 := hW1.c0
  have HR := Lib.hid (fun W (k' : Below w1.heap.size w1 W) => exRight_any k 19 W (hW1.low k') hx hn hnc hfm)
  have HI := Lib.hid (fun r W (k' : Below w1.heap.size w1 W) => stkIsolate_any g s r W (hW1.st.low k') hb hc)
  clear hb1 hW1
  go_upto_region 13 with fail
  first | (go_region_law (first
    | (go_simp; go_at_call 55; refine (HR.out _ (by first | exact Below.refl _ _ | exact (Below.refl _ _).drew)).mono ?_; rintro e w3 ⟨⟨r, rfl, hri⟩, h4⟩; have hb3 : Below w1.heap.size w1 w3 := (by first | exact below_self (Below.refl _ _).drew h4 | exact h4); have y0 := cell_below hb3 c0)
    | (go_simp; go_at_call 23; refine (HI.out r _ hb3).mono ?_; rintro e w5 ⟨rfl, hA5, hk5⟩)
    | fail)) | fail
  all_goals (
    rw [hri] at hA5
    have HA := Lib.hid hA5
    have HK := Lib.hid (HK1.out.trans ((Kept.of_below hb3 [g]).trans hk5))
    clear hA5 hk5 hb3 h4 y0 hri
    go_wp2)
  all_goals refine bodyPost_ret (v := .tuple #[.int .i64 s.top.lv, .int .i64 (givS s 19)]) (by simp [results, go_sem]) rfl ?_
  all_goals exact stepAns_of s.top.lv (givS s 19) _ (by simp [stepA, outX, leftC]) (by unfold stepA stepB; simp [opB]) rfl HA.out HK.out
set_option maxRecDepth 100000 in
set_option maxHeartbeats 4000000 in
theorem exStep_21 (k : Nat) (hx : xs[k]? = some 21) (hn : n ≤ 100000) (hnc : n ≤ c) (hfm : ∀ y ∈ matF xs, Fit y) (w : World) (h : WlkAt w bw g A n c xs M mc base s) (hf : Few s 100000) : Calls Try.prog 46 #[.pointer (some ⟨bw, 0, none⟩), .int .i64 (k : Int), .int .i64 21] w fun e w' => StepAns w w' g xs base s k 21 e := by
  have HW := Lib.hid h
  have HH := Lib.hid (exHere_any 21 w h)
  have hb : s.a ≤ 100000000 := by have := hf.1; omega
  have hc : s.c ≤ 100000000 := by have := hf.2.2; omega
  clear h
  go_enter Try.func46, Try.ntmps46
  go_wp2_with fail
  refine HH.out.mono ?_
  rintro e w1 ⟨rfl, hb1⟩
  have HK1 := Lib.hid (Kept.of_below hb1 [g])
  have hW1 := HW.out.low hb1
  have HW1 := Lib.hid hW1
  have c0 := hW1.c0
  have HR := Lib.hid (fun W (k' : Below w1.heap.size w1 W) => exRight_any k 21 W (hW1.low k') hx hn hnc hfm)
  have HI := Lib.hid (fun r W (k' : Below w1.heap.size w1 W) => stkIsolate_any g s r W (hW1.st.low k') hb hc)
  clear hb1 hW1
  go_upto_region 13 with fail
  first | (go_region_law (first
    | (go_simp; go_at_call 55; refine (HR.out _ (by first | exact Below.refl _ _ | exact (Below.refl _ _).drew)).mono ?_; rintro e w3 ⟨⟨r, rfl, hri⟩, h4⟩; have hb3 : Below w1.heap.size w1 w3 := (by first | exact below_self (Below.refl _ _).drew h4 | exact h4); have y0 := cell_below hb3 c0)
    | (go_simp; go_at_call 23; refine (HI.out r _ hb3).mono ?_; rintro e w5 ⟨rfl, hA5, hk5⟩)
    | fail)) | fail
  all_goals (
    rw [hri] at hA5
    have HA := Lib.hid hA5
    have HK := Lib.hid (HK1.out.trans ((Kept.of_below hb3 [g]).trans hk5))
    clear hA5 hk5 hb3 h4 y0 hri
    go_wp2)
  all_goals refine bodyPost_ret (v := .tuple #[.int .i64 s.top.lv, .int .i64 (givS s 21)]) (by simp [results, go_sem]) rfl ?_
  all_goals exact stepAns_of s.top.lv (givS s 21) _ (by simp [stepA, outX, leftC]) (by unfold stepA stepB; simp [opB]) rfl HA.out HK.out
set_option maxRecDepth 100000 in
set_option maxHeartbeats 4000000 in
theorem exStep_22 (k : Nat) (w : World) (h : WlkAt w bw g A n c xs M mc base s) (hf : Few s 100000) : Calls Try.prog 46 #[.pointer (some ⟨bw, 0, none⟩), .int .i64 (k : Int), .int .i64 22] w fun e w' => StepAns w w' g xs base s k 22 e := by
  have HW := Lib.hid h
  have c0 := h.c0
  have hb : s.a ≤ 100000000 := by have := hf.1; omega
  have hc : s.c ≤ 100000000 := by have := hf.2.2; omega
  have HE := Lib.hid (stkEndI_any g s w h.st hb hc)
  clear h
  go_enter Try.func46, Try.ntmps46
  go_wp2_with fail
  refine HE.out.mono ?_
  rintro e w1 ⟨rfl, hA, hk⟩
  have HW1 := Lib.hid (HW.out.kept hk hA)
  have HK1 := Lib.hid hk
  clear hA hk
  go_wp2_with fail
  refine (exHere_any 22 w1 HW1.out).mono ?_
  rintro e w2 ⟨rfl, hb2⟩
  have HA := Lib.hid (HW1.out.low hb2).st
  have HK := Lib.hid (HK1.out.trans (Kept.of_below hb2 [g]))
  clear hb2
  go_wp2
  refine bodyPost_ret (v := .tuple #[.int .i64 (endIS s).top.lv, .int .i64 (givS (endIS s) 22)]) (by simp [results, go_sem]) rfl ?_
  exact stepAns_of (endIS s).top.lv (givS (endIS s) 22) _ (by simp [stepA, outX, leftC]) (by unfold stepA stepB; simp [opB]) rfl HA.out HK.out
set_option maxRecDepth 100000 in
set_option maxHeartbeats 4000000 in
theorem exStep_18 (k : Nat) (w : World) (h : WlkAt w bw g A n c xs M mc base s) (hf : Few s 100000) : Calls Try.prog 46 #[.pointer (some ⟨bw, 0, none⟩), .int .i64 (k : Int), .int .i64 18] w fun e w' => StepAns w w' g xs base s k 18 e := by
  have HW := Lib.hid h
  have c0 := h.c0
  have HT := Lib.hid (stkTop_any g s w h.st)
  unfold entV at HT
  have fd := ent_lv s.top.lv s.top.ov s.top.is
  have hb : s.b ≤ 100000000 := by have := hf.2.1; omega
  clear h
  go_enter Try.func46, Try.ntmps46
  go_wp2_with fail
  refine HT.out.mono ?_
  rintro e w1 ⟨rfl, hb1⟩
  have HK1 := Lib.hid (Kept.of_below hb1 [g])
  have hW1 := HW.out.low hb1
  have c01 := hW1.c0
  have HW1 := Lib.hid hW1
  clear hb1 hW1
  go_wp2_with fail
  refine (stkEndE_any g s w1 HW1.out.st hb).mono ?_
  rintro e w2 ⟨rfl, hA, hk⟩
  have HA := Lib.hid hA
  have HK := Lib.hid (HK1.out.trans hk)
  clear hA hk
  go_wp2
  refine bodyPost_ret (v := .tuple #[.int .i64 s.top.lv, .int .i64 9]) (by simp [results, go_sem]) rfl ?_
  exact stepAns_of s.top.lv 9 _ (by simp [stepA, outX, leftC]) (by unfold stepA stepB; simp) rfl HA.out HK.out
set_option maxRecDepth 100000 in
set_option maxHeartbeats 4000000 in
theorem exStep_10 (k : Nat) (w : World) (h : WlkAt w bw g A n c xs M mc base s) : Calls Try.prog 46 #[.pointer (some ⟨bw, 0, none⟩), .int .i64 (k : Int), .int .i64 10] w fun e w' => StepAns w w' g xs base s k 10 e := by
  have HW := Lib.hid h
  have c1 := h.c1
  clear h
  go_enter Try.func46, Try.ntmps46
  go_wp2
  refine bodyPost_ret (v := .tuple #[.int .i64 base, .int .i64 10]) (by simp [results, go_sem]) rfl ?_
  exact stepAns_of base 10 _ (by simp [outX]) (by unfold stepA stepB; simp [opB]) rfl HW.out.st (Kept.refl _ _)
set_option maxRecDepth 100000 in
set_option maxHeartbeats 4000000 in
theorem exStep_9 (k : Nat) (w : World) (h : WlkAt w bw g A n c xs M mc base s) : Calls Try.prog 46 #[.pointer (some ⟨bw, 0, none⟩), .int .i64 (k : Int), .int .i64 9] w fun e w' => StepAns w w' g xs base s k 9 e := by
  have HW := Lib.hid h
  have c0 := h.c0
  have HT := Lib.hid (stkTop_any g s w h.st)
  unfold entV at HT
  have fd := ent_lv s.top.lv s.top.ov s.top.is
  clear h
  go_enter Try.func46, Try.ntmps46
  go_wp2_with fail
  refine HT.out.mono ?_
  rintro e w1 ⟨rfl, hb1⟩
  have HA := Lib.hid (HW.out.low hb1).st
  have HK := Lib.hid (Kept.of_below hb1 [g])
  clear hb1
  go_wp2
  refine bodyPost_ret (v := .tuple #[.int .i64 s.top.lv, .int .i64 9]) (by simp [results, go_sem]) rfl ?_
  exact stepAns_of s.top.lv 9 _ (by simp [stepA, outX, leftC]) (by unfold stepA stepB; simp [opB]) rfl HA.out HK.out
set_option maxRecDepth 100000 in
set_option maxHeartbeats 4000000 in
theorem exStep_other (k : Nat) (x : Int) (hx : ¬ x = 16 ∧ ¬ x = 14 ∧ ¬ x = 17 ∧ ¬ x = 15 ∧ ¬ x = 20 ∧ ¬ x = 19 ∧ ¬ x = 21 ∧ ¬ x = 22 ∧ ¬ x = 18 ∧ ¬ x = 10 ∧ ¬ x = 9) (w : World) (h : WlkAt w bw g A n c xs M mc base s) : Calls Try.prog 46 #[.pointer (some ⟨bw, 0, none⟩), .int .i64 (k : Int), .int .i64 x] w fun e w' => StepAns w w' g xs base s k x e := by
  have HW := Lib.hid h
  have HH := Lib.hid (exHere_any x w h)
  clear h
  have g16 : (x == 16) = false := by simp; omega
  have g14 : (x == 14) = false := by simp; omega
  have g17 : (x == 17) = false := by simp; omega
  have g15 : (x == 15) = false := by simp; omega
  have g20 : (x == 20) = false := by simp; omega
  have g19 : (x == 19) = false := by simp; omega
  have g21 : (x == 21) = false := by simp; omega
  have g22 : (x == 22) = false := by simp; omega
  have g18 : (x == 18) = false := by simp; omega
  have g10 : (x == 10) = false := by simp; omega
  have g9 : (x == 9) = false := by simp; omega
  have HX := Lib.hid hx
  clear hx
  go_enter Try.func46, Try.ntmps46
  go_wp2_with fail
  refine HH.out.mono ?_
  rintro e w1 ⟨rfl, hb1⟩
  have HA := Lib.hid (HW.out.low hb1).st
  have HK := Lib.hid (Kept.of_below hb1 [g])
  clear hb1
  go_wp2
  refine bodyPost_ret (v := .tuple #[.int .i64 s.top.lv, .int .i64 (givS s x)]) (by simp [results, go_sem]) rfl ?_
  exact stepAns_of s.top.lv (givS s x) _ (by have hx := HX.out; unfold stepA; rw [if_neg (show ¬ x = 22 by omega)]; unfold outX; rw [if_neg (show ¬ x = 10 by omega), if_neg (by unfold leftC; simp; omega)]) (by have hx := HX.out; unfold stepA stepB; rw [if_neg (show ¬ x = 22 by omega), if_neg (by omega), if_neg (by omega), if_neg (by omega), if_neg (by omega), if_neg (by omega), if_neg (by rw [opB_iff]; omega)]) rfl HA.out HK.out
/-- A step, whatever the class. -/
theorem exStep_any (k : Nat) (x : Int) (w : World) (h : WlkAt w bw g A n c xs M mc base s) (hf : Few s 100000) (hx : xs[k]? = some x) (hn : n ≤ 100000) (hnc : n ≤ c) (hfm : ∀ y ∈ matF xs, Fit y) : Calls Try.prog 46 #[.pointer (some ⟨bw, 0, none⟩), .int .i64 (k : Int), .int .i64 x] w fun e w' => StepAns w w' g xs base s k x e := by
  by_cases h16 : x = 16
  · subst h16; exact exStep_16 k w h hf
  by_cases h14 : x = 14
  · subst h14; exact exStep_14 k w h hf
  by_cases h17 : x = 17
  · subst h17; exact exStep_17 k w h hf
  by_cases h15 : x = 15
  · subst h15; exact exStep_15 k w h hf
  by_cases h20 : x = 20
  · subst h20; exact exStep_20 k hx hn hnc hfm w h hf
  by_cases h19 : x = 19
  · subst h19; exact exStep_19 k hx hn hnc hfm w h hf
  by_cases h21 : x = 21
  · subst h21; exact exStep_21 k hx hn hnc hfm w h hf
  by_cases h22 : x = 22
  · subst h22; exact exStep_22 k w h hf
  by_cases h18 : x = 18
  · subst h18; exact exStep_18 k w h hf
  by_cases h10 : x = 10
  · subst h10; exact exStep_10 k w h
  by_cases h9 : x = 9
  · subst h9; exact exStep_9 k w h
  exact exStep_other k x ⟨h16, h14, h17, h15, h20, h19, h21, h22, h18, h10, h9⟩ w h
end
end Go.Proofs.Ytflbiblkphaagaa
