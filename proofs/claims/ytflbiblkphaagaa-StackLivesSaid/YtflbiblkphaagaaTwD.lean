/- naskhlaw21.do: a call of both stacks; naskhlaw21.same. -/
import Derived.Test.YtflbiblkphaagaaTwM
import Derived.Test.YtflbiblkphaagaaStkO
import Derived.Deep.RegionHeld3
import Derived.Deep.DeepCutAuto
namespace Go.Proofs.Ytflbiblkphaagaa
open Go.RowKit

/-- What a call of StackLives leaves. -/
def stepL (k : DoS) (s : Stk) : Stk :=
  if k.op = 0 then (pushS s ⟨k.n, k.o, k.r⟩).2 else if k.op = 1 then (popS s).2 else if k.op = 2 ∨ k.op = 3 ∨ k.op = 4 then (embS s k.r k.o).2 else if k.op = 5 ∨ k.op = 6 ∨ k.op = 7 then (isoS s k.r).2 else if k.op = 8 then endES s else endIS s
theorem few_push {s : Stk} {m : Nat} (h : Few s m) (e : Ent) : Few (pushS s e).2 m := by
  unfold pushS
  split
  · exact h
  · exact ⟨h.1, h.2.1, h.2.2⟩
theorem few_pop {s : Stk} {m : Nat} (h : Few s m) : Few (popS s).2 m := by
  unfold popS
  split
  · exact h
  · exact ⟨h.1, h.2.1, h.2.2⟩
theorem few_stepL {s : Stk} {m : Nat} (h : Few s m) (k : DoS) : Few (stepL k s) (m + 1) := by
  unfold stepL
  repeat' split
  · exact (few_push h _).up (by omega)
  · exact (few_pop h).up (by omega)
  · exact few_emb h _ _
  · exact few_iso h _
  · exact (few_endE h).up (by omega)
  · exact (few_endI h).up (by omega)
/-- What a call of both answers, and leaves. -/
def DoAns (w w' : World) (g b : Nat) (T : Stk) (e : Ending) : Prop := e = .returned (.bool true) ∧ TwoSt w' g b T ∧ Kept w w' [g, b]
set_option maxRecDepth 100000 in
set_option maxHeartbeats 2000000 in
theorem same_any (x : Ent) (w : World) : Calls Try.prog 15 #[entV x, entV x] w fun e w' => e = .returned (.bool true) ∧ Below w.heap.size w w' := by
  obtain ⟨lv, ov, is⟩ := x
  unfold entV
  have h1 := below_new w (.cells #[.int .i64 lv, .int .i64 ov, .bool is] 34)
  have h2 := below_new (w.alloc (.cells #[.int .i64 lv, .int .i64 ov, .bool is] 34)) (.cells #[.int .i64 lv, .int .i64 ov, .bool is] 36)
  have HB := Lib.hid (below_self h1 h2)
  have e1 : (lv == lv) = true := by simp
  have e2 : (ov == ov) = true := by simp
  have e3 : (is == is) = true := by simp
  clear h1 h2
  go_enter Try.func15, Try.ntmps15
  go_wp2
  go_ret
  exact ⟨rfl, HB.out⟩
section
variable {g b : Nat} {s : Stk}
set_option maxRecDepth 100000 in
set_option maxHeartbeats 4000000 in
theorem do_push (nn oo : Int) (rr : Bool) (w : World) (h : TwoSt w g b s) : Calls Try.prog 13 #[.pointer (some ⟨g, 0, none⟩), .pointer (some ⟨b, 0, none⟩), .agg #[.int .i64 0, .int .i64 nn, .bool rr, .int .i64 oo]] w fun e w' => DoAns w w' g b ((pushS s ⟨nn, oo, rr⟩).2) e := by
  obtain ⟨W, hW⟩ : ∃ W, w.alloc (.cells #[.int .i64 0, .int .i64 nn, .bool rr, .int .i64 oo] 28) = W := ⟨_, rfl⟩
  have hbn := below_new w (.cells #[.int .i64 0, .int .i64 nn, .bool rr, .int .i64 oo] 28)
  have cx := cells_new w [.int .i64 0, .int .i64 nn, .bool rr, .int .i64 oo] 28
  have c0 := cx 0 _ rfl
  have c1 := cx 1 _ rfl
  have c2 := cx 2 _ rfl
  have c3 := cx 3 _ rfl
  rw [addNew] at c0 c1 c2 c3
  rw [show (w.alloc (.cells [Value.int .i64 0, .int .i64 nn, .bool rr, .int .i64 oo].toArray 28)) = W from hW] at c0 c1 c2 c3
  rw [hW] at hbn
  have h0 := h.low hbn
  have hgl := h.p.lt
  have hbl := h.r.lt
  have HD := Lib.hid h0
  have HDR := Lib.hid (h0.low (Below.refl _ _).drew)
  have HK0 := Lib.hid (Kept.of_below hbn [g, b])
  obtain ⟨bx, hbx⟩ : ∃ bx, w.heap.size = bx := ⟨_, rfl⟩
  rw [hbx] at c0 c1 c2 c3 hgl hbl
  have hng : bx ∉ [g] := by simp; omega
  have hnb : bx ∉ [b] := by simp; omega
  clear hbn cx h h0
  have HP := Lib.hid (fun W (hp : StkAt W g s) => stkPush_any g s ⟨nn, oo, rr⟩ W hp)
  have HR := Lib.hid (fun W (hr : RsAt W b s) => rsPush_any b s ⟨nn, oo, rr⟩ W hr)
  unfold entV at HP HR
  simp only at HP HR
  obtain ⟨v, T, hT⟩ : ∃ v T, pushS s ⟨nn, oo, rr⟩ = (v, T) := ⟨_, _, rfl⟩
  rw [hT] at HP HR ⊢
  have hvv : (v == v) = true := by simp
  clear hT
  go_enter Try.func13, Try.ntmps13
  go_upto_region 5 with fail
  go_region_held3 (fun w' => w'.cell? ⟨bx, 1, none⟩ = some (.int .i64 nn) ∧ w'.cell? ⟨bx, 2, none⟩ = some (.bool rr) ∧ w'.cell? ⟨bx, 3, none⟩ = some (.int .i64 oo))
    (first
      | exact ⟨c1, c2, c3⟩
      | assumption
      | exact ⟨hk5.cell (hk4.cell c1 hng) hnb, hk5.cell (hk4.cell c2 hng) hnb, hk5.cell (hk4.cell c3 hng) hnb⟩
      | exact ⟨hk4.cell c1 hng, hk4.cell c2 hng, hk4.cell c3 hng⟩
      | exact ⟨hl5.cell (hl4.cell c1 hnb) hng, hl5.cell (hl4.cell c2 hnb) hng, hl5.cell (hl4.cell c3 hnb) hng⟩
      | exact ⟨hl4.cell c1 hnb, hl4.cell c2 hnb, hl4.cell c3 hnb⟩
      | fail)
    (first
      | (go_at_call 37; with_reducible refine (HR.out _ (HDR.out.ref1 hk4)).mono ?_; rintro e5 w5 ⟨rfl, hA5, hk5⟩; have hfin := HDR.out.step hA4 hk4 hA5 hk5)
      | (go_at_call 26; with_reducible refine (HP.out _ (HDR.out.prog1 hl4)).mono ?_; rintro e5 w5 ⟨rfl, hA5, hl5⟩; have hfin := HDR.out.step2 hA4 hl4 hA5 hl5)
      | (go_at_call 26; with_reducible refine (HP.out _ HDR.out.p).mono ?_; rintro e4 w4 ⟨rfl, hA4, hk4⟩)
      | (go_at_call 37; with_reducible refine (HR.out _ HDR.out.r).mono ?_; rintro e4 w4 ⟨rfl, hA4, hl4⟩)
      | fail)
  all_goals (
    have HF := Lib.hid hfin.1
    have HK := Lib.hid (HK0.out.trans (((Kept.refl W [g, b]).drew).trans hfin.2))
    clear hfin
    go_wp2
    go_ret
    exact ⟨rfl, HF.out, HK.out⟩)
set_option maxRecDepth 100000 in
set_option maxHeartbeats 4000000 in
theorem do_pop (nn oo : Int) (rr : Bool) (w : World) (h : TwoSt w g b s) : Calls Try.prog 13 #[.pointer (some ⟨g, 0, none⟩), .pointer (some ⟨b, 0, none⟩), .agg #[.int .i64 1, .int .i64 nn, .bool rr, .int .i64 oo]] w fun e w' => DoAns w w' g b ((popS s).2) e := by
  obtain ⟨W, hW⟩ : ∃ W, w.alloc (.cells #[.int .i64 1, .int .i64 nn, .bool rr, .int .i64 oo] 28) = W := ⟨_, rfl⟩
  have hbn := below_new w (.cells #[.int .i64 1, .int .i64 nn, .bool rr, .int .i64 oo] 28)
  have cx := cells_new w [.int .i64 1, .int .i64 nn, .bool rr, .int .i64 oo] 28
  have c0 := cx 0 _ rfl
  have c1 := cx 1 _ rfl
  have c2 := cx 2 _ rfl
  have c3 := cx 3 _ rfl
  rw [addNew] at c0 c1 c2 c3
  rw [show (w.alloc (.cells [Value.int .i64 1, .int .i64 nn, .bool rr, .int .i64 oo].toArray 28)) = W from hW] at c0 c1 c2 c3
  rw [hW] at hbn
  have h0 := h.low hbn
  have hgl := h.p.lt
  have hbl := h.r.lt
  have HD := Lib.hid h0
  have HDR := Lib.hid (h0.low (Below.refl _ _).drew)
  have HK0 := Lib.hid (Kept.of_below hbn [g, b])
  obtain ⟨bx, hbx⟩ : ∃ bx, w.heap.size = bx := ⟨_, rfl⟩
  rw [hbx] at c0 c1 c2 c3 hgl hbl
  have hng : bx ∉ [g] := by simp; omega
  have hnb : bx ∉ [b] := by simp; omega
  clear hbn cx h h0
  have HP := Lib.hid (fun W (hp : StkAt W g s) => stkPop_any g s W hp)
  have HR := Lib.hid (fun W (hr : RsAt W b s) => rsPop_any b s W hr)
  obtain ⟨v, T, hT⟩ : ∃ v T, popS s = (v, T) := ⟨_, _, rfl⟩
  rw [hT] at HP HR ⊢
  have hvv : (v == v) = true := by simp
  clear hT
  go_enter Try.func13, Try.ntmps13
  go_wp2_with fail
  refine (HP.out _ HD.out.p).mono ?_
  rintro e4 w4 ⟨rfl, hA4, hk4⟩
  have HA4 := Lib.hid hA4
  have HK4 := Lib.hid hk4
  clear hA4 hk4
  go_wp2_with fail
  refine (HR.out _ (HD.out.ref1 HK4.out)).mono ?_
  rintro e5 w5 ⟨rfl, hA5, hk5⟩
  have hfin := HD.out.step HA4.out HK4.out hA5 hk5
  have HF := Lib.hid hfin.1
  have HK := Lib.hid (HK0.out.trans hfin.2)
  clear hfin hA5 hk5
  go_wp2
  go_ret
  exact ⟨rfl, HF.out, HK.out⟩
set_option maxRecDepth 100000 in
set_option maxHeartbeats 4000000 in
theorem do_emb2 (nn oo : Int) (rr : Bool) (w : World) (h : TwoSt w g b s) (hf : Few s 10000) : Calls Try.prog 13 #[.pointer (some ⟨g, 0, none⟩), .pointer (some ⟨b, 0, none⟩), .agg #[.int .i64 2, .int .i64 nn, .bool rr, .int .i64 oo]] w fun e w' => DoAns w w' g b ((embS s rr oo).2) e := by
  have hb8 : s.b ≤ 100000000 := by have := hf.2.1; omega
  obtain ⟨W, hW⟩ : ∃ W, w.alloc (.cells #[.int .i64 2, .int .i64 nn, .bool rr, .int .i64 oo] 28) = W := ⟨_, rfl⟩
  have hbn := below_new w (.cells #[.int .i64 2, .int .i64 nn, .bool rr, .int .i64 oo] 28)
  have cx := cells_new w [.int .i64 2, .int .i64 nn, .bool rr, .int .i64 oo] 28
  have c0 := cx 0 _ rfl
  have c1 := cx 1 _ rfl
  have c2 := cx 2 _ rfl
  have c3 := cx 3 _ rfl
  rw [addNew] at c0 c1 c2 c3
  rw [show (w.alloc (.cells [Value.int .i64 2, .int .i64 nn, .bool rr, .int .i64 oo].toArray 28)) = W from hW] at c0 c1 c2 c3
  rw [hW] at hbn
  have h0 := h.low hbn
  have hgl := h.p.lt
  have hbl := h.r.lt
  have HD := Lib.hid h0
  have HDR := Lib.hid (h0.low (Below.refl _ _).drew)
  have HK0 := Lib.hid (Kept.of_below hbn [g, b])
  obtain ⟨bx, hbx⟩ : ∃ bx, w.heap.size = bx := ⟨_, rfl⟩
  rw [hbx] at c0 c1 c2 c3 hgl hbl
  have hng : bx ∉ [g] := by simp; omega
  have hnb : bx ∉ [b] := by simp; omega
  clear hbn cx h h0
  have HP := Lib.hid (fun W (hp : StkAt W g s) => stkEmbed_any g s rr oo W hp hb8)
  have HR := Lib.hid (fun W (hr : RsAt W b s) => rsEmbed_any b s rr oo W hr hb8)
  obtain ⟨v, T, hT⟩ : ∃ v T, embS s rr oo = (v, T) := ⟨_, _, rfl⟩
  rw [hT] at HP HR ⊢
  have hvv : (v == v) = true := by simp
  clear hT
  go_enter Try.func13, Try.ntmps13
  go_upto_region 11 with fail
  go_region_held3 (fun w' => w'.cell? ⟨bx, 1, none⟩ = some (.int .i64 nn) ∧ w'.cell? ⟨bx, 2, none⟩ = some (.bool rr) ∧ w'.cell? ⟨bx, 3, none⟩ = some (.int .i64 oo))
    (first
      | exact ⟨c1, c2, c3⟩
      | assumption
      | exact ⟨hk5.cell (hk4.cell c1 hng) hnb, hk5.cell (hk4.cell c2 hng) hnb, hk5.cell (hk4.cell c3 hng) hnb⟩
      | exact ⟨hk4.cell c1 hng, hk4.cell c2 hng, hk4.cell c3 hng⟩
      | exact ⟨hl5.cell (hl4.cell c1 hnb) hng, hl5.cell (hl4.cell c2 hnb) hng, hl5.cell (hl4.cell c3 hnb) hng⟩
      | exact ⟨hl4.cell c1 hnb, hl4.cell c2 hnb, hl4.cell c3 hnb⟩
      | fail)
    (first
      | (go_at_call 39; with_reducible refine (HR.out _ (HDR.out.ref1 hk4)).mono ?_; rintro e5 w5 ⟨rfl, hA5, hk5⟩; have hfin := HDR.out.step hA4 hk4 hA5 hk5)
      | (go_at_call 22; with_reducible refine (HP.out _ (HDR.out.prog1 hl4)).mono ?_; rintro e5 w5 ⟨rfl, hA5, hl5⟩; have hfin := HDR.out.step2 hA4 hl4 hA5 hl5)
      | (go_at_call 22; with_reducible refine (HP.out _ HDR.out.p).mono ?_; rintro e4 w4 ⟨rfl, hA4, hk4⟩)
      | (go_at_call 39; with_reducible refine (HR.out _ HDR.out.r).mono ?_; rintro e4 w4 ⟨rfl, hA4, hl4⟩)
      | fail)
  all_goals (
    have HF := Lib.hid hfin.1
    have HK := Lib.hid (HK0.out.trans (((Kept.refl W [g, b]).drew).trans hfin.2))
    clear hfin
    go_wp2
    go_ret
    exact ⟨rfl, HF.out, HK.out⟩)
set_option maxRecDepth 100000 in
set_option maxHeartbeats 4000000 in
theorem do_emb3 (nn oo : Int) (rr : Bool) (w : World) (h : TwoSt w g b s) (hf : Few s 10000) : Calls Try.prog 13 #[.pointer (some ⟨g, 0, none⟩), .pointer (some ⟨b, 0, none⟩), .agg #[.int .i64 3, .int .i64 nn, .bool rr, .int .i64 oo]] w fun e w' => DoAns w w' g b ((embS s rr oo).2) e := by
  have hb8 : s.b ≤ 100000000 := by have := hf.2.1; omega
  obtain ⟨W, hW⟩ : ∃ W, w.alloc (.cells #[.int .i64 3, .int .i64 nn, .bool rr, .int .i64 oo] 28) = W := ⟨_, rfl⟩
  have hbn := below_new w (.cells #[.int .i64 3, .int .i64 nn, .bool rr, .int .i64 oo] 28)
  have cx := cells_new w [.int .i64 3, .int .i64 nn, .bool rr, .int .i64 oo] 28
  have c0 := cx 0 _ rfl
  have c1 := cx 1 _ rfl
  have c2 := cx 2 _ rfl
  have c3 := cx 3 _ rfl
  rw [addNew] at c0 c1 c2 c3
  rw [show (w.alloc (.cells [Value.int .i64 3, .int .i64 nn, .bool rr, .int .i64 oo].toArray 28)) = W from hW] at c0 c1 c2 c3
  rw [hW] at hbn
  have h0 := h.low hbn
  have hgl := h.p.lt
  have hbl := h.r.lt
  have HD := Lib.hid h0
  have HDR := Lib.hid (h0.low (Below.refl _ _).drew)
  have HK0 := Lib.hid (Kept.of_below hbn [g, b])
  obtain ⟨bx, hbx⟩ : ∃ bx, w.heap.size = bx := ⟨_, rfl⟩
  rw [hbx] at c0 c1 c2 c3 hgl hbl
  have hng : bx ∉ [g] := by simp; omega
  have hnb : bx ∉ [b] := by simp; omega
  clear hbn cx h h0
  have HP := Lib.hid (fun W (hp : StkAt W g s) => stkEmbed_any g s rr oo W hp hb8)
  have HR := Lib.hid (fun W (hr : RsAt W b s) => rsEmbed_any b s rr oo W hr hb8)
  obtain ⟨v, T, hT⟩ : ∃ v T, embS s rr oo = (v, T) := ⟨_, _, rfl⟩
  rw [hT] at HP HR ⊢
  have hvv : (v == v) = true := by simp
  clear hT
  go_enter Try.func13, Try.ntmps13
  go_upto_region 11 with fail
  go_region_held3 (fun w' => w'.cell? ⟨bx, 1, none⟩ = some (.int .i64 nn) ∧ w'.cell? ⟨bx, 2, none⟩ = some (.bool rr) ∧ w'.cell? ⟨bx, 3, none⟩ = some (.int .i64 oo))
    (first
      | exact ⟨c1, c2, c3⟩
      | assumption
      | exact ⟨hk5.cell (hk4.cell c1 hng) hnb, hk5.cell (hk4.cell c2 hng) hnb, hk5.cell (hk4.cell c3 hng) hnb⟩
      | exact ⟨hk4.cell c1 hng, hk4.cell c2 hng, hk4.cell c3 hng⟩
      | exact ⟨hl5.cell (hl4.cell c1 hnb) hng, hl5.cell (hl4.cell c2 hnb) hng, hl5.cell (hl4.cell c3 hnb) hng⟩
      | exact ⟨hl4.cell c1 hnb, hl4.cell c2 hnb, hl4.cell c3 hnb⟩
      | fail)
    (first
      | (go_at_call 39; with_reducible refine (HR.out _ (HDR.out.ref1 hk4)).mono ?_; rintro e5 w5 ⟨rfl, hA5, hk5⟩; have hfin := HDR.out.step hA4 hk4 hA5 hk5)
      | (go_at_call 22; with_reducible refine (HP.out _ (HDR.out.prog1 hl4)).mono ?_; rintro e5 w5 ⟨rfl, hA5, hl5⟩; have hfin := HDR.out.step2 hA4 hl4 hA5 hl5)
      | (go_at_call 22; with_reducible refine (HP.out _ HDR.out.p).mono ?_; rintro e4 w4 ⟨rfl, hA4, hk4⟩)
      | (go_at_call 39; with_reducible refine (HR.out _ HDR.out.r).mono ?_; rintro e4 w4 ⟨rfl, hA4, hl4⟩)
      | fail)
  all_goals (
    have HF := Lib.hid hfin.1
    have HK := Lib.hid (HK0.out.trans (((Kept.refl W [g, b]).drew).trans hfin.2))
    clear hfin
    go_wp2
    go_ret
    exact ⟨rfl, HF.out, HK.out⟩)
set_option maxRecDepth 100000 in
set_option maxHeartbeats 4000000 in
theorem do_emb4 (nn oo : Int) (rr : Bool) (w : World) (h : TwoSt w g b s) (hf : Few s 10000) : Calls Try.prog 13 #[.pointer (some ⟨g, 0, none⟩), .pointer (some ⟨b, 0, none⟩), .agg #[.int .i64 4, .int .i64 nn, .bool rr, .int .i64 oo]] w fun e w' => DoAns w w' g b ((embS s rr oo).2) e := by
  have hb8 : s.b ≤ 100000000 := by have := hf.2.1; omega
  obtain ⟨W, hW⟩ : ∃ W, w.alloc (.cells #[.int .i64 4, .int .i64 nn, .bool rr, .int .i64 oo] 28) = W := ⟨_, rfl⟩
  have hbn := below_new w (.cells #[.int .i64 4, .int .i64 nn, .bool rr, .int .i64 oo] 28)
  have cx := cells_new w [.int .i64 4, .int .i64 nn, .bool rr, .int .i64 oo] 28
  have c0 := cx 0 _ rfl
  have c1 := cx 1 _ rfl
  have c2 := cx 2 _ rfl
  have c3 := cx 3 _ rfl
  rw [addNew] at c0 c1 c2 c3
  rw [show (w.alloc (.cells [Value.int .i64 4, .int .i64 nn, .bool rr, .int .i64 oo].toArray 28)) = W from hW] at c0 c1 c2 c3
  rw [hW] at hbn
  have h0 := h.low hbn
  have hgl := h.p.lt
  have hbl := h.r.lt
  have HD := Lib.hid h0
  have HDR := Lib.hid (h0.low (Below.refl _ _).drew)
  have HK0 := Lib.hid (Kept.of_below hbn [g, b])
  obtain ⟨bx, hbx⟩ : ∃ bx, w.heap.size = bx := ⟨_, rfl⟩
  rw [hbx] at c0 c1 c2 c3 hgl hbl
  have hng : bx ∉ [g] := by simp; omega
  have hnb : bx ∉ [b] := by simp; omega
  clear hbn cx h h0
  have HP := Lib.hid (fun W (hp : StkAt W g s) => stkEmbed_any g s rr oo W hp hb8)
  have HR := Lib.hid (fun W (hr : RsAt W b s) => rsEmbed_any b s rr oo W hr hb8)
  obtain ⟨v, T, hT⟩ : ∃ v T, embS s rr oo = (v, T) := ⟨_, _, rfl⟩
  rw [hT] at HP HR ⊢
  have hvv : (v == v) = true := by simp
  clear hT
  go_enter Try.func13, Try.ntmps13
  go_upto_region 11 with fail
  go_region_held3 (fun w' => w'.cell? ⟨bx, 1, none⟩ = some (.int .i64 nn) ∧ w'.cell? ⟨bx, 2, none⟩ = some (.bool rr) ∧ w'.cell? ⟨bx, 3, none⟩ = some (.int .i64 oo))
    (first
      | exact ⟨c1, c2, c3⟩
      | assumption
      | exact ⟨hk5.cell (hk4.cell c1 hng) hnb, hk5.cell (hk4.cell c2 hng) hnb, hk5.cell (hk4.cell c3 hng) hnb⟩
      | exact ⟨hk4.cell c1 hng, hk4.cell c2 hng, hk4.cell c3 hng⟩
      | exact ⟨hl5.cell (hl4.cell c1 hnb) hng, hl5.cell (hl4.cell c2 hnb) hng, hl5.cell (hl4.cell c3 hnb) hng⟩
      | exact ⟨hl4.cell c1 hnb, hl4.cell c2 hnb, hl4.cell c3 hnb⟩
      | fail)
    (first
      | (go_at_call 39; with_reducible refine (HR.out _ (HDR.out.ref1 hk4)).mono ?_; rintro e5 w5 ⟨rfl, hA5, hk5⟩; have hfin := HDR.out.step hA4 hk4 hA5 hk5)
      | (go_at_call 22; with_reducible refine (HP.out _ (HDR.out.prog1 hl4)).mono ?_; rintro e5 w5 ⟨rfl, hA5, hl5⟩; have hfin := HDR.out.step2 hA4 hl4 hA5 hl5)
      | (go_at_call 22; with_reducible refine (HP.out _ HDR.out.p).mono ?_; rintro e4 w4 ⟨rfl, hA4, hk4⟩)
      | (go_at_call 39; with_reducible refine (HR.out _ HDR.out.r).mono ?_; rintro e4 w4 ⟨rfl, hA4, hl4⟩)
      | fail)
  all_goals (
    have HF := Lib.hid hfin.1
    have HK := Lib.hid (HK0.out.trans (((Kept.refl W [g, b]).drew).trans hfin.2))
    clear hfin
    go_wp2
    go_ret
    exact ⟨rfl, HF.out, HK.out⟩)
set_option maxRecDepth 100000 in
set_option maxHeartbeats 4000000 in
theorem do_iso5 (nn oo : Int) (rr : Bool) (w : World) (h : TwoSt w g b s) (hf : Few s 10000) : Calls Try.prog 13 #[.pointer (some ⟨g, 0, none⟩), .pointer (some ⟨b, 0, none⟩), .agg #[.int .i64 5, .int .i64 nn, .bool rr, .int .i64 oo]] w fun e w' => DoAns w w' g b ((isoS s rr).2) e := by
  have ha8 : s.a ≤ 100000000 := by have := hf.1; omega
  have hc8 : s.c ≤ 100000000 := by have := hf.2.2; omega
  obtain ⟨W, hW⟩ : ∃ W, w.alloc (.cells #[.int .i64 5, .int .i64 nn, .bool rr, .int .i64 oo] 28) = W := ⟨_, rfl⟩
  have hbn := below_new w (.cells #[.int .i64 5, .int .i64 nn, .bool rr, .int .i64 oo] 28)
  have cx := cells_new w [.int .i64 5, .int .i64 nn, .bool rr, .int .i64 oo] 28
  have c0 := cx 0 _ rfl
  have c1 := cx 1 _ rfl
  have c2 := cx 2 _ rfl
  have c3 := cx 3 _ rfl
  rw [addNew] at c0 c1 c2 c3
  rw [show (w.alloc (.cells [Value.int .i64 5, .int .i64 nn, .bool rr, .int .i64 oo].toArray 28)) = W from hW] at c0 c1 c2 c3
  rw [hW] at hbn
  have h0 := h.low hbn
  have hgl := h.p.lt
  have hbl := h.r.lt
  have HD := Lib.hid h0
  have HDR := Lib.hid (h0.low (Below.refl _ _).drew)
  have HK0 := Lib.hid (Kept.of_below hbn [g, b])
  obtain ⟨bx, hbx⟩ : ∃ bx, w.heap.size = bx := ⟨_, rfl⟩
  rw [hbx] at c0 c1 c2 c3 hgl hbl
  have hng : bx ∉ [g] := by simp; omega
  have hnb : bx ∉ [b] := by simp; omega
  clear hbn cx h h0
  have HP := Lib.hid (fun W (hp : StkAt W g s) => stkIsolate_any g s rr W hp ha8 hc8)
  have HR := Lib.hid (fun W (hr : RsAt W b s) => rsIsolate_any b s rr W hr ha8 hc8)
  obtain ⟨v, T, hT⟩ : ∃ v T, isoS s rr = (v, T) := ⟨_, _, rfl⟩
  rw [hT] at HP HR ⊢
  have hvv : (v == v) = true := by simp
  clear hT
  go_enter Try.func13, Try.ntmps13
  go_upto_region 15 with fail
  go_region_held3 (fun w' => w'.cell? ⟨bx, 1, none⟩ = some (.int .i64 nn) ∧ w'.cell? ⟨bx, 2, none⟩ = some (.bool rr) ∧ w'.cell? ⟨bx, 3, none⟩ = some (.int .i64 oo))
    (first
      | exact ⟨c1, c2, c3⟩
      | assumption
      | exact ⟨hk5.cell (hk4.cell c1 hng) hnb, hk5.cell (hk4.cell c2 hng) hnb, hk5.cell (hk4.cell c3 hng) hnb⟩
      | exact ⟨hk4.cell c1 hng, hk4.cell c2 hng, hk4.cell c3 hng⟩
      | exact ⟨hl5.cell (hl4.cell c1 hnb) hng, hl5.cell (hl4.cell c2 hnb) hng, hl5.cell (hl4.cell c3 hnb) hng⟩
      | exact ⟨hl4.cell c1 hnb, hl4.cell c2 hnb, hl4.cell c3 hnb⟩
      | fail)
    (first
      | (go_at_call 40; with_reducible refine (HR.out _ (HDR.out.ref1 hk4)).mono ?_; rintro e5 w5 ⟨rfl, hA5, hk5⟩; have hfin := HDR.out.step hA4 hk4 hA5 hk5)
      | (go_at_call 23; with_reducible refine (HP.out _ (HDR.out.prog1 hl4)).mono ?_; rintro e5 w5 ⟨rfl, hA5, hl5⟩; have hfin := HDR.out.step2 hA4 hl4 hA5 hl5)
      | (go_at_call 23; with_reducible refine (HP.out _ HDR.out.p).mono ?_; rintro e4 w4 ⟨rfl, hA4, hk4⟩)
      | (go_at_call 40; with_reducible refine (HR.out _ HDR.out.r).mono ?_; rintro e4 w4 ⟨rfl, hA4, hl4⟩)
      | fail)
  all_goals (
    have HF := Lib.hid hfin.1
    have HK := Lib.hid (HK0.out.trans (((Kept.refl W [g, b]).drew).trans hfin.2))
    clear hfin
    go_wp2
    go_ret
    exact ⟨rfl, HF.out, HK.out⟩)
set_option maxRecDepth 100000 in
set_option maxHeartbeats 4000000 in
theorem do_iso6 (nn oo : Int) (rr : Bool) (w : World) (h : TwoSt w g b s) (hf : Few s 10000) : Calls Try.prog 13 #[.pointer (some ⟨g, 0, none⟩), .pointer (some ⟨b, 0, none⟩), .agg #[.int .i64 6, .int .i64 nn, .bool rr, .int .i64 oo]] w fun e w' => DoAns w w' g b ((isoS s rr).2) e := by
  have ha8 : s.a ≤ 100000000 := by have := hf.1; omega
  have hc8 : s.c ≤ 100000000 := by have := hf.2.2; omega
  obtain ⟨W, hW⟩ : ∃ W, w.alloc (.cells #[.int .i64 6, .int .i64 nn, .bool rr, .int .i64 oo] 28) = W := ⟨_, rfl⟩
  have hbn := below_new w (.cells #[.int .i64 6, .int .i64 nn, .bool rr, .int .i64 oo] 28)
  have cx := cells_new w [.int .i64 6, .int .i64 nn, .bool rr, .int .i64 oo] 28
  have c0 := cx 0 _ rfl
  have c1 := cx 1 _ rfl
  have c2 := cx 2 _ rfl
  have c3 := cx 3 _ rfl
  rw [addNew] at c0 c1 c2 c3
  rw [show (w.alloc (.cells [Value.int .i64 6, .int .i64 nn, .bool rr, .int .i64 oo].toArray 28)) = W from hW] at c0 c1 c2 c3
  rw [hW] at hbn
  have h0 := h.low hbn
  have hgl := h.p.lt
  have hbl := h.r.lt
  have HD := Lib.hid h0
  have HDR := Lib.hid (h0.low (Below.refl _ _).drew)
  have HK0 := Lib.hid (Kept.of_below hbn [g, b])
  obtain ⟨bx, hbx⟩ : ∃ bx, w.heap.size = bx := ⟨_, rfl⟩
  rw [hbx] at c0 c1 c2 c3 hgl hbl
  have hng : bx ∉ [g] := by simp; omega
  have hnb : bx ∉ [b] := by simp; omega
  clear hbn cx h h0
  have HP := Lib.hid (fun W (hp : StkAt W g s) => stkIsolate_any g s rr W hp ha8 hc8)
  have HR := Lib.hid (fun W (hr : RsAt W b s) => rsIsolate_any b s rr W hr ha8 hc8)
  obtain ⟨v, T, hT⟩ : ∃ v T, isoS s rr = (v, T) := ⟨_, _, rfl⟩
  rw [hT] at HP HR ⊢
  have hvv : (v == v) = true := by simp
  clear hT
  go_enter Try.func13, Try.ntmps13
  go_upto_region 15 with fail
  go_region_held3 (fun w' => w'.cell? ⟨bx, 1, none⟩ = some (.int .i64 nn) ∧ w'.cell? ⟨bx, 2, none⟩ = some (.bool rr) ∧ w'.cell? ⟨bx, 3, none⟩ = some (.int .i64 oo))
    (first
      | exact ⟨c1, c2, c3⟩
      | assumption
      | exact ⟨hk5.cell (hk4.cell c1 hng) hnb, hk5.cell (hk4.cell c2 hng) hnb, hk5.cell (hk4.cell c3 hng) hnb⟩
      | exact ⟨hk4.cell c1 hng, hk4.cell c2 hng, hk4.cell c3 hng⟩
      | exact ⟨hl5.cell (hl4.cell c1 hnb) hng, hl5.cell (hl4.cell c2 hnb) hng, hl5.cell (hl4.cell c3 hnb) hng⟩
      | exact ⟨hl4.cell c1 hnb, hl4.cell c2 hnb, hl4.cell c3 hnb⟩
      | fail)
    (first
      | (go_at_call 40; with_reducible refine (HR.out _ (HDR.out.ref1 hk4)).mono ?_; rintro e5 w5 ⟨rfl, hA5, hk5⟩; have hfin := HDR.out.step hA4 hk4 hA5 hk5)
      | (go_at_call 23; with_reducible refine (HP.out _ (HDR.out.prog1 hl4)).mono ?_; rintro e5 w5 ⟨rfl, hA5, hl5⟩; have hfin := HDR.out.step2 hA4 hl4 hA5 hl5)
      | (go_at_call 23; with_reducible refine (HP.out _ HDR.out.p).mono ?_; rintro e4 w4 ⟨rfl, hA4, hk4⟩)
      | (go_at_call 40; with_reducible refine (HR.out _ HDR.out.r).mono ?_; rintro e4 w4 ⟨rfl, hA4, hl4⟩)
      | fail)
  all_goals (
    have HF := Lib.hid hfin.1
    have HK := Lib.hid (HK0.out.trans (((Kept.refl W [g, b]).drew).trans hfin.2))
    clear hfin
    go_wp2
    go_ret
    exact ⟨rfl, HF.out, HK.out⟩)
set_option maxRecDepth 100000 in
set_option maxHeartbeats 4000000 in
theorem do_iso7 (nn oo : Int) (rr : Bool) (w : World) (h : TwoSt w g b s) (hf : Few s 10000) : Calls Try.prog 13 #[.pointer (some ⟨g, 0, none⟩), .pointer (some ⟨b, 0, none⟩), .agg #[.int .i64 7, .int .i64 nn, .bool rr, .int .i64 oo]] w fun e w' => DoAns w w' g b ((isoS s rr).2) e := by
  have ha8 : s.a ≤ 100000000 := by have := hf.1; omega
  have hc8 : s.c ≤ 100000000 := by have := hf.2.2; omega
  obtain ⟨W, hW⟩ : ∃ W, w.alloc (.cells #[.int .i64 7, .int .i64 nn, .bool rr, .int .i64 oo] 28) = W := ⟨_, rfl⟩
  have hbn := below_new w (.cells #[.int .i64 7, .int .i64 nn, .bool rr, .int .i64 oo] 28)
  have cx := cells_new w [.int .i64 7, .int .i64 nn, .bool rr, .int .i64 oo] 28
  have c0 := cx 0 _ rfl
  have c1 := cx 1 _ rfl
  have c2 := cx 2 _ rfl
  have c3 := cx 3 _ rfl
  rw [addNew] at c0 c1 c2 c3
  rw [show (w.alloc (.cells [Value.int .i64 7, .int .i64 nn, .bool rr, .int .i64 oo].toArray 28)) = W from hW] at c0 c1 c2 c3
  rw [hW] at hbn
  have h0 := h.low hbn
  have hgl := h.p.lt
  have hbl := h.r.lt
  have HD := Lib.hid h0
  have HDR := Lib.hid (h0.low (Below.refl _ _).drew)
  have HK0 := Lib.hid (Kept.of_below hbn [g, b])
  obtain ⟨bx, hbx⟩ : ∃ bx, w.heap.size = bx := ⟨_, rfl⟩
  rw [hbx] at c0 c1 c2 c3 hgl hbl
  have hng : bx ∉ [g] := by simp; omega
  have hnb : bx ∉ [b] := by simp; omega
  clear hbn cx h h0
  have HP := Lib.hid (fun W (hp : StkAt W g s) => stkIsolate_any g s rr W hp ha8 hc8)
  have HR := Lib.hid (fun W (hr : RsAt W b s) => rsIsolate_any b s rr W hr ha8 hc8)
  obtain ⟨v, T, hT⟩ : ∃ v T, isoS s rr = (v, T) := ⟨_, _, rfl⟩
  rw [hT] at HP HR ⊢
  have hvv : (v == v) = true := by simp
  clear hT
  go_enter Try.func13, Try.ntmps13
  go_upto_region 15 with fail
  go_region_held3 (fun w' => w'.cell? ⟨bx, 1, none⟩ = some (.int .i64 nn) ∧ w'.cell? ⟨bx, 2, none⟩ = some (.bool rr) ∧ w'.cell? ⟨bx, 3, none⟩ = some (.int .i64 oo))
    (first
      | exact ⟨c1, c2, c3⟩
      | assumption
      | exact ⟨hk5.cell (hk4.cell c1 hng) hnb, hk5.cell (hk4.cell c2 hng) hnb, hk5.cell (hk4.cell c3 hng) hnb⟩
      | exact ⟨hk4.cell c1 hng, hk4.cell c2 hng, hk4.cell c3 hng⟩
      | exact ⟨hl5.cell (hl4.cell c1 hnb) hng, hl5.cell (hl4.cell c2 hnb) hng, hl5.cell (hl4.cell c3 hnb) hng⟩
      | exact ⟨hl4.cell c1 hnb, hl4.cell c2 hnb, hl4.cell c3 hnb⟩
      | fail)
    (first
      | (go_at_call 40; with_reducible refine (HR.out _ (HDR.out.ref1 hk4)).mono ?_; rintro e5 w5 ⟨rfl, hA5, hk5⟩; have hfin := HDR.out.step hA4 hk4 hA5 hk5)
      | (go_at_call 23; with_reducible refine (HP.out _ (HDR.out.prog1 hl4)).mono ?_; rintro e5 w5 ⟨rfl, hA5, hl5⟩; have hfin := HDR.out.step2 hA4 hl4 hA5 hl5)
      | (go_at_call 23; with_reducible refine (HP.out _ HDR.out.p).mono ?_; rintro e4 w4 ⟨rfl, hA4, hk4⟩)
      | (go_at_call 40; with_reducible refine (HR.out _ HDR.out.r).mono ?_; rintro e4 w4 ⟨rfl, hA4, hl4⟩)
      | fail)
  all_goals (
    have HF := Lib.hid hfin.1
    have HK := Lib.hid (HK0.out.trans (((Kept.refl W [g, b]).drew).trans hfin.2))
    clear hfin
    go_wp2
    go_ret
    exact ⟨rfl, HF.out, HK.out⟩)
set_option maxRecDepth 100000 in
set_option maxHeartbeats 4000000 in
theorem do_endE (nn oo : Int) (rr : Bool) (w : World) (h : TwoSt w g b s) (hf : Few s 10000) : Calls Try.prog 13 #[.pointer (some ⟨g, 0, none⟩), .pointer (some ⟨b, 0, none⟩), .agg #[.int .i64 8, .int .i64 nn, .bool rr, .int .i64 oo]] w fun e w' => DoAns w w' g b (endES s) e := by
  have hb8 : s.b ≤ 100000000 := by have := hf.2.1; omega
  obtain ⟨W, hW⟩ : ∃ W, w.alloc (.cells #[.int .i64 8, .int .i64 nn, .bool rr, .int .i64 oo] 28) = W := ⟨_, rfl⟩
  have hbn := below_new w (.cells #[.int .i64 8, .int .i64 nn, .bool rr, .int .i64 oo] 28)
  have cx := cells_new w [.int .i64 8, .int .i64 nn, .bool rr, .int .i64 oo] 28
  have c0 := cx 0 _ rfl
  have c1 := cx 1 _ rfl
  have c2 := cx 2 _ rfl
  have c3 := cx 3 _ rfl
  rw [addNew] at c0 c1 c2 c3
  rw [show (w.alloc (.cells [Value.int .i64 8, .int .i64 nn, .bool rr, .int .i64 oo].toArray 28)) = W from hW] at c0 c1 c2 c3
  rw [hW] at hbn
  have h0 := h.low hbn
  have hgl := h.p.lt
  have hbl := h.r.lt
  have HD := Lib.hid h0
  have HDR := Lib.hid (h0.low (Below.refl _ _).drew)
  have HK0 := Lib.hid (Kept.of_below hbn [g, b])
  obtain ⟨bx, hbx⟩ : ∃ bx, w.heap.size = bx := ⟨_, rfl⟩
  rw [hbx] at c0 c1 c2 c3 hgl hbl
  have hng : bx ∉ [g] := by simp; omega
  have hnb : bx ∉ [b] := by simp; omega
  clear hbn cx h h0
  have HP := Lib.hid (fun W (hp : StkAt W g s) => stkEndE_any g s W hp hb8)
  have HR := Lib.hid (fun W (hr : RsAt W b s) => rsEndE_any b s W hr hb8)
  obtain ⟨T, hT⟩ : ∃ T, endES s = T := ⟨_, rfl⟩
  rw [hT] at HP HR ⊢
  clear hT
  go_enter Try.func13, Try.ntmps13
  go_wp2_with fail
  refine (HP.out _ HD.out.p).mono ?_
  rintro e4 w4 ⟨rfl, hA4, hk4⟩
  have HA4 := Lib.hid hA4
  have HK4 := Lib.hid hk4
  clear hA4 hk4
  go_wp2_with fail
  refine (HR.out _ (HD.out.ref1 HK4.out)).mono ?_
  rintro e5 w5 ⟨rfl, hA5, hk5⟩
  have hfin := HD.out.step HA4.out HK4.out hA5 hk5
  have HF := Lib.hid hfin.1
  have HK := Lib.hid (HK0.out.trans hfin.2)
  clear hfin hA5 hk5
  go_wp2
  go_ret
  exact ⟨rfl, HF.out, HK.out⟩
set_option maxRecDepth 100000 in
set_option maxHeartbeats 4000000 in
theorem do_endI (op nn oo : Int) (rr : Bool) (w : World) (h : TwoSt w g b s) (hf : Few s 10000) (hop : ¬ op = 0 ∧ ¬ op = 1 ∧ ¬ op = 2 ∧ ¬ op = 3 ∧ ¬ op = 4 ∧ ¬ op = 5 ∧ ¬ op = 6 ∧ ¬ op = 7 ∧ ¬ op = 8) : Calls Try.prog 13 #[.pointer (some ⟨g, 0, none⟩), .pointer (some ⟨b, 0, none⟩), .agg #[.int .i64 op, .int .i64 nn, .bool rr, .int .i64 oo]] w fun e w' => DoAns w w' g b (endIS s) e := by
  have ha8 : s.a ≤ 100000000 := by have := hf.1; omega
  have hc8 : s.c ≤ 100000000 := by have := hf.2.2; omega
  obtain ⟨W, hW⟩ : ∃ W, w.alloc (.cells #[.int .i64 op, .int .i64 nn, .bool rr, .int .i64 oo] 28) = W := ⟨_, rfl⟩
  have hbn := below_new w (.cells #[.int .i64 op, .int .i64 nn, .bool rr, .int .i64 oo] 28)
  have cx := cells_new w [.int .i64 op, .int .i64 nn, .bool rr, .int .i64 oo] 28
  have c0 := cx 0 _ rfl
  have c1 := cx 1 _ rfl
  have c2 := cx 2 _ rfl
  have c3 := cx 3 _ rfl
  rw [addNew] at c0 c1 c2 c3
  rw [show (w.alloc (.cells [Value.int .i64 op, .int .i64 nn, .bool rr, .int .i64 oo].toArray 28)) = W from hW] at c0 c1 c2 c3
  rw [hW] at hbn
  have h0 := h.low hbn
  have hgl := h.p.lt
  have hbl := h.r.lt
  have HD := Lib.hid h0
  have HDR := Lib.hid (h0.low (Below.refl _ _).drew)
  have HK0 := Lib.hid (Kept.of_below hbn [g, b])
  obtain ⟨bx, hbx⟩ : ∃ bx, w.heap.size = bx := ⟨_, rfl⟩
  rw [hbx] at c0 c1 c2 c3 hgl hbl
  have hng : bx ∉ [g] := by simp; omega
  have hnb : bx ∉ [b] := by simp; omega
  clear hbn cx h h0
  have HP := Lib.hid (fun W (hp : StkAt W g s) => stkEndI_any g s W hp ha8 hc8)
  have HR := Lib.hid (fun W (hr : RsAt W b s) => rsEndI_any b s W hr ha8 hc8)
  obtain ⟨T, hT⟩ : ∃ T, endIS s = T := ⟨_, rfl⟩
  rw [hT] at HP HR ⊢
  clear hT
  have g0 : (op == 0) = false := by simp; omega
  have g1 : (op == 1) = false := by simp; omega
  have g2 : (op == 2) = false := by simp; omega
  have g3 : (op == 3) = false := by simp; omega
  have g4 : (op == 4) = false := by simp; omega
  have g5 : (op == 5) = false := by simp; omega
  have g6 : (op == 6) = false := by simp; omega
  have g7 : (op == 7) = false := by simp; omega
  have g8 : (op == 8) = false := by simp; omega
  clear hop
  go_enter Try.func13, Try.ntmps13
  go_wp2_with fail
  refine (HP.out _ HD.out.p).mono ?_
  rintro e4 w4 ⟨rfl, hA4, hk4⟩
  have HA4 := Lib.hid hA4
  have HK4 := Lib.hid hk4
  clear hA4 hk4
  go_wp2_with fail
  refine (HR.out _ (HD.out.ref1 HK4.out)).mono ?_
  rintro e5 w5 ⟨rfl, hA5, hk5⟩
  have hfin := HD.out.step HA4.out HK4.out hA5 hk5
  have HF := Lib.hid hfin.1
  have HK := Lib.hid (HK0.out.trans hfin.2)
  clear hfin hA5 hk5
  go_wp2
  go_ret
  exact ⟨rfl, HF.out, HK.out⟩
/-- A call of both, whatever it is. -/
theorem do_any (k : DoS) (w : World) (h : TwoSt w g b s) (hf : Few s 10000) : Calls Try.prog 13 #[.pointer (some ⟨g, 0, none⟩), .pointer (some ⟨b, 0, none⟩), .agg #[.int .i64 k.op, .int .i64 k.n, .bool k.r, .int .i64 k.o]] w fun e w' => DoAns w w' g b (stepL k s) e := by
  obtain ⟨op, nn, rr, oo⟩ := k
  unfold stepL
  simp only
  by_cases h0 : op = 0
  · subst h0
    simpa using do_push nn oo rr w h
  by_cases h1 : op = 1
  · subst h1
    simpa using do_pop nn oo rr w h
  by_cases h2 : op = 2
  · subst h2
    simpa using do_emb2 nn oo rr w h hf
  by_cases h3 : op = 3
  · subst h3
    simpa using do_emb3 nn oo rr w h hf
  by_cases h4 : op = 4
  · subst h4
    simpa using do_emb4 nn oo rr w h hf
  by_cases h5 : op = 5
  · subst h5
    simpa using do_iso5 nn oo rr w h hf
  by_cases h6 : op = 6
  · subst h6
    simpa using do_iso6 nn oo rr w h hf
  by_cases h7 : op = 7
  · subst h7
    simpa using do_iso7 nn oo rr w h hf
  by_cases h8 : op = 8
  · subst h8
    simpa using do_endE nn oo rr w h hf
  rw [if_neg h0, if_neg h1, if_neg (by omega), if_neg (by omega), if_neg h8]
  exact do_endI op nn oo rr w h hf ⟨h0, h1, h2, h3, h4, h5, h6, h7, h8⟩
end
end Go.Proofs.Ytflbiblkphaagaa
