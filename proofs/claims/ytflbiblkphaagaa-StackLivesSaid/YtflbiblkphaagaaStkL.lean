/- naskhlaw21.StackLives, walked. -/
import Derived.Test.YtflbiblkphaagaaTwD
import Derived.Test.YtflbiblkphaagaaStkA
import Derived.Test.YtflbiblkphaagaaStkO
import Derived.Deep.RegionHeld3
import Derived.Deep.DeepCutAuto
import Derived.Deep.CutBlock
namespace Go.Proofs.Ytflbiblkphaagaa
open Go.RowKit

set_option maxRecDepth 100000 in
set_option maxHeartbeats 8000000 in
theorem stackLives_any (level : Int) (A : Option Addr) (n c : Nat) (l : List DoS) (w : World) (hr : Rd w 4 A n (l.flatMap encD)) (hl : l.length = n) (hn : n ≤ maxLen) :
    Calls Try.prog 3 #[.int .i64 level, .slice A n c] w fun e w' => e = .returned (.bool true) ∧ Below w.heap.size w w' := by
  unfold maxLen at hn
  have HL := Lib.hid hl
  have HR := Lib.hid hr
  obtain ⟨g, hg⟩ : ∃ g, w.heap.size = g := ⟨_, rfl⟩
  have HN := Lib.hid (stkNew_any level w)
  rw [hg] at HN
  have HG := Lib.hid hg
  rw [hg]
  clear hl hr hg
  go_enter Try.func3, Try.ntmps3
  go_wp2_with fail
  refine HN.out.mono ?_
  rintro e w1 ⟨rfl, hA1, hb1⟩
  have HA1 := Lib.hid hA1
  have HB1 := Lib.hid hb1
  clear hA1 hb1
  go_wp2_with fail
  refine (rsNew_any level w1).mono ?_
  rintro e w2 ⟨⟨b, rfl, hB2, hbl⟩, hb2⟩
  have HT2 : Hid (TwoSt w2 g b (newS level)) := Lib.hid ⟨HA1.out.low hb2, hB2, by have := HA1.out.lt; omega⟩
  have HBB2 : Hid (Below g w w2) := Lib.hid (by have := HG.out; subst this; exact below_self HB1.out hb2)
  clear hB2 hbl hb2
  go_wp2_with fail
  go_loopw [20] (fun i wr => ∃ k : Nat, ∃ s : Stk, k ≤ n ∧ k ≤ 400 ∧ i = .int .i64 (k : Int) ∧ TwoSt wr g b s ∧ Few s k ∧ Below g w wr) (fun i _ => n - (intOf i).toNat)
  case atStart => exact ⟨0, newS level, Nat.zero_le _, by omega, rfl, HT2.out, ⟨by simp [newS], by simp [newS], by simp [newS]⟩, HBB2.out⟩
  case round =>
    obtain ⟨k, s, hk, hk4, rfl, hA, hF, hB⟩ := hrel
    have HA := Lib.hid hA
    have HF := Lib.hid hF
    have HB := Lib.hid hB
    by_cases hlt : k < n
    · obtain ⟨x, hx⟩ : ∃ x, l[k]? = some x := ⟨_, List.getElem?_eq_getElem (by rw [HL.out]; exact hlt)⟩
      have hRd : Rd wr 4 A n (l.flatMap encD) := HR.out.below (by have := HG.out; subst this; exact hB)
      obtain ⟨ad, rfl, hab, c0, c1, c2, c3⟩ := hRd.doS hx
      obtain ⟨op, nn, rr, oo⟩ := x
      simp only at c0 c1 c2 c3
      have hkn : (k : Int) < (n : Int) := by omega
      have hk0 : (0 : Int) ≤ (k : Int) := by omega
      clear hA hF hB hRd hx
      by_cases h4 : k < 400
      · have hd4 : decide ((400 : Int) ≤ (k : Int)) = false := by simp; omega
        have h4' : (k : Int) < 400 := by omega
        obtain ⟨W, hW⟩ : ∃ W, wr.alloc (.cells #[.int .i64 op, .int .i64 nn, .bool rr, .int .i64 oo] 28) = W := ⟨_, rfl⟩
        have hbn := below_new wr (.cells #[.int .i64 op, .int .i64 nn, .bool rr, .int .i64 oo] 28)
        have cx := cells_new wr [.int .i64 op, .int .i64 nn, .bool rr, .int .i64 oo] 28
        have cx0 := cx 0 _ rfl
        have cx1 := cx 1 _ rfl
        have cx2 := cx 2 _ rfl
        have cx3 := cx 3 _ rfl
        rw [addNew] at cx0 cx1 cx2 cx3
        rw [show (wr.alloc (.cells [Value.int .i64 op, .int .i64 nn, .bool rr, .int .i64 oo].toArray 28)) = W from hW] at cx0 cx1 cx2 cx3
        rw [hW] at hbn
        have HAW := Lib.hid (HA.out.low hbn)
        have HBW : Hid (Below g w W) := Lib.hid (by have := HG.out; subst this; exact below_self HB.out hbn)
        have hgb : g < wr.heap.size := HA.out.p.lt
        have hbb : b < wr.heap.size := HA.out.r.lt
        obtain ⟨bx, hbx⟩ : ∃ bx, wr.heap.size = bx := ⟨_, rfl⟩
        rw [hbx] at cx0 cx1 cx2 cx3 hgb hbb
        have HNI : Hid (bx ∉ [g, b]) := Lib.hid (by simp; omega)
        have HDO := Lib.hid (do_any ⟨op, nn, rr, oo⟩ W HAW.out (HF.out.up (by omega)))
        have HTF := Lib.hid (few_stepL HF.out ⟨op, nn, rr, oo⟩)
        obtain ⟨T, hT⟩ : ∃ T, stepL ⟨op, nn, rr, oo⟩ s = T := ⟨_, rfl⟩
        rw [hT] at HDO HTF
        clear hbn cx hT
        go_wp2_with fail
        refine HDO.out.mono ?_
        rintro e w3 ⟨rfl, hA3, hk3⟩
        have HA3 := Lib.hid hA3
        have HB3 : Hid (Below g w w3) := Lib.hid (by
          have h1 := HAW.out.sep
          have h2 := HBW.out.size
          have h3 := HG.out
          subst h3
          exact hk3.lower HBW.out h2 (by simp; omega))
        have d2 := hk3.cell cx2 HNI.out
        clear hA3 hk3 c0 c1 c2 c3 cx0 cx1 cx2 cx3
        go_wp2_with fail
        refine (stkOver_any g T w3 HA3.out.p).mono ?_
        rintro e w4 ⟨rfl, hb4⟩
        have hA4 := HA3.out.low hb4
        have HA4 := Lib.hid hA4
        have HB4 : Hid (Below g w w4) := Lib.hid (by have := HG.out; subst this; exact below_self HB3.out hb4)
        have e2 := cell_below hb4 d2
        obtain ⟨ad2, c2', f0, _, _, _, _, _, _, _⟩ := hA4.r.sl
        have f1 := hA4.r.ca
        have f2 := hA4.r.cb
        have f3 := hA4.r.cc
        obtain ⟨q, hq⟩ : ∃ q, T.R.length + 1 = q := ⟨_, rfl⟩
        have hqi : (T.R.length : Int) + 1 = (q : Int) := by omega
        have HTP := Lib.hid (fun W (k : Below w4.heap.size w4 W) => stkTop_any g T W (hA4.p.low k))
        have HTR := Lib.hid (fun W (k : Below w4.heap.size w4 W) => rsTop_any b T W (hA4.r.low k))
        have HSM := Lib.hid (fun W => same_any T.top W)
        have HLP := Lib.hid (fun W (k : Below w4.heap.size w4 W) => stkLen_any g T W (hA4.p.low k))
        have HNP := Lib.hid (fun W (k : Below w4.heap.size w4 W) => stkNext_any g T rr W (hA4.p.low k))
        have HNR := Lib.hid (fun W (k : Below w4.heap.size w4 W) => rsNext_any b T rr W (hA4.r.low k))
        unfold entV at HTP HTR HSM
        rw [hqi] at HLP
        rw [hq] at f0
        obtain ⟨y, hy⟩ : ∃ y, nextS T rr = y := ⟨_, rfl⟩
        rw [hy] at HNP HNR
        have n1 : ((q : Int) != (q : Int)) = false := by simp
        have n2 : ((T.a : Int) != (T.a : Int)) = false := by simp
        have n3 : ((T.b : Int) != (T.b : Int)) = false := by simp
        have n4 : ((T.c : Int) != (T.c : Int)) = false := by simp
        have n5 : (y != y) = false := by simp
        clear hA4 hb4 d2 hq hqi hy
        go_upto_region 11 with fail
        go_region_held3 (fun w' => w'.cell? ⟨bx, 2, none⟩ = some (.bool rr) ∧ w'.cell? ⟨b, 0, none⟩ = some (.slice (some ad2) q c2') ∧ w'.cell? ⟨b, 1, none⟩ = some (.int .i64 (T.a : Int)) ∧ w'.cell? ⟨b, 2, none⟩ = some (.int .i64 (T.b : Int)) ∧ w'.cell? ⟨b, 3, none⟩ = some (.int .i64 (T.c : Int)) ∧ Below w4.heap.size w4 w')
          (first
            | exact ⟨e2, f0, f1, f2, f3, (Below.refl _ _).drew⟩
            | assumption
            | exact (fun hh : _ ∧ _ ∧ _ ∧ _ ∧ _ ∧ Below w4.heap.size w4 _ => ⟨cell_below h1 hh.1, cell_below h1 hh.2.1, cell_below h1 hh.2.2.1, cell_below h1 hh.2.2.2.1, cell_below h1 hh.2.2.2.2.1, below_self hh.2.2.2.2.2 h1⟩) (by assumption)
            | fail)
          (first
            | (go_at_call 16; with_reducible refine (HTP.out _ (by first | exact (Below.refl _ _).drew | exact (by assumption : _ ∧ _ ∧ _ ∧ _ ∧ _ ∧ Below w4.heap.size w4 _).2.2.2.2.2)).mono ?_; rintro e w5 ⟨rfl, h1⟩)
            | (go_at_call 17; with_reducible refine (HTR.out _ (by first | exact (Below.refl _ _).drew | exact (by assumption : _ ∧ _ ∧ _ ∧ _ ∧ _ ∧ Below w4.heap.size w4 _).2.2.2.2.2)).mono ?_; rintro e w5 ⟨rfl, h1⟩)
            | (go_at_call 15; with_reducible refine (HSM.out _).mono ?_; rintro e w5 ⟨rfl, h1⟩)
            | (go_at_call 18; with_reducible refine (HLP.out _ (by first | exact (Below.refl _ _).drew | exact (by assumption : _ ∧ _ ∧ _ ∧ _ ∧ _ ∧ Below w4.heap.size w4 _).2.2.2.2.2)).mono ?_; rintro e w5 ⟨rfl, rfl⟩)
            | (go_at_call 19; with_reducible refine (HNP.out _ (by first | exact (Below.refl _ _).drew | exact (by assumption : _ ∧ _ ∧ _ ∧ _ ∧ _ ∧ Below w4.heap.size w4 _).2.2.2.2.2)).mono ?_; rintro e w5 ⟨rfl, h1⟩)
            | (go_at_call 20; with_reducible refine (HNR.out _ (by first | exact (Below.refl _ _).drew | exact (by assumption : _ ∧ _ ∧ _ ∧ _ ∧ _ ∧ Below w4.heap.size w4 _).2.2.2.2.2)).mono ?_; rintro e w5 ⟨rfl, h1⟩)
            | fail)
        all_goals (
          have hz : Below w4.heap.size w4 w5 := (by
            first
              | exact (by assumption : _ ∧ _ ∧ _ ∧ _ ∧ _ ∧ Below w4.heap.size w4 w5).2.2.2.2.2
              | exact below_self (by assumption : _ ∧ _ ∧ _ ∧ _ ∧ _ ∧ Below w4.heap.size w4 _).2.2.2.2.2 h1)
          have HZ := Lib.hid (HA4.out.low hz)
          have HZB : Hid (Below g w w5) := Lib.hid (by have := HG.out; subst this; exact below_self HB4.out hz)
          clear hz
          go_wp2_with fail
          go_roundw
          case rel => exact ⟨k + 1, T, by omega, by omega, by go_num, HZ.out, HTF.out, HZB.out⟩
          case measure => simp [intOf]; omega)
      · have h4' : (400 : Int) ≤ (k : Int) := by omega
        have hbn := below_new wr (.cells #[.int .i64 op, .int .i64 nn, .bool rr, .int .i64 oo] 28)
        have HBW : Hid (Below g w (wr.alloc (.cells #[.int .i64 op, .int .i64 nn, .bool rr, .int .i64 oo] 28))) := Lib.hid (by have := HG.out; subst this; exact below_self HB.out hbn)
        clear hbn
        go_wp2_with fail
        refine (awakeSt_any _).mono ?_
        rintro e w9 ⟨rfl, hb9⟩
        have HB9 : Hid (Below g w w9) := Lib.hid (by have := HG.out; subst this; exact below_self HBW.out hb9)
        clear hb9
        go_wp2
        go_ret
        exact ⟨rfl, HB9.out⟩
    · obtain rfl : k = n := by omega
      go_wp2_with fail
      refine (awakeSt_any wr).mono ?_
      rintro e w9 ⟨rfl, hb9⟩
      have HB9 : Hid (Below g w w9) := Lib.hid (by have := HG.out; subst this; exact below_self HB.out hb9)
      clear hb9
      go_wp2
      go_ret
      exact ⟨rfl, HB9.out⟩
end Go.Proofs.Ytflbiblkphaagaa
