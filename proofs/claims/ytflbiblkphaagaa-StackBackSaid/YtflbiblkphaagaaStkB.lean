/- naskhlaw21.StackBack, walked. -/
import Derived.Test.YtflbiblkphaagaaStkA
import Derived.Test.YtflbiblkphaagaaStkO
import Derived.Test.YtflbiblkphaagaaStkR
import Derived.Deep.DeepCutAuto
import Derived.Deep.CutBlock
import Derived.Deep.RegionHeld3
import Derived.Laws.StructEq
namespace Go.Proofs.Ytflbiblkphaagaa
open Go.RowKit

set_option maxRecDepth 100000 in
set_option maxHeartbeats 4000000 in
theorem stackBack_any (level : Int) (A : Option Addr) (n c : Nat) (l : List DoS) (r i : Bool) (w : World) (hr : Rd w 4 A n (l.flatMap encD)) (hl : l.length = n) (hn : n ≤ maxLen) :
    Calls Try.prog 5 #[.int .i64 level, .slice A n c, .bool r, .bool i] w fun e w' => e = .returned (.bool true) ∧ Below w.heap.size w w' := by
  unfold maxLen at hn
  have HL := Lib.hid hl
  have HR := Lib.hid hr
  obtain ⟨g, hg⟩ : ∃ g, w.heap.size = g := ⟨_, rfl⟩
  have HN := Lib.hid (stkNew_any level w)
  rw [hg] at HN
  have HG := Lib.hid hg
  rw [hg]
  clear hl hr hg
  go_enter Try.func5, Try.ntmps5
  go_wp2_with fail
  refine HN.out.mono ?_
  rintro e w1 ⟨rfl, hA1, hb1⟩
  have HA1 := Lib.hid hA1
  have HB1 := Lib.hid hb1
  clear hA1 hb1
  go_wp2_with fail
  go_loopw [26] (fun i wr => ∃ k : Nat, ∃ s : Stk, k ≤ n ∧ i = .int .i64 (k : Int) ∧ StkAt wr g s ∧ Few s (min k 200) ∧ Below g w wr) (fun i _ => n - (intOf i).toNat)
  case atStart => exact ⟨0, newS level, Nat.zero_le _, rfl, HA1.out, ⟨by simp [newS], by simp [newS], by simp [newS]⟩, HB1.out⟩
  case round =>
    obtain ⟨k, s, hk, rfl, hA, hF, hB⟩ := hrel
    have HA := Lib.hid hA
    have HF := Lib.hid hF
    have HB := Lib.hid hB
    by_cases hlt : k < n
    · obtain ⟨x, hx⟩ : ∃ x, l[k]? = some x := ⟨_, List.getElem?_eq_getElem (by rw [HL.out]; exact hlt)⟩
      have hRd : Rd wr 4 A n (l.flatMap encD) := HR.out.below (by have := HG.out; subst this; exact hB)
      obtain ⟨ad, rfl, hab, c0, c1, c2, c3⟩ := hRd.doS hx
      obtain ⟨op, nn, rr, oo⟩ := x
      simp only at c0 c1 c2 c3
      have hkn : (k : Int) < (n : Int) := by omega
      have hk0 : (0 : Int) ≤ (k : Int) := by omega
      clear hA hF hB hRd hx
      obtain ⟨W, hW⟩ : ∃ W, wr.alloc (.cells #[.int .i64 op, .int .i64 nn, .bool rr, .int .i64 oo] 28) = W := ⟨_, rfl⟩
      have hbn := below_new wr (.cells #[.int .i64 op, .int .i64 nn, .bool rr, .int .i64 oo] 28)
      have cx := cells_new wr [.int .i64 op, .int .i64 nn, .bool rr, .int .i64 oo] 28
      have cx0 := cx 0 _ rfl
      have cx2 := cx 2 _ rfl
      rw [addNew] at cx0 cx2
      rw [show (wr.alloc (.cells [Value.int .i64 op, .int .i64 nn, .bool rr, .int .i64 oo].toArray 28)) = W from hW] at cx0 cx2
      rw [hW] at hbn
      have HAW := Lib.hid (HA.out.low hbn)
      have HBW : Hid (Below g w W) := Lib.hid (by have := HG.out; subst this; exact below_self HB.out hbn)
      have hgb : g < wr.heap.size := HA.out.lt
      obtain ⟨bx, hbx⟩ : ∃ bx, wr.heap.size = bx := ⟨_, rfl⟩
      rw [hbx] at cx0 cx2 hgb
      clear hbn cx
      have hmn : min (k + 1) 200 = min k 200 + 1 ∨ 200 ≤ k := by omega
      by_cases h2 : k < 200
      · have hd2 : decide ((k : Int) < 200) = true := by simp; omega
        have h2' : (k : Int) < 200 := by omega
        by_cases h8 : op < 8
        · have hd8 : decide (op < 8) = true := decide_eq_true h8
          have HF4 := Lib.hid (few_emb HF.out rr 13)
          rw [show min k 200 + 1 = min (k + 1) 200 by omega] at HF4
          have hb9 : s.b ≤ 100000000 := by have := HF.out.2.1; omega
          go_wp2_with fail
          refine (stkEmbed_any g s rr 13 W HAW.out hb9).mono ?_
          rintro e w4 ⟨rfl, hA4, hk4⟩
          have HA4 := Lib.hid hA4
          have HB4 : Hid (Below g w w4) := Lib.hid (by have := HG.out; subst this; exact Kept.new_ HBW.out hk4 (Nat.le_refl _))
          clear hA4 hk4 c0 c1 c2 c3 cx0 cx2
          go_wp2_with fail
          go_roundw
          case rel => exact ⟨k + 1, _, by omega, by go_num, HA4.out, HF4.out, HB4.out⟩
          case measure => simp [intOf]; omega
        · have hd8 : decide (op < 8) = false := decide_eq_false h8
          have HF4 := Lib.hid (HF.out.up (n := min (k + 1) 200) (by omega))
          go_wp2_with fail
          go_roundw
          case rel => exact ⟨k + 1, s, by omega, by go_num, HAW.out, HF4.out, HBW.out⟩
          case measure => simp [intOf]; omega
      · have hd2 : decide ((k : Int) < 200) = false := by simp; omega
        have h2' : (200 : Int) ≤ (k : Int) := by omega
        have HF4 := Lib.hid (HF.out.up (n := min (k + 1) 200) (by omega))
        go_wp2_with fail
        go_roundw
        case rel => exact ⟨k + 1, s, by omega, by go_num, HAW.out, HF4.out, HBW.out⟩
        case measure => simp [intOf]; omega
    · obtain rfl : k = n := by omega
      have hF9 : s.a ≤ 10000000 ∧ s.b ≤ 10000000 ∧ s.c ≤ 10000000 := by unfold Few at hF; omega
      have HF9 := Lib.hid hF9
      clear hF hF9 hA hB
      have HT := Lib.hid (stkTop_any g s wr HA.out)
      unfold entV at HT
      go_wp2_with fail
      refine HT.out.mono ?_
      rintro e w2 ⟨rfl, hb2⟩
      have HA2 := Lib.hid (HA.out.low hb2)
      have HB2 : Hid (Below g w w2) := Lib.hid (by have := HG.out; subst this; exact below_self HB.out hb2)
      clear hb2
      obtain ⟨q, hq⟩ : ∃ q : Int, (s.R.length : Int) + 1 = q := ⟨_, rfl⟩
      have HLs := Lib.hid (fun W (h : StkAt W g s) => stkLen_any g s W h)
      rw [hq] at HLs
      obtain ⟨lv, ov, is, htp⟩ : ∃ lv ov is, s.top = ⟨lv, ov, is⟩ := ⟨_, _, _, rfl⟩
      have HTs := Lib.hid (fun W (h : StkAt W g s) => stkTop_any g s W h)
      unfold entV at HTs
      rw [htp] at HTs ⊢
      simp only at HTs ⊢
      obtain ⟨W2, hW2⟩ : ∃ W2, w2.alloc (.cells #[.int .i64 lv, .int .i64 ov, .bool is] 34) = W2 := ⟨_, rfl⟩
      have hbn := below_new w2 (.cells #[.int .i64 lv, .int .i64 ov, .bool is] 34)
      have cx := cells_new w2 [.int .i64 lv, .int .i64 ov, .bool is] 34
      have cx0 := cx 0 _ rfl
      have cx1 := cx 1 _ rfl
      have cx2 := cx 2 _ rfl
      rw [addNew] at cx0 cx1 cx2
      rw [show (w2.alloc (.cells [Value.int .i64 lv, .int .i64 ov, .bool is].toArray 34)) = W2 from hW2] at cx0 cx1 cx2
      rw [hW2] at hbn
      have hgb : g < w2.heap.size := HA2.out.lt
      obtain ⟨bx, hbx⟩ : ∃ bx, w2.heap.size = bx := ⟨_, rfl⟩
      rw [hbx] at cx0 cx1 cx2 hgb
      have hne : bx ≠ g := by omega
      have HNE := Lib.hid (show bx ∉ [g] by simpa using hne)
      have HA3 := Lib.hid (HA2.out.low hbn)
      have HB3 : Hid (Below g w W2) := Lib.hid (by have := HG.out; subst this; exact below_self HB2.out hbn)
      have HO3 := Lib.hid (stkOver_any g s W2 HA3.out)
      have HCX := Lib.hid (And.intro cx0 (And.intro cx1 cx2))
      have HI := Lib.hid (fun W (h : StkAt W g s) => stkIsolate_any g s r W h (by have := HF9.out.1; omega) (by have := HF9.out.2.2; omega))
      have HE := Lib.hid (fun W (h : StkAt W g s) => stkEmbed_any g s r 1 W h (by have := HF9.out.2.1; omega))
      have hfi := few_iso (show Few s 10000000 from HF9.out) r
      have hfe := few_emb (show Few s 10000000 from HF9.out) r 1
      have HIB : Hid (endIS (isoS s r).2 = s) := Lib.hid iso_back
      have HEB : Hid (endES (embS s r 1).2 = s) := Lib.hid emb_back
      obtain ⟨vi, I, hI⟩ : ∃ vi I, isoS s r = (vi, I) := ⟨_, _, rfl⟩
      obtain ⟨ve, E, hE⟩ : ∃ ve E, embS s r 1 = (ve, E) := ⟨_, _, rfl⟩
      rw [hI] at HI HIB hfi
      rw [hE] at HE HEB hfe
      simp only at HI HIB hfi HE HEB hfe
      have HFI := Lib.hid hfi
      have HFE := Lib.hid hfe
      clear hbn cx hfi hfe hI hE hq htp cx0 cx1 cx2
      go_wp2_with fail
      refine (HLs.out _ HA2.out).mono ?_
      rintro e w3 ⟨rfl, rfl⟩
      go_wp2_with fail
      refine HO3.out.mono ?_
      rintro e w4 ⟨rfl, hb4⟩
      have HA4 := Lib.hid (HA3.out.low hb4)
      have HB4 : Hid (Below g w w4) := Lib.hid (by have := HG.out; subst this; exact below_self HB3.out hb4)
      have HC4 : Hid (w4.cell? ⟨bx, 0, none⟩ = some (.int .i64 lv) ∧ w4.cell? ⟨bx, 1, none⟩ = some (.int .i64 ov) ∧ w4.cell? ⟨bx, 2, none⟩ = some (.bool is)) := Lib.hid ⟨cell_below hb4 HCX.out.1, cell_below hb4 HCX.out.2.1, cell_below hb4 HCX.out.2.2⟩
      clear hb4
      cases i with
      | true =>
        go_wp2_with fail
        refine (HI.out _ HA4.out).mono ?_
        rintro e w5 ⟨rfl, hA5, hk5⟩
        have HA5 := Lib.hid hA5
        have HK5 := Lib.hid hk5
        clear hA5 hk5
        go_wp2_with fail
        refine (stkEndI_any g I w5 HA5.out (by have := HFI.out.1; omega) (by have := HFI.out.2.2; omega)).mono ?_
        rintro e w6 ⟨rfl, hA6, hk6⟩
        rw [HIB.out] at hA6
        have hk := HK5.out.trans hk6
        have HA6 := Lib.hid hA6
        have HB6 : Hid (Below g w w6) := Lib.hid (by have := HG.out; subst this; exact Kept.new_ HB4.out hk (Nat.le_refl _))
        have HC6 : Hid (w6.cell? ⟨bx, 0, none⟩ = some (.int .i64 lv) ∧ w6.cell? ⟨bx, 1, none⟩ = some (.int .i64 ov) ∧ w6.cell? ⟨bx, 2, none⟩ = some (.bool is)) := Lib.hid ⟨hk.cell HC4.out.1 HNE.out, hk.cell HC4.out.2.1 HNE.out, hk.cell HC4.out.2.2 HNE.out⟩
        clear hA6 hk6 hk
        go_wp2_with fail
        refine (stkOver_any g s w6 HA6.out).mono ?_
        rintro e w7 ⟨rfl, hb7⟩
        have HA7 := Lib.hid (HA6.out.low hb7)
        have HB7 : Hid (Below g w w7) := Lib.hid (by have := HG.out; subst this; exact below_self HB6.out hb7)
        have cz0 := cell_below hb7 HC6.out.1
        have cz1 := cell_below hb7 HC6.out.2.1
        have cz2 := cell_below hb7 HC6.out.2.2
        clear hb7
        have HTZ := Lib.hid (fun W (k : Below w7.heap.size w7 W) => HTs.out W (HA7.out.low k))
        have HLZ := Lib.hid (fun W (k : Below w7.heap.size w7 W) => HLs.out W (HA7.out.low k))
        go_upto_region 18 with fail
        go_region_held3 (fun w' => w'.cell? ⟨bx, 0, none⟩ = some (.int .i64 lv) ∧ w'.cell? ⟨bx, 1, none⟩ = some (.int .i64 ov) ∧ w'.cell? ⟨bx, 2, none⟩ = some (.bool is) ∧ Below w7.heap.size w7 w')
          (first
            | exact ⟨cz0, cz1, cz2, (Below.refl _ _).drew⟩
            | exact ⟨cell_below h1 (by assumption : _ ∧ _ ∧ _ ∧ Below w7.heap.size w7 _).1, cell_below h1 (by assumption : _ ∧ _ ∧ _ ∧ Below w7.heap.size w7 _).2.1, cell_below h1 (by assumption : _ ∧ _ ∧ _ ∧ Below w7.heap.size w7 _).2.2.1, below_self (by assumption : _ ∧ _ ∧ _ ∧ Below w7.heap.size w7 _).2.2.2 h1⟩
            | exact ⟨cell_below h1 cz0, cell_below h1 cz1, cell_below h1 cz2, below_self (Below.refl _ _).drew h1⟩
            | fail)
          (first
            | (go_at_call 16; with_reducible refine (HTZ.out _ (by first | exact (Below.refl _ _).drew | exact (by assumption : _ ∧ _ ∧ _ ∧ Below w7.heap.size w7 _).2.2.2)).mono ?_; rintro e w3 ⟨rfl, h1⟩)
            | (go_at_call 18; with_reducible refine (HLZ.out _ (by first | exact (Below.refl _ _).drew | exact (by assumption : _ ∧ _ ∧ _ ∧ Below w7.heap.size w7 _).2.2.2)).mono ?_; rintro e w3 ⟨rfl, rfl⟩)
            | (go_at_call 21; refine (awakeSt_any _).mono ?_; rintro e w3 ⟨rfl, h1⟩)
            | fail)
        all_goals (
          have hz : Below w7.heap.size w7 w3 := (by
            first
              | exact (by assumption : _ ∧ _ ∧ _ ∧ Below w7.heap.size w7 w3).2.2.2
              | exact below_self (by assumption : _ ∧ _ ∧ _ ∧ Below w7.heap.size w7 _).2.2.2 h1)
          have HZ : Hid (Below g w w3) := Lib.hid (by have := HG.out; subst this; exact below_self HB7.out hz)
          go_wp2
          go_ret
          exact ⟨rfl, HZ.out⟩)
      | false =>
        go_wp2_with fail
        refine (HE.out _ HA4.out).mono ?_
        rintro e w5 ⟨rfl, hA5, hk5⟩
        have HA5 := Lib.hid hA5
        have HK5 := Lib.hid hk5
        clear hA5 hk5
        go_wp2_with fail
        refine (stkEndE_any g E w5 HA5.out (by have := HFE.out.2.1; omega)).mono ?_
        rintro e w6 ⟨rfl, hA6, hk6⟩
        rw [HEB.out] at hA6
        have hk := HK5.out.trans hk6
        have HA6 := Lib.hid hA6
        have HB6 : Hid (Below g w w6) := Lib.hid (by have := HG.out; subst this; exact Kept.new_ HB4.out hk (Nat.le_refl _))
        have HC6 : Hid (w6.cell? ⟨bx, 0, none⟩ = some (.int .i64 lv) ∧ w6.cell? ⟨bx, 1, none⟩ = some (.int .i64 ov) ∧ w6.cell? ⟨bx, 2, none⟩ = some (.bool is)) := Lib.hid ⟨hk.cell HC4.out.1 HNE.out, hk.cell HC4.out.2.1 HNE.out, hk.cell HC4.out.2.2 HNE.out⟩
        clear hA6 hk6 hk
        go_wp2_with fail
        refine (stkOver_any g s w6 HA6.out).mono ?_
        rintro e w7 ⟨rfl, hb7⟩
        have HA7 := Lib.hid (HA6.out.low hb7)
        have HB7 : Hid (Below g w w7) := Lib.hid (by have := HG.out; subst this; exact below_self HB6.out hb7)
        have cz0 := cell_below hb7 HC6.out.1
        have cz1 := cell_below hb7 HC6.out.2.1
        have cz2 := cell_below hb7 HC6.out.2.2
        clear hb7
        have HTZ := Lib.hid (fun W (k : Below w7.heap.size w7 W) => HTs.out W (HA7.out.low k))
        have HLZ := Lib.hid (fun W (k : Below w7.heap.size w7 W) => HLs.out W (HA7.out.low k))
        go_upto_region 18 with fail
        go_region_held3 (fun w' => w'.cell? ⟨bx, 0, none⟩ = some (.int .i64 lv) ∧ w'.cell? ⟨bx, 1, none⟩ = some (.int .i64 ov) ∧ w'.cell? ⟨bx, 2, none⟩ = some (.bool is) ∧ Below w7.heap.size w7 w')
          (first
            | exact ⟨cz0, cz1, cz2, (Below.refl _ _).drew⟩
            | exact ⟨cell_below h1 (by assumption : _ ∧ _ ∧ _ ∧ Below w7.heap.size w7 _).1, cell_below h1 (by assumption : _ ∧ _ ∧ _ ∧ Below w7.heap.size w7 _).2.1, cell_below h1 (by assumption : _ ∧ _ ∧ _ ∧ Below w7.heap.size w7 _).2.2.1, below_self (by assumption : _ ∧ _ ∧ _ ∧ Below w7.heap.size w7 _).2.2.2 h1⟩
            | exact ⟨cell_below h1 cz0, cell_below h1 cz1, cell_below h1 cz2, below_self (Below.refl _ _).drew h1⟩
            | fail)
          (first
            | (go_at_call 16; with_reducible refine (HTZ.out _ (by first | exact (Below.refl _ _).drew | exact (by assumption : _ ∧ _ ∧ _ ∧ Below w7.heap.size w7 _).2.2.2)).mono ?_; rintro e w3 ⟨rfl, h1⟩)
            | (go_at_call 18; with_reducible refine (HLZ.out _ (by first | exact (Below.refl _ _).drew | exact (by assumption : _ ∧ _ ∧ _ ∧ Below w7.heap.size w7 _).2.2.2)).mono ?_; rintro e w3 ⟨rfl, rfl⟩)
            | (go_at_call 21; refine (awakeSt_any _).mono ?_; rintro e w3 ⟨rfl, h1⟩)
            | fail)
        all_goals (
          have hz : Below w7.heap.size w7 w3 := (by
            first
              | exact (by assumption : _ ∧ _ ∧ _ ∧ Below w7.heap.size w7 w3).2.2.2
              | exact below_self (by assumption : _ ∧ _ ∧ _ ∧ Below w7.heap.size w7 _).2.2.2 h1)
          have HZ : Hid (Below g w w3) := Lib.hid (by have := HG.out; subst this; exact below_self HB7.out hz)
          go_wp2
          go_ret
          exact ⟨rfl, HZ.out⟩)
end Go.Proofs.Ytflbiblkphaagaa
