/- naskhlaw21.StackRises, walked. -/
import Derived.Test.YtflbiblkphaagaaStkA
import Derived.Test.YtflbiblkphaagaaStkO
import Derived.Deep.DeepCutAuto
import Derived.Deep.CutBlock
namespace Go.Proofs.Ytflbiblkphaagaa
open Go.RowKit

/-- What a call of StackRises leaves. -/
def stepR (k : DoS) (s : Stk) : Stk :=
  if k.op = 0 ∨ k.op = 1 ∨ k.op = 2 ∨ k.op = 3 then (embS s k.r k.o).2 else if k.op = 4 ∨ k.op = 5 ∨ k.op = 6 ∨ k.op = 7 then (isoS s k.r).2 else if k.op = 8 then endES s else endIS s
/-- No count is above m. -/
def Few (s : Stk) (m : Nat) : Prop := s.a ≤ m ∧ s.b ≤ m ∧ s.c ≤ m
theorem few_emb {s : Stk} {m : Nat} (h : Few s m) (r : Bool) (o : Int) : Few (embS s r o).2 (m + 1) := by
  obtain ⟨h1, h2, h3⟩ := h
  unfold Few
  cases hr : roomS s r with
  | true => rw [emb_room hr]; exact ⟨by simp only; omega, by simp only; omega, by simp only; omega⟩
  | false =>
    rw [emb_no hr]
    simp only
    split
    · exact ⟨by simp only; omega, by simp only; omega, by simp only; omega⟩
    · omega
theorem few_iso {s : Stk} {m : Nat} (h : Few s m) (r : Bool) : Few (isoS s r).2 (m + 1) := by
  obtain ⟨h1, h2, h3⟩ := h
  unfold Few
  cases hr : roomS s r with
  | true => rw [iso_room hr]; exact ⟨by simp only; omega, by simp only; omega, by simp only; omega⟩
  | false => rw [iso_no hr]; exact ⟨by simp only; omega, by simp only; omega, by simp only; omega⟩
theorem few_endE {s : Stk} {m : Nat} (h : Few s m) : Few (endES s) m := by
  obtain ⟨h1, h2, h3⟩ := h
  unfold Few endES popS
  repeat' split
  all_goals exact ⟨by (first | (simp only; omega) | omega), by (first | (simp only; omega) | omega), by (first | (simp only; omega) | omega)⟩
theorem few_endI {s : Stk} {m : Nat} (h : Few s m) : Few (endIS s) m := by
  obtain ⟨h1, h2, h3⟩ := h
  unfold Few endIS
  repeat' split
  all_goals exact ⟨by (first | (simp only; omega) | omega), by (first | (simp only; omega) | omega), by (first | (simp only; omega) | omega)⟩
theorem Few.up {s : Stk} {m n : Nat} (h : Few s m) (hn : m ≤ n) : Few s n := ⟨Nat.le_trans h.1 hn, Nat.le_trans h.2.1 hn, Nat.le_trans h.2.2 hn⟩
theorem few_stepR {s : Stk} {m : Nat} (h : Few s m) (k : DoS) : Few (stepR k s) (m + 1) := by
  unfold stepR
  repeat' split
  · exact few_emb h _ _
  · exact few_iso h _
  · exact (few_endE h).up (by omega)
  · exact (few_endI h).up (by omega)
theorem near_stepR {s : Stk} (h : Rises s) (k : DoS) : Near s (stepR k s) := by
  unfold stepR
  repeat' split
  · exact near_emb h
  · exact near_iso h
  · exact near_endE h
  · exact near_endI h
set_option maxRecDepth 100000 in
set_option maxHeartbeats 4000000 in
theorem stackRises_any (level : Int) (A : Option Addr) (n c : Nat) (l : List DoS) (w : World) (hr : Rd w 4 A n (l.flatMap encD)) (hl : l.length = n) (hn : n ≤ maxLen) :
    Calls Try.prog 4 #[.int .i64 level, .slice A n c] w fun e w' => e = .returned (.bool true) ∧ Below w.heap.size w w' := by
  unfold maxLen at hn
  have HL := Lib.hid hl
  have HR := Lib.hid hr
  obtain ⟨g, hg⟩ : ∃ g, w.heap.size = g := ⟨_, rfl⟩
  have HN := Lib.hid (stkNew_any level w)
  rw [hg] at HN
  have HG := Lib.hid hg
  rw [hg]
  clear hl hr hg
  go_enter Try.func4, Try.ntmps4
  go_wp2_with fail
  refine HN.out.mono ?_
  rintro e w1 ⟨rfl, hA1, hb1⟩
  have HA1 := Lib.hid hA1
  have HB1 := Lib.hid hb1
  clear hA1 hb1
  go_wp2_with fail
  go_loopw [17] (fun i wr => ∃ k : Nat, ∃ s : Stk, k ≤ n ∧ k ≤ 400 ∧ i = .int .i64 (k : Int) ∧ StkAt wr g s ∧ Few s k ∧ Below g w wr) (fun i _ => n - (intOf i).toNat)
  case atStart => exact ⟨0, newS level, Nat.zero_le _, by omega, rfl, HA1.out, ⟨by simp [newS], by simp [newS], by simp [newS]⟩, HB1.out⟩
  case round =>
    obtain ⟨k, s, hk, hk4, rfl, hA, hF, hB⟩ := hrel
    have HA := Lib.hid hA
    have HF := Lib.hid hF
    have HB := Lib.hid hB
    by_cases hlt : k < n
    · obtain ⟨x, hx⟩ : ∃ x, l[k]? = some x := ⟨_, List.getElem?_eq_getElem (by rw [HL.out]; exact hlt)⟩
      have hRd : Rd wr 4 A n (l.flatMap encD) := HR.out.below (by have := HG.out; subst this; exact hB)
      obtain ⟨ad, rfl, hab, c0, c1, c2, c3⟩ := hRd.doS hx
      obtain ⟨op, nn, rr, oo⟩ := x
      simp only at c0 c1 c2 c3
      have hkn : (k : Int) < (n : Int) := by omega
      have hk0 : (0 : Int) ≤ (k : Int) := by omega
      clear hA hF hB hRd hx
      by_cases h4 : k < 400
      · have hd4 : decide ((400 : Int) ≤ (k : Int)) = false := by simp; omega
        have h4' : (k : Int) < 400 := by omega
        obtain ⟨W, hW⟩ : ∃ W, wr.alloc (.cells #[.int .i64 op, .int .i64 nn, .bool rr, .int .i64 oo] 28) = W := ⟨_, rfl⟩
        have hbn := below_new wr (.cells #[.int .i64 op, .int .i64 nn, .bool rr, .int .i64 oo] 28)
        have cx := cells_new wr [.int .i64 op, .int .i64 nn, .bool rr, .int .i64 oo] 28
        have cx0 := cx 0 _ rfl
        have cx1 := cx 1 _ rfl
        have cx2 := cx 2 _ rfl
        have cx3 := cx 3 _ rfl
        rw [addNew] at cx0 cx1 cx2 cx3
        rw [show (wr.alloc (.cells [Value.int .i64 op, .int .i64 nn, .bool rr, .int .i64 oo].toArray 28)) = W from hW] at cx0 cx1 cx2 cx3
        rw [hW] at hbn
        have HAW := Lib.hid (HA.out.low hbn)
        have HBW : Hid (Below g w W) := Lib.hid (by have := HG.out; subst this; exact below_self HB.out hbn)
        have hgb : g < wr.heap.size := HA.out.lt
        obtain ⟨bx, hbx⟩ : ∃ bx, wr.heap.size = bx := ⟨_, rfl⟩
        have hbxW : bx < W.heap.size := by rw [← hbx, ← hW]; simp
        rw [hbx] at cx0 cx1 cx2 cx3 hgb
        have HT := Lib.hid (stkTop_any g s W HAW.out)
        unfold entV at HT
        have fd := ent_lv s.top.lv s.top.ov s.top.is
        clear hbn cx
        go_wp2_with fail
        refine HT.out.mono ?_
        rintro e w2 ⟨rfl, hb2⟩
        have HA2 := Lib.hid (HAW.out.low hb2)
        have HB2 : Hid (Below g w w2) := Lib.hid (by have := HG.out; subst this; exact below_self HBW.out hb2)
        have d0 := cell_below hb2 cx0
        have d2 := cell_below hb2 cx2
        have d3 := cell_below hb2 cx3
        have hbx2 : bx < w2.heap.size := Nat.lt_of_lt_of_le hbxW hb2.size
        clear cx0 cx1 cx2 cx3 c0 c1 c2 c3 hb2
        go_wp2_with fail
        have HLs := Lib.hid (stkLen_any g s w2 HA2.out)
        obtain ⟨q, hq⟩ : ∃ q : Int, (s.R.length : Int) + 1 = q := ⟨_, rfl⟩
        rw [hq] at HLs
        refine HLs.out.mono ?_
        rintro e w3 ⟨rfl, rfl⟩
        go_upto_block 2 with fail
        obtain ⟨T, hT⟩ : ∃ T, stepR ⟨op, nn, rr, oo⟩ s = T := ⟨_, rfl⟩
        have HTN := Lib.hid (hT ▸ near_stepR HA.out.ris ⟨op, nn, rr, oo⟩ : Near s T)
        have HTF := Lib.hid (hT ▸ few_stepR HF.out ⟨op, nn, rr, oo⟩ : Few T (k + 1))
        have HF9 : Hid (s.a ≤ 100000000 ∧ s.b ≤ 100000000 ∧ s.c ≤ 100000000) := Lib.hid (by have := HF.out; unfold Few at this; omega)
        go_cut [] (fun wx => StkAt wx g T ∧ Kept w2 wx [g])
        case first =>
          by_cases h0 : op = 0
          · subst h0
            obtain rfl : (embS s rr oo).2 = T := by rw [← hT]; unfold stepR; simp
            go_wp2_with fail
            refine (stkEmbed_any g s rr oo w2 HA2.out HF9.out.2.1).mono ?_
            rintro e w4 ⟨rfl, hA4, hk4⟩
            have HA4 := Lib.hid hA4
            have HK4 := Lib.hid hk4
            clear hA4 hk4
            go_wp2_with fail
            go_meet
            case rel => exact ⟨HA4.out, HK4.out⟩
          have g0 : (op == 0) = false := by simp [h0]
          by_cases h1 : op = 1
          · subst h1
            obtain rfl : (embS s rr oo).2 = T := by rw [← hT]; unfold stepR; simp
            go_wp2_with fail
            refine (stkEmbed_any g s rr oo w2 HA2.out HF9.out.2.1).mono ?_
            rintro e w4 ⟨rfl, hA4, hk4⟩
            have HA4 := Lib.hid hA4
            have HK4 := Lib.hid hk4
            clear hA4 hk4
            go_wp2_with fail
            go_meet
            case rel => exact ⟨HA4.out, HK4.out⟩
          have g1 : (op == 1) = false := by simp [h1]
          by_cases h2 : op = 2
          · subst h2
            obtain rfl : (embS s rr oo).2 = T := by rw [← hT]; unfold stepR; simp
            go_wp2_with fail
            refine (stkEmbed_any g s rr oo w2 HA2.out HF9.out.2.1).mono ?_
            rintro e w4 ⟨rfl, hA4, hk4⟩
            have HA4 := Lib.hid hA4
            have HK4 := Lib.hid hk4
            clear hA4 hk4
            go_wp2_with fail
            go_meet
            case rel => exact ⟨HA4.out, HK4.out⟩
          have g2 : (op == 2) = false := by simp [h2]
          by_cases h3 : op = 3
          · subst h3
            obtain rfl : (embS s rr oo).2 = T := by rw [← hT]; unfold stepR; simp
            go_wp2_with fail
            refine (stkEmbed_any g s rr oo w2 HA2.out HF9.out.2.1).mono ?_
            rintro e w4 ⟨rfl, hA4, hk4⟩
            have HA4 := Lib.hid hA4
            have HK4 := Lib.hid hk4
            clear hA4 hk4
            go_wp2_with fail
            go_meet
            case rel => exact ⟨HA4.out, HK4.out⟩
          have g3 : (op == 3) = false := by simp [h3]
          by_cases h4 : op = 4
          · subst h4
            obtain rfl : (isoS s rr).2 = T := by rw [← hT]; unfold stepR; simp
            go_wp2_with fail
            refine (stkIsolate_any g s rr w2 HA2.out HF9.out.1 HF9.out.2.2).mono ?_
            rintro e w4 ⟨rfl, hA4, hk4⟩
            have HA4 := Lib.hid hA4
            have HK4 := Lib.hid hk4
            clear hA4 hk4
            go_wp2_with fail
            go_meet
            case rel => exact ⟨HA4.out, HK4.out⟩
          have g4 : (op == 4) = false := by simp [h4]
          by_cases h5 : op = 5
          · subst h5
            obtain rfl : (isoS s rr).2 = T := by rw [← hT]; unfold stepR; simp
            go_wp2_with fail
            refine (stkIsolate_any g s rr w2 HA2.out HF9.out.1 HF9.out.2.2).mono ?_
            rintro e w4 ⟨rfl, hA4, hk4⟩
            have HA4 := Lib.hid hA4
            have HK4 := Lib.hid hk4
            clear hA4 hk4
            go_wp2_with fail
            go_meet
            case rel => exact ⟨HA4.out, HK4.out⟩
          have g5 : (op == 5) = false := by simp [h5]
          by_cases h6 : op = 6
          · subst h6
            obtain rfl : (isoS s rr).2 = T := by rw [← hT]; unfold stepR; simp
            go_wp2_with fail
            refine (stkIsolate_any g s rr w2 HA2.out HF9.out.1 HF9.out.2.2).mono ?_
            rintro e w4 ⟨rfl, hA4, hk4⟩
            have HA4 := Lib.hid hA4
            have HK4 := Lib.hid hk4
            clear hA4 hk4
            go_wp2_with fail
            go_meet
            case rel => exact ⟨HA4.out, HK4.out⟩
          have g6 : (op == 6) = false := by simp [h6]
          by_cases h7 : op = 7
          · subst h7
            obtain rfl : (isoS s rr).2 = T := by rw [← hT]; unfold stepR; simp
            go_wp2_with fail
            refine (stkIsolate_any g s rr w2 HA2.out HF9.out.1 HF9.out.2.2).mono ?_
            rintro e w4 ⟨rfl, hA4, hk4⟩
            have HA4 := Lib.hid hA4
            have HK4 := Lib.hid hk4
            clear hA4 hk4
            go_wp2_with fail
            go_meet
            case rel => exact ⟨HA4.out, HK4.out⟩
          have g7 : (op == 7) = false := by simp [h7]
          by_cases h8 : op = 8
          · subst h8
            obtain rfl : endES s = T := by rw [← hT]; unfold stepR; simp
            go_wp2_with fail
            refine (stkEndE_any g s w2 HA2.out HF9.out.2.1).mono ?_
            rintro e w4 ⟨rfl, hA4, hk4⟩
            have HA4 := Lib.hid hA4
            have HK4 := Lib.hid hk4
            clear hA4 hk4
            go_wp2_with fail
            go_meet
            case rel => exact ⟨HA4.out, HK4.out⟩
          have g8 : (op == 8) = false := by simp [h8]
          obtain rfl : endIS s = T := by rw [← hT]; unfold stepR; simp [h0, h1, h2, h3, h4, h5, h6, h7, h8]
          clear h0 h1 h2 h3 h4 h5 h6 h7 h8
          go_wp2_with fail
          refine (stkEndI_any g s w2 HA2.out HF9.out.1 HF9.out.2.2).mono ?_
          rintro e w4 ⟨rfl, hA4, hk4⟩
          have HA4 := Lib.hid hA4
          have HK4 := Lib.hid hk4
          clear hA4 hk4
          go_wp2_with fail
          go_meet
          case rel => exact ⟨HA4.out, HK4.out⟩
        case rest =>
          obtain ⟨hAc, hKc⟩ := hcut
          have HAc := Lib.hid hAc
          have HBc : Hid (Below g w wc) := Lib.hid (by have := HG.out; subst this; exact Kept.new_ HB2.out hKc (Nat.le_refl _))
          clear hAc hKc
          have HTc := Lib.hid (stkTop_any g T wc HAc.out)
          unfold entV at HTc
          have fdT := ent_lv T.top.lv T.top.ov T.top.is
          go_wp2_with fail
          refine HTc.out.mono ?_
          rintro e w5 ⟨rfl, hb5⟩
          have HA5 := Lib.hid (HAc.out.low hb5)
          have HB5 : Hid (Below g w w5) := Lib.hid (by have := HG.out; subst this; exact below_self HBc.out hb5)
          clear hb5
          have hT1 := HTN.out.2.1.top
          have hT2 := HTN.out.2.1.len
          have hT3 := HTN.out.2.2.1
          have hT4 := HTN.out.2.2.2
          simp only [Stk.len] at hT2 hT3 hT4
          have HLT := Lib.hid (stkLen_any g T w5 HA5.out)
          obtain ⟨p, hp⟩ : ∃ p : Int, (T.R.length : Int) + 1 = p := ⟨_, rfl⟩
          rw [hp] at HLT
          have hd1 : decide ((125 : Int) < T.top.lv) = false := decide_eq_false (by omega)
          have hd2 : decide ((126 : Int) < p) = false := decide_eq_false (by omega)
          have hd3 : decide (p < 1) = false := decide_eq_false (by omega)
          by_cases hpq : q < p
          · have hd4 : decide (q < p) = true := decide_eq_true hpq
            have hd5 : decide (T.top.lv ≤ s.top.lv) = false := decide_eq_false (by have := hT3 (by omega); omega)
            have hd6 : decide (p < q) = false := decide_eq_false (by omega)
            clear hT1 hT2 hT3 hT4 hp hq hpq
            go_wp2_with (first
              | (go_at_call 18; refine HLT.out.mono ?_; rintro e w6 ⟨rfl, rfl⟩)
              | fail)
            go_roundw
            case rel => exact ⟨k + 1, T, by omega, by omega, by go_num, HA5.out, HTF.out, HB5.out⟩
            case measure => simp [intOf]; omega
          · have hd4 : decide (q < p) = false := decide_eq_false hpq
            by_cases hpq2 : p < q
            · have hd6 : decide (p < q) = true := decide_eq_true hpq2
              have hd7 : decide (s.top.lv ≤ T.top.lv) = false := decide_eq_false (by have := hT4 (by omega); omega)
              clear hT1 hT2 hT3 hT4 hp hq hpq hpq2
              go_wp2_with (first
                | (go_at_call 18; refine HLT.out.mono ?_; rintro e w6 ⟨rfl, rfl⟩)
                | fail)
              go_roundw
              case rel => exact ⟨k + 1, T, by omega, by omega, by go_num, HA5.out, HTF.out, HB5.out⟩
              case measure => simp [intOf]; omega
            · have hd6 : decide (p < q) = false := decide_eq_false hpq2
              clear hT1 hT2 hT3 hT4 hp hq hpq hpq2
              go_wp2_with (first
                | (go_at_call 18; refine HLT.out.mono ?_; rintro e w6 ⟨rfl, rfl⟩)
                | fail)
              go_roundw
              case rel => exact ⟨k + 1, T, by omega, by omega, by go_num, HA5.out, HTF.out, HB5.out⟩
              case measure => simp [intOf]; omega
      · have h4' : (400 : Int) ≤ (k : Int) := by omega
        have hbn := below_new wr (.cells #[.int .i64 op, .int .i64 nn, .bool rr, .int .i64 oo] 28)
        have HBW : Hid (Below g w (wr.alloc (.cells #[.int .i64 op, .int .i64 nn, .bool rr, .int .i64 oo] 28))) := Lib.hid (by have := HG.out; subst this; exact below_self HB.out hbn)
        clear hbn
        go_wp2_with fail
        refine (awakeSt_any _).mono ?_
        rintro e w9 ⟨rfl, hb9⟩
        have HB9 : Hid (Below g w w9) := Lib.hid (by have := HG.out; subst this; exact below_self HBW.out hb9)
        clear hb9
        go_wp2
        go_ret
        exact ⟨rfl, HB9.out⟩
    · obtain rfl : k = n := by omega
      go_wp2_with fail
      refine (awakeSt_any wr).mono ?_
      rintro e w9 ⟨rfl, hb9⟩
      have HB9 : Hid (Below g w w9) := Lib.hid (by have := HG.out; subst this; exact below_self HB.out hb9)
      clear hb9
      go_wp2
      go_ret
      exact ⟨rfl, HB9.out⟩
end Go.Proofs.Ytflbiblkphaagaa
