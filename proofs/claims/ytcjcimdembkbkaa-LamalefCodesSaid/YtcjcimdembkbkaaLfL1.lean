/- naskhlaw14: awake, LamalefFinds, LamalefCodes. -/
import Derived.Test.YtcjcimdembkbkaaLfF
import Derived.Test.YtcjcimdembkbkaaLfR
import Derived.Test.YtcjcimdembkbkaaLfCo
import Derived.Test.YtcjcimdembkbkaaLfRc
import Derived.Test.YtcjcimdembkbkaaEqPr
import Derived.Test.YtcjcimdembkbkaaJnL1
import Derived.Deep.RegionHeld3
namespace Go.Proofs.Ytcjcimdembkbkaa
open Go.RowKit

theorem rd_own2 {w : World} {base n : Nat} {e : TypeId} {v : Value} {l : List Sp} (h : w.ownsRow base e 2 v n (cellsS l)) : ∃ A c, v = .slice A n c ∧ n ≤ c ∧ Rd w 2 A n (cellsS l) := by
  obtain ⟨A, c, rfl, hc⟩ := own_form h
  exact ⟨A, c, rfl, hc, Rd.of_own h⟩
theorem rdNew1 (w : World) (a : Int) (t : TypeId) : Rd (w.alloc (.cells #[.int .i64 a] t)) 1 (some ⟨w.heap.size, 0, none⟩) 1 (([a] : List Int).map (Value.int .i64)) := Rd.new_ w [.int .i64 a] t
theorem rdPair1 (w : World) (a b : Int) (t : TypeId) : Rd (w.alloc (.cells #[.int .i64 a, .int .i64 b] t)) 2 (some ⟨w.heap.size, 0, none⟩) 1 (cellsS [(a, b)]) :=
  ⟨rfl, fun _ => ⟨_, rfl, by simp, cells_new w [.int .i64 a, .int .i64 b] t⟩⟩
set_option maxRecDepth 100000 in
set_option maxHeartbeats 4000000 in
theorem awakeLf_any (w : World) : Calls Try.prog 27 #[] w fun e w' => e = .returned (.bool true) ∧ Below w.heap.size w w' := by
  have H1 := Lib.hid (show lfFind alefB [1576, 1604, 1575] [3, 3, 2] false = [(1, 2)] by decide +kernel)
  have H2 := Lib.hid (show lcAll [1576, 1604, 1575] [3, 3, 2] [(1, 2)] = [65276] by decide +kernel)
  have H3 := Lib.hid (show alefB 1570 = true by decide +kernel)
  obtain ⟨xs, hxs⟩ : ∃ xs : List Int, xs = [1576, 1604, 1575] := ⟨_, rfl⟩
  obtain ⟨ts, hts⟩ : ∃ ys : List Int, ys = [3, 3, 2] := ⟨_, rfl⟩
  obtain ⟨l, hl⟩ : ∃ l : List Sp, l = [(1, 2)] := ⟨_, rfl⟩
  obtain ⟨zs, hzs⟩ : ∃ zs : List Int, zs = [65276] := ⟨_, rfl⟩
  rw [← hxs, ← hts, ← hl] at H1
  rw [← hxs, ← hts, ← hl, ← hzs] at H2
  have hb0 := below_self (below_new w (.cells #[.int .i64 1576, .int .i64 1604, .int .i64 1575] 3)) (below_new _ (.cells #[.int .i64 3, .int .i64 3, .int .i64 2] 3))
  have hr0 := (rdNew3 w 1576 1604 1575 3).alloc (.cells #[.int .i64 3, .int .i64 3, .int .i64 2] 3)
  have hs0 := rdNew3 (w.alloc (.cells #[.int .i64 1576, .int .i64 1604, .int .i64 1575] 3)) 3 3 2 3
  rw [← hxs] at hr0
  rw [← hts, World.size_alloc] at hs0
  have HL := Lib.hid hl
  have HZ := Lib.hid hzs
  have HB0 := Lib.hid hb0
  have HR0 := Lib.hid hr0
  have HS0 := Lib.hid hs0
  clear hxs hts hl hzs hb0 hr0 hs0
  go_enter Try.func27, Try.ntmps27
  go_wp2_with fail
  have hF := lfFind_any _ _ 3 3 3 3 xs ts false _ HR0.out HS0.out (by omega)
  rw [H1.out] at hF
  refine hF.mono ?_
  rintro e w1 ⟨⟨v, rfl, hown⟩, hb1⟩
  obtain ⟨C, cc, rfl, _, hl1⟩ := rd_own2 hown
  have HB1 := Lib.hid (below_self HB0.out hb1)
  have HR1 := Lib.hid (HR0.out.below hb1)
  have HS1 := Lib.hid (HS0.out.below hb1)
  have hll : l.length = 1 := by rw [HL.out]; rfl
  rw [hll] at hl1
  simp only [hll]
  have HL1 := Lib.hid hl1
  clear hF hown hb1 hl1 hll HB0 HR0 HS0
  go_wp2_with fail
  have hp := rdPair1 w1 1 2 37
  rw [← HL.out] at hp
  have hbn := below_new w1 (.cells #[.int .i64 1, .int .i64 2] 37)
  refine (equalPr_b _ _ 1 1 _ _ l l _ (HL1.out.below hbn) hp (by unfold maxLen; omega) (by unfold maxLen; omega)).mono ?_
  rintro e w2 ⟨rfl, hb2⟩
  rw [decide_eq_true rfl]
  have hb12 := below_self hbn hb2
  have HB2 := Lib.hid (below_self HB1.out hb12)
  have HR2 := Lib.hid (HR1.out.below hb12)
  have HS2 := Lib.hid (HS1.out.below hb12)
  have HL2 := Lib.hid (HL1.out.below hb12)
  clear hp hbn hb2 hb12 HB1 HR1 HS1 HL1
  go_wp2_with fail
  refine (lfCodes_any _ _ C 3 3 1 3 3 cc xs ts l _ HR2.out HS2.out HL2.out (by omega) (by omega) (by omega)).mono ?_
  rintro e w3 ⟨⟨g, _, rfl, hg⟩, hb3⟩
  rw [H2.out] at hg
  have hz := rd_intsZ hg (n := 1) (by rw [HZ.out]; rfl)
  have HZ3 := Lib.hid hz
  have HB3 := Lib.hid (below_self HB2.out hb3)
  clear hg hb3 hz HB2 HR2 HS2 HL2
  go_wp2_with fail
  have hz4 := rdNew1 w3 65276 3
  rw [← HZ.out] at hz4
  have hbn := below_new w3 (.cells #[.int .i64 65276] 3)
  refine (equalInt_b _ _ 1 1 _ _ zs zs _ (HZ3.out.below hbn) hz4 (by unfold maxLen; omega) (by unfold maxLen; omega)).mono ?_
  rintro e w4 ⟨rfl, hb4⟩
  rw [decide_eq_true rfl]
  have HB4 := Lib.hid (below_self (below_self HB3.out hbn) hb4)
  clear hbn hb4 hz4 HB3
  go_wp2_with fail
  refine (lfAlef_any 1570 _).mono ?_
  rintro e w5 ⟨rfl, hb5⟩
  rw [H3.out]
  have HB5 := Lib.hid (below_self HB4.out hb5)
  clear hb5 HB4
  go_wp2
  go_ret
  exact ⟨rfl, HB5.out⟩
set_option maxRecDepth 100000 in
set_option maxHeartbeats 4000000 in
theorem lamalefFinds_any (A B : Option Addr) (n m c d : Nat) (xs ts : List Int) (th : Bool) (w : World) (hr : Rd w 1 A n (xs.map (Value.int .i64))) (hs : Rd w 1 B m (ts.map (Value.int .i64))) (hn : n ≤ maxLen) (hm : m ≤ maxLen) :
    Calls Try.prog 8 #[.slice A n c, .slice B m d, .bool th] w fun e w' => e = .returned (.bool true) ∧ Below w.heap.size w w' := by
  unfold maxLen at hn hm
  by_cases hsz : n ≤ 200 ∧ m ≤ 200
  · obtain ⟨h1, h2⟩ := hsz
    have HR := Lib.hid hr
    have HS := Lib.hid hs
    obtain ⟨l, hl⟩ : ∃ l, lfFind alefB xs ts th = l := ⟨_, rfl⟩
    obtain ⟨l2, hl2⟩ : ∃ l, lfFind alefB xs (xs.map joinF) th = l := ⟨_, rfl⟩
    have hll : l.length ≤ 200 := by
      rw [← hl]
      unfold lfFind
      have hxl : xs.length = n := by simpa using hr.len1
      split
      · exact Nat.le_trans (lfUpto_le _ _ _ _ _) (by omega)
      · simp
    have hll2 : l2.length ≤ 200 := by
      rw [← hl2]
      unfold lfFind
      have hxl : xs.length = n := by simpa using hr.len1
      split
      · exact Nat.le_trans (lfUpto_le _ _ _ _ _) (by omega)
      · simp
    have HP := Lib.hid (fun w1 (h : Rd w1 1 A n (xs.map (Value.int .i64))) (k : Rd w1 1 B m (ts.map (Value.int .i64))) => lfFind_any A B n m c d xs ts th w1 h k (by omega))
    have HQ := Lib.hid (fun w1 (h : Rd w1 1 A n (xs.map (Value.int .i64))) (k : Rd w1 1 B m (ts.map (Value.int .i64))) => refFind_any A B n m c d xs ts th w1 h k (by omega))
    rw [hl] at HP HQ
    have HP2 := Lib.hid (fun w1 (D : Option Addr) (e : Nat) (h : Rd w1 1 A n (xs.map (Value.int .i64))) (k : Rd w1 1 D n ((xs.map joinF).map (Value.int .i64))) => lfFind_any A D n n c e xs (xs.map joinF) th w1 h k (by omega))
    have HQ2 := Lib.hid (fun w1 (D : Option Addr) (e : Nat) (h : Rd w1 1 A n (xs.map (Value.int .i64))) (k : Rd w1 1 D n ((xs.map joinF).map (Value.int .i64))) => refFind_any A D n n c e xs (xs.map joinF) th w1 h k (by omega))
    rw [hl2] at HP2 HQ2
    clear hr hs hl hl2
    go_enter Try.func8, Try.ntmps8
    go_wp2_with fail
    refine (refJoins_any A n c xs w HR.out (by omega)).mono ?_
    rintro e w1 ⟨⟨v, rfl, hown⟩, hb1⟩
    obtain ⟨D, e, rfl, _, hj⟩ := rd_own hown
    have HB1 := Lib.hid hb1
    have HJ1 := Lib.hid hj
    clear hb1 hj hown
    go_wp2_with fail
    refine (HP.out w1 (HR.out.below HB1.out) (HS.out.below HB1.out)).mono ?_
    rintro e w2 ⟨⟨v, rfl, hown⟩, hb⟩
    obtain ⟨P, p, rfl, _, hp⟩ := rd_own2 hown
    have HB2 := Lib.hid (below_self HB1.out hb)
    have HJ2 := Lib.hid (HJ1.out.below hb)
    have HPP2 := Lib.hid hp
    clear hb hown hp HB1 HJ1
    go_wp2_with fail
    refine (HQ.out w2 (HR.out.below HB2.out) (HS.out.below HB2.out)).mono ?_
    rintro e w3 ⟨⟨v, rfl, hown⟩, hb⟩
    obtain ⟨Q, q, rfl, _, hq⟩ := rd_own2 hown
    have HB3 := Lib.hid (below_self HB2.out hb)
    have HJ3 := Lib.hid (HJ2.out.below hb)
    have HPP3 := Lib.hid (HPP2.out.below hb)
    have HQQ3 := Lib.hid hq
    clear hb hown hq HB2 HJ2 HPP2
    go_wp2_with fail
    refine (equalPr_b P Q l.length l.length _ _ l l _ HPP3.out HQQ3.out (by unfold maxLen; omega) (by unfold maxLen; omega)).mono ?_
    rintro e w4 ⟨rfl, hb⟩
    rw [decide_eq_true rfl]
    have HB4 := Lib.hid (below_self HB3.out hb)
    have HJ4 := Lib.hid (HJ3.out.below hb)
    clear hb HB3 HJ3 HPP3 HQQ3
    go_wp2_with fail
    refine (HP2.out w4 D _ (HR.out.below HB4.out) HJ4.out).mono ?_
    rintro e w5 ⟨⟨v, rfl, hown⟩, hb⟩
    obtain ⟨P2, p2, rfl, _, hp⟩ := rd_own2 hown
    have HB5 := Lib.hid (below_self HB4.out hb)
    have HJ5 := Lib.hid (HJ4.out.below hb)
    have HPP5 := Lib.hid hp
    clear hb hown hp HB4 HJ4
    go_wp2_with fail
    refine (HQ2.out w5 D _ (HR.out.below HB5.out) HJ5.out).mono ?_
    rintro e w6 ⟨⟨v, rfl, hown⟩, hb⟩
    obtain ⟨Q2, q2, rfl, _, hq⟩ := rd_own2 hown
    have HB6 := Lib.hid (below_self HB5.out hb)
    have HPP6 := Lib.hid (HPP5.out.below hb)
    have HQQ6 := Lib.hid hq
    clear hb hown hq HB5 HJ5 HPP5
    go_wp2_with fail
    refine (equalPr_b P2 Q2 l2.length l2.length _ _ l2 l2 _ HPP6.out HQQ6.out (by unfold maxLen; omega) (by unfold maxLen; omega)).mono ?_
    rintro e w7 ⟨rfl, hb⟩
    rw [decide_eq_true rfl]
    have HB7 := Lib.hid (below_self HB6.out hb)
    clear hb HB6 HPP6 HQQ6
    go_wp2_with fail
    refine (awakeLf_any _).mono ?_
    rintro e w8 ⟨rfl, hb⟩
    have HB8 := Lib.hid (below_self HB7.out hb)
    clear hb
    go_wp2
    go_ret
    exact ⟨rfl, HB8.out⟩
  · have hway : 200 < n ∨ (n ≤ 200 ∧ 200 < m) := by omega
    clear hr hs hsz
    rcases hway with h | ⟨h, h'⟩
    all_goals
      go_enter Try.func8, Try.ntmps8
      go_wp2_with fail
      refine (awakeLf_any _).mono ?_
      rintro e w8 ⟨rfl, hb⟩
      go_wp2
      go_ret
      exact ⟨rfl, hb⟩
set_option maxRecDepth 100000 in
set_option maxHeartbeats 4000000 in
theorem lamalefCodes_any (A B C : Option Addr) (n m q c d f : Nat) (xs ts : List Int) (l : List Sp) (w : World) (hr : Rd w 1 A n (xs.map (Value.int .i64))) (hs : Rd w 1 B m (ts.map (Value.int .i64))) (hl : Rd w 2 C q (cellsS l)) (hn : n ≤ maxLen) (hm : m ≤ maxLen) (hq : q ≤ maxLen) (hmd : m ≤ d) :
    Calls Try.prog 9 #[.slice A n c, .slice B m d, .slice C q f] w fun e w' => e = .returned (.bool true) ∧ Below w.heap.size w w' := by
  unfold maxLen at hn hm hq
  have hll : l.length = q := by have := hl.1; rw [cellsS_len] at this; omega
  by_cases hsz : n ≤ 200 ∧ m ≤ 200 ∧ q ≤ 100
  · obtain ⟨h1, h2, h3⟩ := hsz
    have HR := Lib.hid hr
    have HS := Lib.hid hs
    have HL := Lib.hid hl
    have HLL := Lib.hid hll
    clear hr hs hl hll
    go_enter Try.func9, Try.ntmps9
    go_wp2_with fail
    go_loopw [7, 26] (fun o i wr => ∃ k : Nat, k ≤ q ∧ i = .int .i64 k ∧ o = .bool true ∧ Below w.heap.size w wr) (fun _ i _ => q - (intOf i).toNat)
    case atStart => exact ⟨0, Nat.zero_le _, rfl, rfl, Below.refl _ _⟩
    case round =>
      obtain ⟨k, hk, rfl, rfl, hb⟩ := hrel
      by_cases hlt : k < q
      · obtain ⟨p, hpk⟩ : ∃ p, l[k]? = some p := ⟨_, List.getElem?_eq_getElem (by rw [HLL.out]; exact hlt)⟩
        have hsp := (HL.out.below hb).span hpk
        obtain ⟨cd, rfl, hcd, p1, p2⟩ := hsp
        obtain ⟨a, b⟩ := p
        simp only at p1 p2
        have hnb := below_new wr (.cells #[.int .i64 a, .int .i64 b] 37)
        have e0 : (wr.alloc (.cells #[.int .i64 a, .int .i64 b] 37)).cell? ⟨wr.heap.size, 0, none⟩ = some (.int .i64 a) := by rw [World.cell?_alloc_at _ _ _ _ rfl]; rfl
        have HB2 := Lib.hid (below_self hb hnb)
        clear hpk hnb hb
        go_wp2_with fail
        generalize (wr.alloc (.cells #[.int .i64 a, .int .i64 b] 37)) = w0 at *
        obtain ⟨pb, hpb⟩ : ∃ pb, wr.heap.size = pb := ⟨_, rfl⟩
        simp only [hpb] at e0 ⊢
        clear hpb p1 p2
        obtain ⟨al, hal⟩ : ∃ al, alefB a = al := ⟨_, rfl⟩
        have HA1 := Lib.hid (fun w => lfAlef_any a w)
        have HA2 := Lib.hid (fun w => refAlef_any a w)
        rw [hal] at HA1 HA2
        clear hal
        go_region_held3 (fun w' => w'.cell? ⟨pb, 0, none⟩ = some (.int .i64 a) ∧ Below w0.heap.size w0 w')
          (first
            | exact ⟨e0, (Below.refl _ _).drew⟩
            | exact ⟨cell_below h1 (by assumption : _ ∧ Below w0.heap.size w0 _).1, below_self (by assumption : _ ∧ Below w0.heap.size w0 _).2 h1⟩
            | exact ⟨cell_below h1 e0, below_self (Below.refl _ _).drew h1⟩
            | fail)
          (first
            | (go_at_call 32; with_reducible refine (HA1.out _).mono ?_; rintro e w3 ⟨rfl, h1⟩)
            | (go_at_call 33; with_reducible refine (HA2.out _).mono ?_; rintro e w3 ⟨rfl, h1⟩)
            | fail)
        have hfin := (by assumption : _ ∧ Below w0.heap.size w0 _).2
        have HFI := Lib.hid (below_self HB2.out hfin)
        go_wp2
        go_roundw
        case rel => exact ⟨k + 1, by omega, by go_num, by simp, HFI.out⟩
        case measure => simp [intOf]; omega
      · obtain rfl : k = q := by omega
        have HB := Lib.hid hb
        clear hb
        go_wp2_with fail
        refine (lfCodes_any A B C n m k c d f xs ts l _ (HR.out.below HB.out) (HS.out.below HB.out) (HL.out.below HB.out) (by omega) hmd (by omega)).mono ?_
        rintro e w2 ⟨⟨g, _, rfl, hg⟩, hb⟩
        have hz := rd_intsZ hg (n := k) (by unfold lcAll; rw [List.length_map, HLL.out])
        have HZ := Lib.hid hz
        have HB2 := Lib.hid (below_self HB.out hb)
        clear hg hz hb HB
        go_wp2_with fail
        refine (refCodes_any A B C n m k c d f xs ts l _ (HR.out.below HB2.out) (HS.out.below HB2.out) (HL.out.below HB2.out) (by omega) (by omega)).mono ?_
        rintro e w3 ⟨⟨v, rfl, hown⟩, hb⟩
        obtain ⟨Q, q2, rfl, _, hq2⟩ := rd_own hown
        have HB3 := Lib.hid (below_self HB2.out hb)
        have HZ3 := Lib.hid (HZ.out.below hb)
        have HQ3 := Lib.hid hq2
        clear hown hb hq2 HB2 HZ
        go_wp2_with fail
        refine (equalInt_b _ _ k k _ _ (lcAll xs ts l) (lcAll xs ts l) _ HZ3.out HQ3.out (by unfold maxLen; omega) (by unfold maxLen; omega)).mono ?_
        rintro e w4 ⟨rfl, hb⟩
        rw [decide_eq_true rfl]
        have HB4 := Lib.hid (below_self HB3.out hb)
        clear hb HB3
        go_wp2_with fail
        refine (awakeLf_any _).mono ?_
        rintro e w8 ⟨rfl, hb⟩
        have HB8 := Lib.hid (below_self HB4.out hb)
        clear hb
        go_wp2
        go_ret
        exact ⟨rfl, HB8.out⟩
  · have hway : 200 < n ∨ (n ≤ 200 ∧ 200 < m) ∨ (n ≤ 200 ∧ m ≤ 200 ∧ 100 < q) := by omega
    clear hr hs hl hll hsz
    rcases hway with h | ⟨h, h'⟩ | ⟨h, h', h''⟩
    all_goals
      go_enter Try.func9, Try.ntmps9
      go_wp2_with fail
      refine (awakeLf_any _).mono ?_
      rintro e w8 ⟨rfl, hb⟩
      go_wp2
      go_ret
      exact ⟨rfl, hb⟩
end Go.Proofs.Ytcjcimdembkbkaa
