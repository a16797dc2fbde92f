/- cluster's link, walked. -/
import Derived.Test.YtnmefomipldalaaFinLk
namespace Go.Proofs.Ytnmefomipldalaa
open Go.RowKit

theorem LkAt.start {L : List NC} {w W' : World} {B1 B2 : Blk} {n m : Nat} {X : Nat → Nat → Nat → Nat → Prop} {g : Nat} {A B : Sd} {a b c d p E c0 d0 : Nat} (hb : Both n m A B) (sA : Sound L false n A) (sB : Sound L true m B) (hl : ∀ a b c d, X a b c d → Lies A a b c d) (hx : (⟨a, b, c, d⟩ : NC) ∈ L) (h1 : a < b) (h2 : b ≤ n) (h3 : c < d) (hp : p = A.r a) (hE : E = A.e (A.r (b - 1))) (ht : Took n m A p E c d c0 d0) (g1 : p ≤ a) (g2 : b ≤ E) (hA : SdAt W' B1 n (takeS A p E ((c0 : Int), (d0 : Int)))) (hB : SdAt W' B2 m B)
    (h8 : SpanBlk W' g ((p : Int), (E : Int))) (h9 : SpanBlk W' (g + 1) ((c0 : Int), (d0 : Int))) (hk : Kept w W' (B1.wr ++ B2.wr)) (low : w.heap.size ≤ g ∧ B1.b < w.heap.size ∧ B1.gA < w.heap.size ∧ B1.gE < w.heap.size ∧ B1.mB < w.heap.size ∧ B2.b < w.heap.size ∧ B2.gA < w.heap.size ∧ B2.gE < w.heap.size ∧ B2.mB < w.heap.size) (hap : BlkApart B1 B2) :
    LkAt L w W' B1 B2 n m (fun a' b' c' d' => X a' b' c' d' ∨ (a' = a ∧ b' = b ∧ c' = c ∧ d' = d)) g false B1 B2 n m (takeS A p E ((c0 : Int), (d0 : Int))) B p c0 d0 := by
  have hs := sA
  subst hp hE
  refine ⟨.inl ⟨rfl, rfl, rfl, rfl, rfl⟩, hA, hB, hb.start h3 ht, take_sound hb.okA sA h1 h2 ht (fun i h4 h5 => .link _ _ _ hx ?_ ?_) (fun j h4 h5 => .link _ _ _ hx ?_ ?_) h3 ⟨_, hx, ⟨h1, h3⟩, rfl⟩ ⟨_, hx, ⟨h1, h3⟩, rfl⟩, sB, fun a' b' c' d' hh => ?_, ?_, h9, hk, low, hap⟩
  · show a ≤ a ∧ a < b; omega
  · show a ≤ i ∧ i < b; omega
  · show a ≤ a ∧ a < b; omega
  · show c ≤ j ∧ j < d; omega
  · rcases hh with hh | ⟨rfl, rfl, rfl, rfl⟩
    · exact take_lies hb.okA ht (hl _ _ _ _ hh)
    · exact took_lies ht g1 g2
  · rw [(take_at _).2]; exact h8
theorem span_drew {w : World} {g : Nat} {s : Sp} (h : SpanBlk w g s) : SpanBlk w.drew g s := h
theorem LkAt.lows {L : List NC} {w W : World} {B1 B2 : Blk} {n m : Nat} {X : Nat → Nat → Nat → Nat → Prop} {g : Nat} {s : Bool} {BN BF : Blk} {nn nf : Nat} {N F : Sd} {p y z : Nat} (h : LkAt L w W B1 B2 n m X g s BN BF nn nf N F p y z) : (BN.b < g ∧ BN.gA < g ∧ BN.gE < g ∧ BN.mB < g) ∧ (BF.b < g ∧ BF.gA < g ∧ BF.gE < g ∧ BF.mB < g) ∧ nn + nf = n + m := by
  obtain ⟨l0, l1, l2, l3, l4, l5, l6, l7, l8⟩ := h.low
  rcases h.which with ⟨_, rfl, rfl, rfl, rfl⟩ | ⟨_, rfl, rfl, rfl, rfl⟩ <;> omega
theorem LkAt.next {L : List NC} {w W wx : World} {B1 B2 : Blk} {n m : Nat} {X : Nat → Nat → Nat → Nat → Prop} {g : Nat} {s : Bool} {BN BF : Blk} {nn nf : Nat} {N F : Sd} {p y z P E' c d : Nat} (h : LkAt L w W B1 B2 n m X g s BN BF nn nf N F p y z) (hP : F.r y = P) (hE : F.e (F.r (z - 1)) = E') (f1 : P ≤ y) (f2 : z ≤ E') (ht : Took nf nn F P E' p (N.e p) c d) (hF : SdAt wx BF nf (takeS F P E' ((c : Int), (d : Int)))) (hN : SdAt wx BN nn N) (hK : Kept w wx (B1.wr ++ B2.wr)) {u v : Sp} (h8 : SpanBlk wx g u) (h9 : SpanBlk wx (g + 1) v) :
    LkAt L w ((((wx.setCell ⟨g, 0, none⟩ (.int .i64 (P : Int))).setCell ⟨g, 1, none⟩ (.int .i64 (E' : Int))).setCell ⟨g + 1, 0, none⟩ (.int .i64 (c : Int))).setCell ⟨g + 1, 1, none⟩ (.int .i64 (d : Int))).drew B1 B2 n m X g (!s) BF BN nf nn (takeS F P E' ((c : Int), (d : Int))) N P c d := by
  obtain ⟨⟨l1, l2, l3, l4⟩, ⟨l5, l6, l7, l8⟩, _⟩ := h.lows
  have hlw := h.low.1
  have s1 : g ∈ [g, g + 1] := by simp
  have s2 : g + 1 ∈ [g, g + 1] := by simp
  have j1 := (Kept.refl wx [g, g + 1]).set (g := g) (.inl s1) 0 (.int .i64 (P : Int))
  have j2 := j1.set (g := g) (.inl s1) 1 (.int .i64 (E' : Int))
  have j3 := j2.set (g := g + 1) (.inl s2) 0 (.int .i64 (c : Int))
  have K4 := (j3.set (g := g + 1) (.inl s2) 1 (.int .i64 (d : Int))).drew
  have i1 := hK.set (g := g) (.inr hlw) 0 (.int .i64 (P : Int))
  have i2 := i1.set (g := g) (.inr hlw) 1 (.int .i64 (E' : Int))
  have i3 := i2.set (g := g + 1) (.inr (by omega)) 0 (.int .i64 (c : Int))
  have I4 := (i3.set (g := g + 1) (.inr (by omega)) 1 (.int .i64 (d : Int))).drew
  have hb8 := h8.put (P : Int) (E' : Int)
  have hb9 := h9.far (b' := g) (by omega) (.int .i64 (P : Int)) (.int .i64 (E' : Int))
  have hc8 := hb8.far (b' := g + 1) (by omega) (.int .i64 (c : Int)) (.int .i64 (d : Int))
  have hc9 := hb9.put (c : Int) (d : Int)
  have hno : ∀ k, k < g → k ∉ [g, g + 1] := fun k hk hm => by simp at hm; omega
  have hF' := hF.kept K4 ⟨hno _ l5, hno _ l6, hno _ l7, hno _ l8⟩
  have hN' := hN.kept K4 ⟨hno _ l1, hno _ l2, hno _ l3, hno _ l4⟩
  exact h.turn hP.symm hE.symm f1 f2 ht hF' hN' I4 (span_drew hc8) (span_drew hc9)
set_option maxRecDepth 100000 in
set_option maxHeartbeats 2000000 in
theorem link_any (B1 B2 : Blk) (n m a b c d : Nat) (A B : Sd) (L : List NC) (X : Nat → Nat → Nat → Nat → Prop) (hn : n ≤ 100000000) (hm : m ≤ 100000000) (h1 : a < b) (h2 : b ≤ n) (h3 : c < d) (h4 : d ≤ m) (hx : (⟨a, b, c, d⟩ : NC) ∈ L)
    (hb : Both n m A B) (sA : Sound L false n A) (sB : Sound L true m B) (hl : ∀ a b c d, X a b c d → Lies A a b c d) (hap : BlkApart B1 B2) (w : World) (hA : SdAt w B1 n A) (hB : SdAt w B2 m B) :
    Calls Try.prog 49 #[.pointer (some ⟨B1.b, 0, none⟩), .pointer (some ⟨B2.b, 0, none⟩), .agg #[.int .i64 (a : Int), .int .i64 (b : Int), .int .i64 (c : Int), .int .i64 (d : Int)]] w fun e' w' => e' = .returned (.tuple #[]) ∧ ∃ A' B', LkDone L w w' B1 B2 n m (fun a' b' c' d' => X a' b' c' d' ∨ (a' = a ∧ b' = b ∧ c' = c ∧ d' = d)) A' B' := by
  obtain ⟨c0, d0, ht, g1, g2, htk⟩ := take_sd B1 n m a b c d A hb.okA h1 h2 h3 h4 hn
  obtain ⟨p, hp⟩ : ∃ p, A.r a = p := ⟨_, rfl⟩
  obtain ⟨E, hE⟩ : ∃ E, A.e (A.r (b - 1)) = E := ⟨_, rfl⟩
  rw [hp, hE] at ht htk
  rw [hp] at g1
  rw [hE] at g2
  have low := hA.lt
  have low2 := hB.lt
  have HST := Lib.hid (fun (W' : World) (g : Nat) (hA' : SdAt W' B1 n (takeS A p E ((c0 : Int), (d0 : Int)))) (hB' : SdAt W' B2 m B) (h8 : SpanBlk W' g ((p : Int), (E : Int))) (h9 : SpanBlk W' (g + 1) ((c0 : Int), (d0 : Int))) (hk : Kept w W' (B1.wr ++ B2.wr)) (hg : w.heap.size ≤ g) =>
    LkAt.start (L := L) (w := w) (W' := W') (X := X) (g := g) hb sA sB hl hx h1 h2 h3 hp.symm hE.symm ht g1 g2 hA' hB' h8 h9 hk (by omega) hap)
  have HTK := Lib.hid (fun W hW => htk W (SdAt.old hA hW))
  have HB := Lib.hid (fun W (hW : Kept w W B1.wr) => hB.kept hW hap.bc)
  clear hb sA sB hl hx hp hE ht htk hA hB hap low low2
  go_enter Try.func49, Try.ntmps49
  go_wp2_with (go_at_call 82; refine (HTK.out _ (by first | exact Kept.of_below (below_new w _) _ | exact Kept.drew (Kept.of_below (below_new w _) _))).mono ?_; rintro e' W1 ⟨rfl, hs1, hk1⟩)
  have hb1 := below_new W1 (.cells #[.int .i64 (p : Int), .int .i64 (E : Int)] 31)
  have hb2 := below_new (W1.alloc (.cells #[.int .i64 (p : Int), .int .i64 (E : Int)] 31)) (.cells #[.int .i64 (c0 : Int), .int .i64 (d0 : Int)] 31)
  have b8 := (SpanBlk.new_ W1 (p : Int) (E : Int) 31).below hb2
  have b9 := SpanBlk.new_ (W1.alloc (.cells #[.int .i64 (p : Int), .int .i64 (E : Int)] 31)) (c0 : Int) (d0 : Int) 31
  simp only [World.size_alloc] at b9
  have hkw : Kept w W1 B1.wr := (Kept.of_below (below_new w _) _).trans hk1
  have hall := below_self hb1 hb2
  have hgw : w.heap.size ≤ W1.heap.size := hkw.size
  have HREL := Lib.hid (HST.out _ W1.heap.size (hs1.old (Kept.of_below hall [])) ((HB.out W1 hkw).old (Kept.of_below hall [])) b8 b9 ((hkw.more (fun x hx => List.mem_append_left _ hx)).trans (Kept.of_below hall _)) hgw)
  clear b8 b9 hb1 hb2 hkw hall hgw hs1 hk1 HST HTK HB
  generalize hW2 : ((W1.alloc (.cells #[.int .i64 (p : Int), .int .i64 (E : Int)] 31)).alloc (.cells #[.int .i64 (c0 : Int), .int .i64 (d0 : Int)] 31)) = W2 at *
  clear hW2
  obtain ⟨g, hg⟩ : ∃ g, W1.heap.size = g := ⟨_, rfl⟩
  rw [hg] at HREL
  simp only [hg]
  clear hg
  go_loopg [6, 7] (n + m - ((E - p) + (d0 - c0))) (fun gh s6 s7 wr => ∃ s BN BF nn nf N F p y z, gh = n + m - ((N.e p - p) + (z - y)) ∧ s6 = .pointer (some ⟨BN.b, 0, none⟩) ∧ s7 = .pointer (some ⟨BF.b, 0, none⟩) ∧ LkAt L w wr B1 B2 n m (fun a' b' c' d' => X a' b' c' d' ∨ (a' = a ∧ b' = b ∧ c' = c ∧ d' = d)) g s BN BF nn nf N F p y z)
  case atStart => exact ⟨false, B1, B2, n, m, _, B, p, c0, d0, by rw [(take_at _).2], rfl, rfl, HREL.out⟩
  case round =>
    obtain ⟨s, BN, BF, nn, nf, N, F, p, y, z, hgh, rfl, rfl, hT⟩ := hrel
    obtain ⟨k1, k2, k3, k4⟩ := hT.nums
    obtain ⟨k5, k6⟩ := hT.size
    obtain ⟨c1, d1, ht, f1, f2, htk⟩ := take_sd BF nf nn y z p (N.e p) F hT.fro.okF k1 k2 k3 k4 (by omega)
    obtain ⟨P, hP⟩ : ∃ P, F.r y = P := ⟨_, rfl⟩
    obtain ⟨E', hE⟩ : ∃ E', F.e (F.r (z - 1)) = E' := ⟨_, rfl⟩
    obtain ⟨Q, hQ⟩ : ∃ Q, N.e p = Q := ⟨_, rfl⟩
    rw [hP, hE] at ht htk
    rw [hQ] at htk
    rw [hP] at f1
    rw [hE] at f2
    have h8 := hT.c8
    have h9 := hT.c9
    rw [hQ] at h8
    have HT := Lib.hid hT
    have HTK := Lib.hid htk
    have HTT := Lib.hid ht
    have HH8 := Lib.hid h8
    have HH9 := Lib.hid h9
    have HP := Lib.hid hP
    have HE := Lib.hid hE
    have HQ := Lib.hid hQ
    obtain ⟨u0, u1, _, _⟩ := h8
    obtain ⟨u2, u3, _, _⟩ := h9
    clear hT ht htk hP hE hQ
    go_upto_region 3 with fail
    go_cut [10, 11] (fun s10 s11 wx => ∃ g10 g11, s10 = .pointer (some ⟨g10, 0, none⟩) ∧ s11 = .pointer (some ⟨g11, 0, none⟩) ∧ g + 1 < g10 ∧ g11 = g10 + 1 ∧ SpanBlk wx g10 ((P : Int), (E' : Int)) ∧ SpanBlk wx g11 ((c1 : Int), (d1 : Int)) ∧ SpanBlk wx g ((p : Int), (Q : Int)) ∧ SpanBlk wx (g + 1) ((y : Int), (z : Int)) ∧ SdAt wx BF nf (takeS F P E' ((c1 : Int), (d1 : Int))) ∧ SdAt wx BN nn N ∧ Kept w wx (B1.wr ++ B2.wr))
    case first =>
      go_wp2_with (go_at_call 82; refine (HTK.out _ (by first | exact HT.out.atF | exact SdAt.old HT.out.atF (Kept.drew (Kept.refl _ _)))).mono ?_; rintro e' W1 ⟨rfl, hs1, hk1⟩)
      have hS := HT.out.sides
      have hlw := HT.out.low
      have hq1 : Kept wr W1 BF.wr := by first | exact hk1 | exact (Kept.drew (Kept.refl _ _)).trans hk1
      have hn8 : g ∉ BF.wr := fun hm => by have := hS.2.2 g hm; omega
      have hn9 : g + 1 ∉ BF.wr := fun hm => by have := hS.2.2 (g + 1) hm; omega
      have hl8 : g < wr.heap.size := cell_lt u0
      have hl9 : g + 1 < wr.heap.size := cell_lt u2
      have hb1 := below_new W1 (.cells #[.int .i64 (P : Int), .int .i64 (E' : Int)] 31)
      have hb2 := below_new (W1.alloc (.cells #[.int .i64 (P : Int), .int .i64 (E' : Int)] 31)) (.cells #[.int .i64 (c1 : Int), .int .i64 (d1 : Int)] 31)
      have b8 := (SpanBlk.new_ W1 (P : Int) (E' : Int) 31).below hb2
      have b9 := SpanBlk.new_ (W1.alloc (.cells #[.int .i64 (P : Int), .int .i64 (E' : Int)] 31)) (c1 : Int) (d1 : Int) 31
      simp only [World.size_alloc] at b9
      have hall := below_self hb1 hb2
      go_meet
      exact ⟨W1.heap.size, W1.heap.size + 1, rfl, rfl, Nat.lt_of_lt_of_le hl9 hq1.size, rfl, b8, b9, (span_of_heap HH8.out (hq1.block g hl8 hn8)).below hall, (span_of_heap HH9.out (hq1.block (g + 1) hl9 hn9)).below hall, hs1.old (Kept.of_below hall []), (HT.out.atN.kept hq1 hS.1).old (Kept.of_below hall []), (HT.out.kept.trans (hq1.more hS.2.1)).trans (Kept.of_below hall _)⟩
    case rest =>
    obtain ⟨g10, g11, rfl, rfl, hg1, rfl, b10, b11, b8, b9, hF, hN, hK⟩ := hcut
    clear HTK HH8 HH9 u0 u1 u2 u3
    have B8 := Lib.hid b8
    obtain ⟨u0, u1, v0, v1⟩ := b8
    have B9 := Lib.hid b9
    obtain ⟨u2, u3, v2, v3⟩ := b9
    obtain ⟨u4, u5, _, _⟩ := b10
    obtain ⟨u6, u7, _, _⟩ := b11
    have hgd := guardSp
    have HF := Lib.hid hF
    have HN := Lib.hid hN
    have HK := Lib.hid hK
    clear hF hN hK
    by_cases q1 : ((P : Int) = (y : Int) ∧ (E' : Int) = (z : Int))
    · by_cases q2 : ((c1 : Int) = (p : Int) ∧ (d1 : Int) = (Q : Int))
      · have he1 : ∀ w, (binOp .eql 31 (.agg #[.int .i64 (P : Int), .int .i64 (E' : Int)]) (.agg #[.int .i64 (y : Int), .int .i64 (z : Int)])).run Try.prog w = .ok (.bool true) w := fun w => by rw [eqlS_any, decide_eq_true q1]
        have he2 : ∀ w, (binOp .eql 31 (.agg #[.int .i64 (c1 : Int), .int .i64 (d1 : Int)]) (.agg #[.int .i64 (p : Int), .int .i64 (Q : Int)])).run Try.prog w = .ok (.bool true) w := fun w => by rw [eqlS_any, decide_eq_true q2]
        have HQ1 := Lib.hid q1
        have HQ2 := Lib.hid q2
        clear q1 q2
        have e1 : P = y := by have := HQ1.out; omega
        have e2 : E' = z := by have := HQ1.out; omega
        have e3 : c1 = p := by have := HQ2.out; omega
        have e4 : d1 = N.e p := by have := HQ2.out; have := HQ.out; omega
        have hd := HT.out.done (by rw [HP.out, e1]) (by rw [HE.out, e2]) (by have h9 := HTT.out; rw [e1, e2, e3, e4] at h9; exact h9) (by have h9 := HF.out; rw [e1, e2, e3, e4] at h9; exact h9) HN.out HK.out
        have HD := Lib.hid hd
        clear hd e1 e2 e3 e4
        go_wp2_with fail
        exact bodyPost_ret (v := .tuple #[]) (by simp [results, go_sem]) rfl ⟨rfl, HD.out⟩
      · have he1 : ∀ w, (binOp .eql 31 (.agg #[.int .i64 (P : Int), .int .i64 (E' : Int)]) (.agg #[.int .i64 (y : Int), .int .i64 (z : Int)])).run Try.prog w = .ok (.bool true) w := fun w => by rw [eqlS_any, decide_eq_true q1]
        have he2 : ∀ w, (binOp .eql 31 (.agg #[.int .i64 (c1 : Int), .int .i64 (d1 : Int)]) (.agg #[.int .i64 (p : Int), .int .i64 (Q : Int)])).run Try.prog w = .ok (.bool false) w := fun w => by rw [eqlS_any, decide_eq_false q2]
        have HQ2 := Lib.hid (show ¬(P = y ∧ E' = z ∧ c1 = p ∧ d1 = Q) from fun hh => q2 (by omega))
        clear q1 q2
        go_wp2_with fail
        go_region
        all_goals
          go_wp2_with fail
          have hnx := HT.out.next HP.out HE.out f1 f2 HTT.out HF.out HN.out HK.out B8.out B9.out
          have hlo := HTT.out.lo
          have hhi := HTT.out.hi
          have htp := HTT.out.top
          have hle := HTT.out.cut.le
          have hnm := HT.out.lows.2.2
          have hnq := HQ2.out
          have hqq := HQ.out
          go_roundg (n + m - ((E' - P) + (d1 - c1)))
          case rel => exact ⟨_, BF, BN, nf, nn, _, N, P, c1, d1, by rw [(take_at _).2], rfl, rfl, hnx⟩
          case measure => omega
    · have he1 : ∀ w, (binOp .eql 31 (.agg #[.int .i64 (P : Int), .int .i64 (E' : Int)]) (.agg #[.int .i64 (y : Int), .int .i64 (z : Int)])).run Try.prog w = .ok (.bool false) w := fun w => by rw [eqlS_any, decide_eq_false q1]
      have HQ2 := Lib.hid (show ¬(P = y ∧ E' = z ∧ c1 = p ∧ d1 = Q) from fun hh => q1 (by omega))
      clear q1
      go_wp2_with fail
      go_region
      all_goals
        go_wp2_with fail
        have hnx := HT.out.next HP.out HE.out f1 f2 HTT.out HF.out HN.out HK.out B8.out B9.out
        have hlo := HTT.out.lo
        have hhi := HTT.out.hi
        have htp := HTT.out.top
        have hle := HTT.out.cut.le
        have hnm := HT.out.lows.2.2
        have hnq := HQ2.out
        have hqq := HQ.out
        go_roundg (n + m - ((E' - P) + (d1 - c1)))
        case rel => exact ⟨_, BF, BN, nf, nn, _, N, P, c1, d1, by rw [(take_at _).2], rfl, rfl, hnx⟩
        case measure => omega
end Go.Proofs.Ytnmefomipldalaa
