/- Texts of one claim, one behind the other. -/
import Derived.Laws.StructEq
import Derived.Deep.RegionHeld3
import Derived.Test.YtcjcimdembkbkaaMgLo1
import Derived.Test.YtcjcimdembkbkaaMgLo5
import Derived.Test.YtcjcimdembkbkaaMgLo6
/- lamalef.Codes. -/
namespace Go.Proofs.Ytcjcimdembkbkaa
open Go.RowKit

set_option maxRecDepth 100000 in
set_option maxHeartbeats 8000000 in
theorem lfCodes_any (A B C : Option Addr) (n m q c d f : Nat) (xs ts : List Int) (l : List Sp) (w : World) (hr : Rd w 1 A n (xs.map (Value.int .i64))) (hs : Rd w 1 B m (ts.map (Value.int .i64))) (hl : Rd w 2 C q (cellsS l)) (hm : m ≤ 1000000) (hmd : m ≤ d) (hq : q ≤ 1000000) :
    Calls Try.prog 34 #[.slice A n c, .slice B m d, .slice C q f] w fun e w' => (∃ g, w.heap.size ≤ g ∧ e = .returned (.slice (some ⟨g, 0, none⟩) q q) ∧ w'.heap[g]? = some (.cells (intsZ (lcAll xs ts l)).toArray 3 (0, 0))) ∧ Below w.heap.size w w' := by
  have hxl : xs.length = n := by simpa using hr.len1
  have hll : l.length = q := by have := hl.1; rw [cellsS_len] at this; omega
  have hmk := mk_intsZ q (by omega)
  have hw1 : (w.alloc (.cells (intsZ (List.replicate q 0)).toArray 3)).heap[w.heap.size]? = some (.cells (intsZ (List.replicate q 0)).toArray 3 (0, 0)) := heap_alloc_new _ _
  have hb1 := below_new w (.cells (intsZ (List.replicate q 0)).toArray 3)
  have HW := Lib.hid hw1
  have HB := Lib.hid hb1
  have HR := Lib.hid hr
  have HS := Lib.hid hs
  have HL := Lib.hid hl
  have HXL := Lib.hid hxl
  have HLL := Lib.hid hll
  clear hw1 hb1 hr hs hl hxl hll
  go_enter Try.func34, Try.ntmps34
  go_wp2_with fail
  generalize w.alloc (.cells (intsZ (List.replicate q 0)).toArray 3) = w1 at *
  obtain ⟨s, hse⟩ : ∃ s, w.heap.size = s := ⟨_, rfl⟩
  rw [hse] at HW
  simp only [hse]
  have HSE := Lib.hid hse
  clear hmk hse
  go_loopw [15] (fun i wr => ∃ k : Nat, k ≤ q ∧ i = .int .i64 k ∧ wr.heap[s]? = some (.cells (intsZ (lcPart xs ts l k)).toArray 3 (0, 0)) ∧ Below w.heap.size w wr) (fun i _ => q - (intOf i).toNat)
  case atStart => exact ⟨0, Nat.zero_le _, rfl, by rw [lcPart_zero, HLL.out]; exact HW.out, HB.out⟩
  case round =>
    obtain ⟨k, hk, rfl, hg, hb⟩ := hrel
    by_cases hlt : k < q
    · obtain ⟨p, hpk⟩ : ∃ p, l[k]? = some p := ⟨_, List.getElem?_eq_getElem (by rw [HLL.out]; exact hlt)⟩
      have hsp := (HL.out.below hb).span hpk
      obtain ⟨cd, rfl, hcd, p1, p2⟩ := hsp
      have hst := lcPart_stay (xs := xs) (ts := ts) hpk
      have hsu := lcPart_succ (xs := xs) (ts := ts) hpk
      obtain ⟨a, b⟩ := p
      simp only at p1 p2
      obtain ⟨v, hv⟩ : ∃ v, decide (0 ≤ a ∧ a < (n : Int) ∧ 0 ≤ b ∧ b < (n : Int)) = v := ⟨_, rfl⟩
      have HWI := Lib.hid (fun w => lfWithin_any A n c a b v hv w)
      have hnb := below_new wr (.cells #[.int .i64 a, .int .i64 b] 37)
      have ha0 : (wr.alloc (.cells #[.int .i64 a, .int .i64 b] 37)).cell? ⟨wr.heap.size, 0, none⟩ = some (.int .i64 a) := by rw [World.cell?_alloc_at _ _ _ _ rfl]; rfl
      have ha1 : (wr.alloc (.cells #[.int .i64 a, .int .i64 b] 37)).cell? ⟨wr.heap.size, 1, none⟩ = some (.int .i64 b) := by rw [World.cell?_alloc_at _ _ _ _ rfl]; rfl
      have HG := Lib.hid hg
      have HBR := Lib.hid hb
      cases v with
      | false =>
        have hc0 : lfCode ligV xs ts (a, b) = 0 := by
          unfold lfCode
          rw [HXL.out]
          exact if_neg (fun h => of_decide_eq_false hv h)
        have HST := Lib.hid (hst hc0)
        clear hst hsu hg hb hpk hv hc0
        go_wp2_with (first
          | (go_at_call 52; with_reducible refine (HWI.out _).mono ?_; rintro e w2 ⟨rfl, hb2⟩)
          | fail)
        go_roundw
        case rel => exact ⟨k + 1, by omega, by go_num, by rw [HST.out]; exact (hb2.block s (Nat.lt_of_lt_of_le (hp_lt HG.out) hnb.size)).trans ((hnb.block s (hp_lt HG.out)).trans HG.out), below_self (below_self HBR.out hnb) hb2⟩
        case measure => simp [intOf]; omega
      | true =>
        have hin := of_decide_eq_true hv
        obtain ⟨i1, i2, i3, i4⟩ := hin
        obtain ⟨bn, rfl⟩ : ∃ bn : Nat, b = bn := ⟨b.toNat, by omega⟩
        have hbn : bn < n := by omega
        obtain ⟨y, hy⟩ : ∃ y, xs[bn]? = some y := ⟨_, List.getElem?_eq_getElem (by rw [HXL.out]; exact hbn)⟩
        have hyd : xs.getD bn 0 = y := by simp [hy]
        obtain ⟨fv, hfv⟩ : ∃ fv, lfForm ts a = fv := ⟨_, rfl⟩
        have hf12 : fv = 1 ∨ fv = 2 := by rw [← hfv]; unfold lfForm; split <;> simp
        obtain ⟨x, ok, hx⟩ : ∃ x ok, ligF y fv = (x, ok) := ⟨_, _, rfl⟩
        have hc0 : lfCode ligV xs ts (a, (bn : Int)) = x := by
          unfold lfCode
          rw [HXL.out]
          simp only
          rw [if_pos ⟨i1, i2, i3, i4⟩, Int.toNat_natCast, hyd]
          show ligV y (lfForm ts a) = x
          rw [hfv]; unfold ligV; rw [hx]
        rw [hc0] at hsu
        have HSU := Lib.hid hsu
        have HFO := Lib.hid (fun w1 (h : Rd w1 1 B m (ts.map (Value.int .i64))) => lfForm_any B m d ts a fv hfv w1 h hm hmd)
        have HLI := Lib.hid (fun w => fmLigate_any y fv x ok hx (by omega) (by omega) w)
        have hcell := (HR.out.below HBR.out).at_ hbn
        obtain ⟨ad, rfl, had, hcc⟩ := hcell
        have cy : wr.cell? (ad.add bn) = some (.int .i64 y) := hcc _ (by rw [List.getElem?_map, hy]; rfl)
        clear hst hsu hg hb hpk hv hc0 hx hfv hf12 hyd hy hcc i1 i2 i3 i4
        go_wp2_with (first
          | (go_at_call 52; with_reducible refine (HWI.out _).mono ?_; rintro e w2 ⟨rfl, hb2⟩)
          | fail)
        have cyn : w2.cell? (ad.add bn) = some (.int .i64 y) := cell_below hb2 (cell_below hnb cy)
        have p1n := cell_below hb2 ha0
        have p2n := cell_below hb2 ha1
        have hgn : w2.heap[s]? = some (.cells (intsZ (lcPart xs ts l k)).toArray 3 (0, 0)) := (hb2.block s (Nat.lt_of_lt_of_le (hp_lt HG.out) hnb.size)).trans ((hnb.block s (hp_lt HG.out)).trans HG.out)
        have c9 : w2.cell? ⟨s, k, none⟩ = some (.int .i64 0) := hp_cell hgn (by have := lcPart_at (xs := xs) (ts := ts) (l := l) (k := k) (by rw [HLL.out]; exact hlt); simpa [intsZ] using this)
        have f9 := hp_froz hgn k
        have HG2 := Lib.hid hgn
        have HB2 := Lib.hid (below_self (below_self HBR.out hnb) hb2)
        obtain ⟨pb, hpb⟩ : ∃ pb, wr.heap.size = pb := ⟨_, rfl⟩
        simp only [hpb] at p1n p2n ⊢
        clear hgn ha0 ha1 cy p1 p2 hb2 hnb hpb
        have g2 : w2.drew.heap[s]? = some (.cells (intsZ (lcPart xs ts l k)).toArray 3 (0, 0)) := HG2.out
        have HGD := Lib.hid g2
        have HBD := Lib.hid HB2.out.drew
        have HCY := Lib.hid (show w2.drew.cell? (ad.add bn) = some (.int .i64 y) from cyn)
        have HP1 := Lib.hid (show w2.drew.cell? ⟨pb, 0, none⟩ = some (.int .i64 a) from p1n)
        have HP2 := Lib.hid (show w2.drew.cell? ⟨pb, 1, none⟩ = some (.int .i64 (bn : Int)) from p2n)
        have hx0 : (intsZ (lcPart xs ts l k)).toArray[k]? = some (.int .i64 0) := by have := lcPart_at (xs := xs) (ts := ts) (l := l) (k := k) (by rw [HLL.out]; exact hlt); simpa [intsZ] using this
        have HX0 := Lib.hid hx0
        clear g2 hx0
        go_region_with (first
          | (go_at_call 53; with_reducible refine (HFO.out _ (HS.out.below HBD.out)).mono ?_; rintro e w3 ⟨rfl, hb3⟩; have cy3 := cell_below hb3 HCY.out; have p13 := cell_below hb3 HP1.out; have p23 := cell_below hb3 HP2.out)
          | (go_at_call 50; with_reducible refine (HLI.out _).mono ?_; rintro e w4 ⟨rfl, hb4⟩; have g4 := (hb4.block s (Nat.lt_of_lt_of_le (hp_lt HGD.out) hb3.size)).trans ((hb3.block s (hp_lt HGD.out)).trans HGD.out); have c94 := hp_cell g4 HX0.out; have f94 := hp_froz g4 k)
          | fail)
        all_goals
          have HN := Lib.hid (hp_row g4 k x)
          have HBN := Lib.hid ((below_self (below_self HBD.out hb3) hb4).setCell (p := ⟨s, k, none⟩) (Nat.le_of_eq HSE.out) (.int .i64 x))
          clear g4 c94 f94 cy3 p13 p23 hb3 hb4 c9 f9
          go_wp2
          go_roundw
          case rel => exact ⟨k + 1, by omega, by go_num, by rw [HSU.out]; exact HN.out, HBN.out⟩
          case measure => simp [intOf]; omega
    · obtain rfl : k = q := by omega
      have hall := lcPart_all xs ts l
      rw [HLL.out] at hall
      rw [hall] at hg
      have HG := Lib.hid hg
      have HBR := Lib.hid hb
      clear hg hb hall
      go_wp2_with fail
      go_ret
      exact ⟨⟨s, Nat.le_of_eq HSE.out, rfl, HG.out⟩, HBR.out⟩
end Go.Proofs.Ytcjcimdembkbkaa
/- The reference's Codes. -/
namespace Go.Proofs.Ytcjcimdembkbkaa
open Go.RowKit

set_option maxRecDepth 100000 in
set_option maxHeartbeats 8000000 in
theorem refCodes_any (A B C : Option Addr) (n m q c d f : Nat) (xs ts : List Int) (l : List Sp) (w : World) (hr : Rd w 1 A n (xs.map (Value.int .i64))) (hs : Rd w 1 B m (ts.map (Value.int .i64))) (hl : Rd w 2 C q (cellsS l)) (hm : m ≤ 1000000) (hq : q ≤ 1000000) :
    Calls Try.prog 35 #[.slice A n c, .slice B m d, .slice C q f] w fun e w' => (∃ v, e = .returned v ∧ w'.ownsRow w.heap.size 3 1 v q ((lcAll xs ts l).map (Value.int .i64))) ∧ Below w.heap.size w w' := by
  have hxl : xs.length = n := by simpa using hr.len1
  have hll : l.length = q := by have := hl.1; rw [cellsS_len] at this; omega
  have HR := Lib.hid hr
  have HS := Lib.hid hs
  have HL := Lib.hid hl
  have HXL := Lib.hid hxl
  have HLL := Lib.hid hll
  clear hr hs hl hxl hll
  go_enter Try.func35, Try.ntmps35
  go_wp2_with fail
  go_loopw [7, 8] (fun v i wr => ∃ (k : Nat) (acc : List Int), k ≤ q ∧ i = .int .i64 k ∧ wr.ownsRow w.heap.size 3 1 v k (acc.map (Value.int .i64)) ∧ acc = (lcAll xs ts l).take k ∧ Below w.heap.size w wr) (fun _ i _ => q - (intOf i).toNat)
  case atStart => exact ⟨0, [], Nat.zero_le _, rfl, ⟨rfl, .inl ⟨rfl, rfl⟩⟩, by simp, Below.refl _ _⟩
  case round =>
    obtain ⟨k, acc, hk, rfl, hown, hd, hb⟩ := hrel
    by_cases hlt : k < q
    · obtain ⟨p, hpk⟩ : ∃ p, l[k]? = some p := ⟨_, List.getElem?_eq_getElem (by rw [HLL.out]; exact hlt)⟩
      have hsp := (HL.out.below hb).span hpk
      obtain ⟨cd, rfl, hcd, p1, p2⟩ := hsp
      have hacc : acc ++ [lfCode ligV xs ts p] = (lcAll xs ts l).take (k + 1) := by rw [hd, List.take_add_one]; unfold lcAll; rw [List.getElem?_map, hpk]; rfl
      obtain ⟨a, b⟩ := p
      simp only at p1 p2
      have hnb := below_new wr (.cells #[.int .i64 a, .int .i64 b] 37)
      have hbz := below_self hb hnb
      have HO := Lib.hid (own_below hown hnb)
      have HBR := Lib.hid hb
      by_cases hin : 0 ≤ a ∧ a < (n : Int) ∧ 0 ≤ b ∧ b < (n : Int)
      · obtain ⟨i1, i2, i3, i4⟩ := hin
        obtain ⟨bn, rfl⟩ : ∃ bn : Nat, b = bn := ⟨b.toNat, by omega⟩
        have hbn : bn < n := by omega
        obtain ⟨y, hy⟩ : ∃ y, xs[bn]? = some y := ⟨_, List.getElem?_eq_getElem (by rw [HXL.out]; exact hbn)⟩
        have hyd : xs.getD bn 0 = y := by simp [hy]
        obtain ⟨qa, hqa⟩ : ∃ qa, jAhead ts a = qa := ⟨_, rfl⟩
        obtain ⟨j, hj⟩ : ∃ j, jJoined ts qa = j := ⟨_, rfl⟩
        obtain ⟨fv, hfv⟩ : ∃ fv, (if j = true then (2 : Int) else 1) = fv := ⟨_, rfl⟩
        obtain ⟨x, ok, hx⟩ : ∃ x ok, ligF y fv = (x, ok) := ⟨_, _, rfl⟩
        have hc0 : lfCode ligV xs ts (a, (bn : Int)) = x := by
          unfold lfCode
          rw [HXL.out]
          simp only
          rw [if_pos ⟨i1, i2, i3, i4⟩, Int.toNat_natCast, hyd, hqa, hj, hfv]
          unfold ligV; rw [hx]
        rw [hc0] at hacc
        have HX := Lib.hid hacc
        have HA := Lib.hid (fun w1 (h : Rd w1 1 B m (ts.map (Value.int .i64))) => refAhead_any B m d ts a w1 h hm)
        rw [hqa] at HA
        have HJ := Lib.hid (fun w1 (h : Rd w1 1 B m (ts.map (Value.int .i64))) => refJoined_of B m d ts qa j hj w1 h hm)
        have HLI := Lib.hid (fun w => refLigate_any y fv x ok hx w)
        have hcell := (HR.out.below HBR.out).at_ hbn
        obtain ⟨ad, rfl, had, hcc⟩ := hcell
        have cy : wr.cell? (ad.add bn) = some (.int .i64 y) := hcc _ (by rw [List.getElem?_map, hy]; rfl)
        have cy0 := cell_below hnb cy
        have ha0 : (wr.alloc (.cells #[.int .i64 a, .int .i64 bn] 37)).cell? ⟨wr.heap.size, 1, none⟩ = some (.int .i64 bn) := by rw [World.cell?_alloc_at _ _ _ _ rfl]; rfl
        clear hacc hd hb hown hpk hx hyd hy hcc hqa hj hc0
        cases j
        all_goals
          simp only [if_true, Bool.false_eq_true, if_false] at hfv
          subst hfv
          go_wp2_with (first
            | (go_at_call 16; with_reducible refine (HA.out _ (HS.out.below hbz)).mono ?_; rintro e w1 ⟨rfl, rfl⟩)
            | (go_at_call 20; with_reducible refine (HJ.out _ (HS.out.below hbz)).mono ?_; rintro e w2 ⟨rfl, hb2⟩; have cy2 := cell_below hb2 cy0; have ha2 := cell_below hb2 ha0)
            | (go_at_call 51; with_reducible refine (HLI.out _).mono ?_; rintro e w3 ⟨rfl, hb3⟩)
            | (at_builtin; refine wpList_app rfl _ _ _ rfl intSliceJ (by decide) _ k _ rfl ((own_below (own_below HO.out hb2) hb3).alloc _) _ 1 1 [.int .i64 _] rfl rfl (cell_one_new _ _ _) (oneInt _ _) (by omega) (by unfold maxLen; omega) (Nat.le_trans (below_self (below_self hbz hb2) hb3).size (by simp)) ?_; intro v1 w4 hown1 hg1 hat1)
            | fail)
          have hb4 := below_self (below_self hbz hb2) hb3
          have hgr := below_app (hb4.alloc hb4.size _) hg1 ((own_below (own_below HO.out hb2) hb3).alloc _) (Nat.le_trans hb4.size (by simp))
          go_roundw
          case rel => exact ⟨k + 1, _, by omega, by go_num, by simpa using hown1, HX.out, hgr⟩
          case measure => simp [intOf]; omega
      · have hc0 : lfCode ligV xs ts (a, b) = 0 := by
          unfold lfCode
          rw [HXL.out]
          exact if_neg hin
        rw [hc0] at hacc
        have HX := Lib.hid hacc
        have hway : b < 0 ∨ (0 ≤ b ∧ (n : Int) ≤ b) ∨ (0 ≤ b ∧ b < n ∧ a < 0) ∨ (0 ≤ b ∧ b < n ∧ 0 ≤ a ∧ (n : Int) ≤ a) := by omega
        have hcn : ∀ (j : Nat) (u : Value), [Value.int .i64 0][j]? = some u → ((wr.alloc (.cells #[.int .i64 a, .int .i64 b] 37)).alloc (.cells #[.int .i64 0] 3)).cell? ((⟨wr.heap.size + 1, 0, none⟩ : Addr).add j) = some u := by
          have h := cell_one_new (wr.alloc (.cells #[.int .i64 a, .int .i64 b] 37)) (.int .i64 0) 3
          rwa [World.size_alloc] at h
        have HCN := Lib.hid hcn
        clear hacc hd hb hown hpk hc0 hin hcn
        rcases hway with h1 | ⟨h1, h2⟩ | ⟨h1, h2, h3⟩ | ⟨h1, h2, h3, h4⟩
        all_goals
          go_wp2_with (first
            | (at_builtin; refine wpList_app rfl _ _ _ rfl intSliceJ (by decide) _ k _ rfl (HO.out.alloc _) ⟨wr.heap.size + 1, 0, none⟩ 1 1 [.int .i64 0] rfl rfl HCN.out (oneInt _ _) (by omega) (by unfold maxLen; omega) (Nat.le_trans hbz.size (by simp)) ?_; intro v1 w4 hown1 hg1 hat1)
            | fail)
          have hgr := below_app (hbz.alloc hbz.size _) hg1 (HO.out.alloc _) (Nat.le_trans hbz.size (by simp))
          go_roundw
          case rel => exact ⟨k + 1, _, by omega, by go_num, by simpa using hown1, HX.out, hgr⟩
          case measure => simp [intOf]; omega
    · obtain rfl : k = q := by omega
      rw [hd, List.take_of_length_le (by unfold lcAll; rw [List.length_map, HLL.out]; exact Nat.le_refl _)] at hown
      have HO := Lib.hid hown
      have HB := Lib.hid hb
      clear hown hd hb
      go_wp2_with fail
      go_ret
      exact ⟨⟨_, rfl, HO.out⟩, HB.out⟩
end Go.Proofs.Ytcjcimdembkbkaa
/- slices.Equal at []api.Pair: whether the two slices read alike. -/
namespace Go.Proofs.Ytcjcimdembkbkaa
open Go.RowKit

theorem neqPr (a b : Sp) (w : World) : (binOp .neq 37 (.agg #[.int .i64 a.1, .int .i64 a.2]) (.agg #[.int .i64 b.1, .int .i64 b.2])).run Try.prog w = .ok (.bool (!(decide (a = b)))) w := by
  have u3 := Try.underlying3
  have a3 := Try.isAgg3
  have z3 := Try.sizeOf3
  have hS : Try.prog.underlying 37 = some (.struct (Try.prog.fieldsOf 37)) := by kernel_rfl
  have hp : Try.prog.stoodInHeld 37 = false := by kernel_rfl
  rw [run_neq_struct, show (10000 : Nat) = 9999 + 1 from rfl, run_equalIn_agg w 9999 37 _ _ hS hp]
  simp only [Program.fieldsOf, Try.underlying37]
  go_simp
  obtain ⟨a1, a2⟩ := a
  obtain ⟨b1, b2⟩ := b
  by_cases h1 : a1 = b1 <;> by_cases h2 : a2 = b2 <;> simp [h1, h2]
theorem guardPr : Try.prog.eqGuardType Try.prog.depth 37 = false := by kernel_rfl

theorem take_eq_succPr {xs ys : List Sp} {k : Nat} (h : xs.take k = ys.take k) {x : Sp} (h1 : xs[k]? = some x) (h2 : ys[k]? = some x) : xs.take (k + 1) = ys.take (k + 1) := by
  rw [List.take_add_one, List.take_add_one, h, h1, h2]

set_option maxRecDepth 100000 in
set_option maxHeartbeats 1000000 in
theorem equalPr_same (n : Nat) (A B : Option Addr) (c d : Nat) (xs ys : List Sp) (w : World) (hxn : xs.length = n) (hyn : ys.length = n)
    (hx : Rd w 2 A n (cellsS xs)) (hy : Rd w 2 B n (cellsS ys)) (hn : n ≤ maxLen) :
    Calls Try.prog 29 #[.slice A n c, .slice B n d] w fun e w' => e = .returned (.bool (decide (xs = ys))) ∧ ∃ q, w' = w.drewN q := by
  unfold maxLen at hn
  have HX := Lib.hid hxn
  have HY := Lib.hid hyn
  clear hxn hyn
  have hg := guardPr
  go_enter Try.func29, Try.ntmps29
  go_wp2
  go_loopw [13] (fun i wr => ∃ k q : Nat, k ≤ n ∧ i = .int .i64 k ∧ wr = w.drewN q ∧ xs.take k = ys.take k) (fun i _ => n - (intOf i).toNat)
  case atStart => exact ⟨0, 0, Nat.zero_le _, rfl, rfl, rfl⟩
  case round =>
    obtain ⟨k, q, hk, rfl, rfl, ht⟩ := hrel
    have HT := Lib.hid ht
    clear ht
    by_cases hlt : k < n
    · obtain ⟨x, hxk⟩ : ∃ x, xs[k]? = some x := ⟨_, List.getElem?_eq_getElem (by rw [HX.out]; exact hlt)⟩
      obtain ⟨y, hyk⟩ : ∃ y, ys[k]? = some y := ⟨_, List.getElem?_eq_getElem (by rw [HY.out]; exact hlt)⟩
      obtain ⟨a, rfl, _, a1, a2⟩ := hx.span hxk
      obtain ⟨b, rfl, _, b1, b2⟩ := hy.span hyk
      have hq := neqPr x y
      have HXK := Lib.hid hxk
      have HYK := Lib.hid hyk
      clear hxk hyk
      by_cases he : x = y
      · subst he
        simp only [decide_true, Bool.not_true] at hq
        obtain ⟨x1, x2⟩ := x
        simp only at a1 a2 b1 b2 hq
        go_wp2
        go_quiet (fail)
        go_wp2
        go_roundw
        case rel => exact ⟨k + 1, _, by omega, by go_num, rfl, take_eq_succPr HT.out HXK.out HYK.out⟩
        case measure => simp [intOf]; omega
      · have hf : decide (xs = ys) = false := decide_eq_false (fun e => he (by have h1 := HXK.out; rw [e, HYK.out] at h1; injection h1 with h1; exact h1.symm))
        rw [decide_eq_false he] at hq
        simp only [Bool.not_false] at hq
        clear he
        obtain ⟨x1, x2⟩ := x
        obtain ⟨y1, y2⟩ := y
        simp only at a1 a2 b1 b2 hq
        go_wp2
        go_quiet (fail)
        go_wp2
        go_ret
        exact ⟨retB (by simp [hf]), _, World.drewN_drewN _ _ _⟩
    · have htr : decide (xs = ys) = true := decide_eq_true (by
        have h := HT.out
        rwa [List.take_of_length_le (by rw [HX.out]; omega), List.take_of_length_le (by rw [HY.out]; omega)] at h)
      go_wp2
      go_ret
      exact ⟨retB (by simp [htr]), _, rfl⟩

theorem equalPr_b (A B : Option Addr) (n m c d : Nat) (xs ys : List Sp) (w : World) (hx : Rd w 2 A n (cellsS xs)) (hy : Rd w 2 B m (cellsS ys)) (hn : n ≤ maxLen) (hm : m ≤ maxLen) :
    Calls Try.prog 29 #[.slice A n c, .slice B m d] w fun e w' => e = .returned (.bool (decide (xs = ys))) ∧ Below w.heap.size w w' := by
  have hxl : xs.length = n := by have := hx.1; rw [cellsS_len] at this; omega
  have hyl : ys.length = m := by have := hy.1; rw [cellsS_len] at this; omega
  by_cases h : n = m
  · subst h
    exact (equalPr_same n A B c d xs ys w hxl hyl hx hy hn).mono fun _ _ ⟨he, q, hq⟩ => ⟨he, hq ▸ drewBelow q⟩
  · have hne : decide (xs = ys) = false := decide_eq_false (fun e => h (by rw [← hxl, ← hyl, e]))
    have h1 : ((n : Int) == m) = false := by simp; omega
    have h2 : ((n : Int) != m) = true := by simp; omega
    clear hxl hyl
    go_enter Try.func29, Try.ntmps29
    go_wp2
    go_ret
    exact ⟨retB (by simp [hne]), Below.refl _ _⟩
end Go.Proofs.Ytcjcimdembkbkaa
/- slices.Equal at []int: whether the two slices read alike; the world is as it was, but for draws. -/
namespace Go.Proofs.Ytcjcimdembkbkaa
open Go.RowKit

theorem take_eq_succ {xs ys : List Int} {k : Nat} (h : xs.take k = ys.take k) {x : Int} (h1 : xs[k]? = some x) (h2 : ys[k]? = some x) : xs.take (k + 1) = ys.take (k + 1) := by
  rw [List.take_add_one, List.take_add_one, h, h1, h2]

set_option maxRecDepth 100000 in
set_option maxHeartbeats 1000000 in
theorem equalInt_same (n : Nat) (A B : Option Addr) (c d : Nat) (xs ys : List Int) (w : World) (hxn : xs.length = n) (hyn : ys.length = n)
    (hx : Rd w 1 A n (xs.map (Value.int .i64))) (hy : Rd w 1 B n (ys.map (Value.int .i64))) (hn : n ≤ maxLen) :
    Calls Try.prog 12 #[.slice A n c, .slice B n d] w fun e w' => e = .returned (.bool (decide (xs = ys))) ∧ ∃ q, w' = w.drewN q := by
  unfold maxLen at hn
  have HX := Lib.hid hxn
  have HY := Lib.hid hyn
  clear hxn hyn
  go_enter Try.func12, Try.ntmps12
  go_wp2
  go_loopw [13] (fun i wr => ∃ k q : Nat, k ≤ n ∧ i = .int .i64 k ∧ wr = w.drewN q ∧ xs.take k = ys.take k) (fun i _ => n - (intOf i).toNat)
  case atStart => exact ⟨0, 0, Nat.zero_le _, rfl, rfl, rfl⟩
  case round =>
    obtain ⟨k, q, hk, rfl, rfl, ht⟩ := hrel
    have HT := Lib.hid ht
    clear ht
    by_cases hlt : k < n
    · obtain ⟨x, hxk⟩ : ∃ x, xs[k]? = some x := ⟨_, List.getElem?_eq_getElem (by rw [HX.out]; exact hlt)⟩
      obtain ⟨y, hyk⟩ : ∃ y, ys[k]? = some y := ⟨_, List.getElem?_eq_getElem (by rw [HY.out]; exact hlt)⟩
      obtain ⟨a, rfl, _, ha⟩ := hx.at_ hlt
      obtain ⟨b, rfl, _, hb⟩ := hy.at_ hlt
      have ca : w.cell? (a.add k) = some (.int .i64 x) := ha _ (by rw [List.getElem?_map, hxk]; rfl)
      have cb : w.cell? (b.add k) = some (.int .i64 y) := hb _ (by rw [List.getElem?_map, hyk]; rfl)
      have HXK := Lib.hid hxk
      have HYK := Lib.hid hyk
      clear hxk hyk ha hb
      by_cases he : x = y
      · subst he
        go_wp2
        go_quiet (fail)
        go_wp2
        go_roundw
        case rel => exact ⟨k + 1, _, by omega, by go_num, rfl, take_eq_succ HT.out HXK.out HYK.out⟩
        case measure => simp [intOf]; omega
      · have hne : (x == y) = false := by simpa using he
        have hne' : (x != y) = true := by simpa using he
        have hf : decide (xs = ys) = false := decide_eq_false (fun e => he (by have h1 := HXK.out; rw [e, HYK.out] at h1; injection h1 with h1; exact h1.symm))
        clear he
        go_wp2
        go_quiet (fail)
        go_wp2
        go_ret
        exact ⟨retB (by simp [hf]), _, World.drewN_drewN _ _ _⟩
    · have hkn : k = n := by omega
      have htr : decide (xs = ys) = true := decide_eq_true (by
        have h := HT.out
        rwa [List.take_of_length_le (by rw [HX.out]; omega), List.take_of_length_le (by rw [HY.out]; omega)] at h)
      clear hkn
      go_wp2
      go_ret
      exact ⟨retB (by simp [htr]), _, rfl⟩

theorem equalInt_any (A B : Option Addr) (n m c d : Nat) (xs ys : List Int) (w : World) (hx : Rd w 1 A n (xs.map (Value.int .i64))) (hy : Rd w 1 B m (ys.map (Value.int .i64))) (hn : n ≤ maxLen) (hm : m ≤ maxLen) :
    Calls Try.prog 12 #[.slice A n c, .slice B m d] w fun e w' => e = .returned (.bool (decide (xs = ys))) ∧ ∃ q, w' = w.drewN q := by
  have hxl : xs.length = n := by simpa using hx.len1
  have hyl : ys.length = m := by simpa using hy.len1
  by_cases h : n = m
  · subst h
    exact equalInt_same n A B c d xs ys w hxl hyl hx hy hn
  · have hne : decide (xs = ys) = false := decide_eq_false (fun e => h (by rw [← hxl, ← hyl, e]))
    have h1 : ((n : Int) == m) = false := by simp; omega
    have h2 : ((n : Int) != m) = true := by simp; omega
    clear hxl hyl
    go_enter Try.func12, Try.ntmps12
    go_wp2
    go_ret
    exact ⟨retB (by simp [hne]), 0, rfl⟩
theorem equalInt_b (A B : Option Addr) (n m c d : Nat) (xs ys : List Int) (w : World) (hx : Rd w 1 A n (xs.map (Value.int .i64))) (hy : Rd w 1 B m (ys.map (Value.int .i64))) (hn : n ≤ maxLen) (hm : m ≤ maxLen) :
    Calls Try.prog 12 #[.slice A n c, .slice B m d] w fun e w' => e = .returned (.bool (decide (xs = ys))) ∧ Below w.heap.size w w' :=
  (equalInt_any A B n m c d xs ys w hx hy hn hm).mono fun _ _ ⟨he, q, hq⟩ => ⟨he, hq ▸ drewBelow q⟩
end Go.Proofs.Ytcjcimdembkbkaa
/- naskhlaw13: awake, JoinForms, JoinPlaces. -/
namespace Go.Proofs.Ytcjcimdembkbkaa
open Go.RowKit

theorem rd_intsZ {w : World} {g n : Nat} {l : List Int} {t : TypeId} (h : w.heap[g]? = some (.cells (intsZ l).toArray t (0, 0))) (hl : l.length = n) : Rd w 1 (some ⟨g, 0, none⟩) n (l.map (Value.int .i64)) := by
  refine ⟨by simp [hl], fun _ => ⟨_, rfl, hp_lt h, fun j u hu => ?_⟩⟩
  rw [addNew]
  exact hp_cell h (by simpa [intsZ] using hu)
theorem rd_own {w : World} {base n : Nat} {e : TypeId} {v : Value} {l : List Int} (h : w.ownsRow base e 1 v n (l.map (Value.int .i64))) : ∃ A c, v = .slice A n c ∧ n ≤ c ∧ Rd w 1 A n (l.map (Value.int .i64)) := by
  obtain ⟨A, c, rfl, hc⟩ := own_form h
  exact ⟨A, c, rfl, hc, Rd.of_own h⟩
theorem rdNew3 (w : World) (a b c : Int) (t : TypeId) : Rd (w.alloc (.cells #[.int .i64 a, .int .i64 b, .int .i64 c] t)) 1 (some ⟨w.heap.size, 0, none⟩) 3 (([a, b, c] : List Int).map (Value.int .i64)) :=
  Rd.new_ w [.int .i64 a, .int .i64 b, .int .i64 c] t
set_option maxRecDepth 100000 in
set_option maxHeartbeats 4000000 in
theorem awakeJn_any (w : World) : Calls Try.prog 11 #[] w fun e w' => e = .returned (.bool true) ∧ Below w.heap.size w w' := by
  have H1 := Lib.hid (show jForms [3, 1, 2] = [3, 0, 2] by decide +kernel)
  have H2 := Lib.hid (show jOver [3, 1, 2] 1 = true by decide +kernel)
  obtain ⟨xs, hxs⟩ : ∃ xs : List Int, xs = [3, 1, 2] := ⟨_, rfl⟩
  obtain ⟨ys, hys⟩ : ∃ ys : List Int, ys = [3, 0, 2] := ⟨_, rfl⟩
  rw [← hxs, ← hys] at H1
  rw [← hxs] at H2
  have HX := Lib.hid hxs
  have HY := Lib.hid hys
  clear hxs hys
  have hbz := below_new w (.cells #[.int .i64 3, .int .i64 1, .int .i64 2] 3)
  go_enter Try.func11, Try.ntmps11
  go_wp2_with fail
  have hr1 := rdNew3 w 3 1 2 3
  rw [← HX.out] at hr1
  refine (jnForms_any _ 3 3 xs _ hr1 (by omega)).mono ?_
  rintro e w1 ⟨⟨g, _, rfl, hg⟩, hb1⟩
  have HB1 := Lib.hid (below_self hbz hb1)
  have hrf := rd_intsZ hg (n := 3) (by rw [H1.out, HY.out] <;> rfl)
  have HRF := Lib.hid hrf
  clear hbz hb1 hr1 hg hrf
  go_wp2_with fail
  have hr2 := rdNew3 w1 3 0 2 3
  rw [← HY.out] at hr2
  have HB2 := Lib.hid (below_self HB1.out (below_new w1 (.cells #[.int .i64 3, .int .i64 0, .int .i64 2] 3)))
  refine (equalInt_b _ _ 3 3 3 3 (jForms xs) ys _ (HRF.out.alloc _) hr2 (by unfold maxLen; omega) (by unfold maxLen; omega)).mono ?_
  rintro e w2 ⟨rfl, hb2⟩
  rw [decide_eq_true H1.out]
  have HB3 := Lib.hid (below_self HB2.out hb2)
  clear hb2 hr2
  go_wp2_with fail
  have hr3 := rdNew3 w2 3 1 2 3
  rw [← HX.out] at hr3
  have HB4 := Lib.hid (below_self HB3.out (below_new w2 (.cells #[.int .i64 3, .int .i64 1, .int .i64 2] 3)))
  refine (jnOver_of _ 3 3 xs 1 true H2.out _ hr3 (by omega) (by omega)).mono ?_
  rintro e w3 ⟨rfl, hb3⟩
  have HB5 := Lib.hid (below_self HB4.out hb3)
  clear hb3 hr3
  go_wp2
  go_ret
  exact ⟨rfl, HB5.out⟩
set_option maxRecDepth 100000 in
set_option maxHeartbeats 4000000 in
theorem joinForms_any (A : Option Addr) (n c : Nat) (ts : List Int) (w : World) (hr : Rd w 1 A n (ts.map (Value.int .i64))) (hn : n ≤ maxLen) :
    Calls Try.prog 3 #[.slice A n c] w fun e w' => e = .returned (.bool true) ∧ Below w.heap.size w w' := by
  have hlen : ts.length = n := by simpa using hr.len1
  have HL := Lib.hid hlen
  unfold maxLen at hn
  by_cases hs : n ≤ 200
  · have HP := Lib.hid (jnForms_any A n c ts w hr (by omega))
    have HR := Lib.hid hr
    clear hlen hr
    go_enter Try.func3, Try.ntmps3
    go_wp2_with fail
    refine HP.out.mono ?_
    rintro e w1 ⟨⟨g, _, rfl, hg⟩, hb1⟩
    have hrf := rd_intsZ hg (n := n) (by rw [jForms_len, HL.out])
    have HRF := Lib.hid hrf
    have HB1 := Lib.hid hb1
    clear hb1 hg hrf
    go_wp2_with fail
    refine (refForms_any A n c ts w1 (HR.out.below HB1.out) (by omega)).mono ?_
    rintro e w2 ⟨⟨v, rfl, hown⟩, hb2⟩
    obtain ⟨B, d, rfl, _, hr2⟩ := rd_own hown
    have HB2 := Lib.hid (below_self HB1.out hb2)
    have HRF2 := Lib.hid (HRF.out.below hb2)
    have HR2 := Lib.hid hr2
    clear hb2 hown hr2
    go_wp2_with fail
    refine (equalInt_b _ _ n n n d (jForms ts) (jForms ts) _ HRF2.out HR2.out (by unfold maxLen; omega) (by unfold maxLen; omega)).mono ?_
    rintro e w3 ⟨rfl, hb3⟩
    rw [decide_eq_true rfl]
    have HB3 := Lib.hid (below_self HB2.out hb3)
    clear hb3
    go_wp2_with fail
    refine (awakeJn_any _).mono ?_
    rintro e w4 ⟨rfl, hb4⟩
    have HB4 := Lib.hid (below_self HB3.out hb4)
    clear hb4
    go_wp2
    go_ret
    exact ⟨rfl, HB4.out⟩
  · clear hr hlen
    go_enter Try.func3, Try.ntmps3
    go_wp2_with fail
    refine (awakeJn_any _).mono ?_
    rintro e w4 ⟨rfl, hb4⟩
    go_wp2
    go_ret
    exact ⟨rfl, hb4⟩
set_option maxRecDepth 100000 in
set_option maxHeartbeats 4000000 in
theorem joinPlaces_any (A : Option Addr) (n c : Nat) (ts : List Int) (i : Int) (w : World) (hr : Rd w 1 A n (ts.map (Value.int .i64))) (hn : n ≤ maxLen) (hnc : n ≤ c) :
    Calls Try.prog 4 #[.slice A n c, .int .i64 i] w fun e w' => e = .returned (.bool true) ∧ Below w.heap.size w w' := by
  have HR := Lib.hid hr
  unfold maxLen at hn
  obtain ⟨qa, h1⟩ : ∃ q, jAhead ts i = q := ⟨_, rfl⟩
  obtain ⟨qb, h2⟩ : ∃ q, jBehind ts i = q := ⟨_, rfl⟩
  obtain ⟨qj, h3⟩ : ∃ q, jJoined ts i = q := ⟨_, rfl⟩
  obtain ⟨qo, h4⟩ : ∃ q, jOver ts i = q := ⟨_, rfl⟩
  by_cases hs : n ≤ 500
  · have HA := Lib.hid (fun w1 (h : Rd w1 1 A n (ts.map (Value.int .i64))) => jnAhead_any A n c ts i w1 h (by omega) hnc)
    have HA' := Lib.hid (fun w1 (h : Rd w1 1 A n (ts.map (Value.int .i64))) => refAhead_any A n c ts i w1 h (by omega))
    have HB := Lib.hid (fun w1 (h : Rd w1 1 A n (ts.map (Value.int .i64))) => jnBehind_any A n c ts i w1 h (by omega))
    have HB' := Lib.hid (fun w1 (h : Rd w1 1 A n (ts.map (Value.int .i64))) => refBehind_any A n c ts i w1 h (by omega))
    have HJ := Lib.hid (fun w1 (h : Rd w1 1 A n (ts.map (Value.int .i64))) => jnJoined_of A n c ts i qj h3 w1 h (by omega))
    have HJ' := Lib.hid (fun w1 (h : Rd w1 1 A n (ts.map (Value.int .i64))) => refJoined_of A n c ts i qj h3 w1 h (by omega))
    have HO := Lib.hid (fun w1 (h : Rd w1 1 A n (ts.map (Value.int .i64))) => jnOver_of A n c ts i qo h4 w1 h (by omega) hnc)
    have HO' := Lib.hid (fun w1 (h : Rd w1 1 A n (ts.map (Value.int .i64))) => refOver_of A n c ts i qo h4 w1 h (by omega))
    rw [h1] at HA HA'
    rw [h2] at HB HB'
    clear hr h1 h2 h3 h4
    have hbz := Below.refl w.heap.size w
    go_enter Try.func4, Try.ntmps4
    go_wp2_with (first
      | (go_at_call 15; with_reducible refine (HA.out _ (HR.out.below hbz)).mono ?_; rintro e w3 ⟨rfl, h9⟩; replace hbz := below_self hbz h9; clear h9)
      | (go_at_call 16; with_reducible refine (HA'.out _ (HR.out.below hbz)).mono ?_; rintro e w3 ⟨rfl, rfl⟩)
      | (go_at_call 17; with_reducible refine (HB.out _ (HR.out.below hbz)).mono ?_; rintro e w3 ⟨rfl, rfl⟩)
      | (go_at_call 18; with_reducible refine (HB'.out _ (HR.out.below hbz)).mono ?_; rintro e w3 ⟨rfl, rfl⟩)
      | (go_at_call 19; with_reducible refine (HJ.out _ (HR.out.below hbz)).mono ?_; rintro e w3 ⟨rfl, rfl⟩)
      | (go_at_call 20; with_reducible refine (HJ'.out _ (HR.out.below hbz)).mono ?_; rintro e w3 ⟨rfl, h9⟩; replace hbz := below_self hbz h9; clear h9)
      | (go_at_call 21; with_reducible refine (HO.out _ (HR.out.below hbz)).mono ?_; rintro e w3 ⟨rfl, h9⟩; replace hbz := below_self hbz h9; clear h9)
      | (go_at_call 22; with_reducible refine (HO'.out _ (HR.out.below hbz)).mono ?_; rintro e w3 ⟨rfl, h9⟩; replace hbz := below_self hbz h9; clear h9)
      | (go_at_call 11; with_reducible refine (awakeJn_any _).mono ?_; rintro e w3 ⟨rfl, h9⟩; replace hbz := below_self hbz h9; clear h9)
      | fail)
    go_ret
    exact ⟨rfl, hbz⟩
  · clear hr h1 h2 h3 h4
    go_enter Try.func4, Try.ntmps4
    go_wp2_with fail
    refine (awakeJn_any _).mono ?_
    rintro e w4 ⟨rfl, hb4⟩
    go_wp2
    go_ret
    exact ⟨rfl, hb4⟩
end Go.Proofs.Ytcjcimdembkbkaa
/- naskhlaw14: awake, LamalefFinds, LamalefCodes. -/
namespace Go.Proofs.Ytcjcimdembkbkaa
open Go.RowKit

theorem rd_own2 {w : World} {base n : Nat} {e : TypeId} {v : Value} {l : List Sp} (h : w.ownsRow base e 2 v n (cellsS l)) : ∃ A c, v = .slice A n c ∧ n ≤ c ∧ Rd w 2 A n (cellsS l) := by
  obtain ⟨A, c, rfl, hc⟩ := own_form h
  exact ⟨A, c, rfl, hc, Rd.of_own h⟩
theorem rdNew1 (w : World) (a : Int) (t : TypeId) : Rd (w.alloc (.cells #[.int .i64 a] t)) 1 (some ⟨w.heap.size, 0, none⟩) 1 (([a] : List Int).map (Value.int .i64)) := Rd.new_ w [.int .i64 a] t
theorem rdPair1 (w : World) (a b : Int) (t : TypeId) : Rd (w.alloc (.cells #[.int .i64 a, .int .i64 b] t)) 2 (some ⟨w.heap.size, 0, none⟩) 1 (cellsS [(a, b)]) :=
  ⟨rfl, fun _ => ⟨_, rfl, by simp, cells_new w [.int .i64 a, .int .i64 b] t⟩⟩
set_option maxRecDepth 100000 in
set_option maxHeartbeats 4000000 in
theorem awakeLf_any (w : World) : Calls Try.prog 27 #[] w fun e w' => e = .returned (.bool true) ∧ Below w.heap.size w w' := by
  have H1 := Lib.hid (show lfFind alefB [1576, 1604, 1575] [3, 3, 2] false = [(1, 2)] by decide +kernel)
  have H2 := Lib.hid (show lcAll [1576, 1604, 1575] [3, 3, 2] [(1, 2)] = [65276] by decide +kernel)
  have H3 := Lib.hid (show alefB 1570 = true by decide +kernel)
  obtain ⟨xs, hxs⟩ : ∃ xs : List Int, xs = [1576, 1604, 1575] := ⟨_, rfl⟩
  obtain ⟨ts, hts⟩ : ∃ ys : List Int, ys = [3, 3, 2] := ⟨_, rfl⟩
  obtain ⟨l, hl⟩ : ∃ l : List Sp, l = [(1, 2)] := ⟨_, rfl⟩
  obtain ⟨zs, hzs⟩ : ∃ zs : List Int, zs = [65276] := ⟨_, rfl⟩
  rw [← hxs, ← hts, ← hl] at H1
  rw [← hxs, ← hts, ← hl, ← hzs] at H2
  have hb0 := below_self (below_new w (.cells #[.int .i64 1576, .int .i64 1604, .int .i64 1575] 3)) (below_new _ (.cells #[.int .i64 3, .int .i64 3, .int .i64 2] 3))
  have hr0 := (rdNew3 w 1576 1604 1575 3).alloc (.cells #[.int .i64 3, .int .i64 3, .int .i64 2] 3)
  have hs0 := rdNew3 (w.alloc (.cells #[.int .i64 1576, .int .i64 1604, .int .i64 1575] 3)) 3 3 2 3
  rw [← hxs] at hr0
  rw [← hts, World.size_alloc] at hs0
  have HL := Lib.hid hl
  have HZ := Lib.hid hzs
  have HB0 := Lib.hid hb0
  have HR0 := Lib.hid hr0
  have HS0 := Lib.hid hs0
  clear hxs hts hl hzs hb0 hr0 hs0
  go_enter Try.func27, Try.ntmps27
  go_wp2_with fail
  have hF := lfFind_any _ _ 3 3 3 3 xs ts false _ HR0.out HS0.out (by omega)
  rw [H1.out] at hF
  refine hF.mono ?_
  rintro e w1 ⟨⟨v, rfl, hown⟩, hb1⟩
  obtain ⟨C, cc, rfl, _, hl1⟩ := rd_own2 hown
  have HB1 := Lib.hid (below_self HB0.out hb1)
  have HR1 := Lib.hid (HR0.out.below hb1)
  have HS1 := Lib.hid (HS0.out.below hb1)
  have hll : l.length = 1 := by rw [HL.out]; rfl
  rw [hll] at hl1
  simp only [hll]
  have HL1 := Lib.hid hl1
  clear hF hown hb1 hl1 hll HB0 HR0 HS0
  go_wp2_with fail
  have hp := rdPair1 w1 1 2 37
  rw [← HL.out] at hp
  have hbn := below_new w1 (.cells #[.int .i64 1, .int .i64 2] 37)
  refine (equalPr_b _ _ 1 1 _ _ l l _ (HL1.out.below hbn) hp (by unfold maxLen; omega) (by unfold maxLen; omega)).mono ?_
  rintro e w2 ⟨rfl, hb2⟩
  rw [decide_eq_true rfl]
  have hb12 := below_self hbn hb2
  have HB2 := Lib.hid (below_self HB1.out hb12)
  have HR2 := Lib.hid (HR1.out.below hb12)
  have HS2 := Lib.hid (HS1.out.below hb12)
  have HL2 := Lib.hid (HL1.out.below hb12)
  clear hp hbn hb2 hb12 HB1 HR1 HS1 HL1
  go_wp2_with fail
  refine (lfCodes_any _ _ C 3 3 1 3 3 cc xs ts l _ HR2.out HS2.out HL2.out (by omega) (by omega) (by omega)).mono ?_
  rintro e w3 ⟨⟨g, _, rfl, hg⟩, hb3⟩
  rw [H2.out] at hg
  have hz := rd_intsZ hg (n := 1) (by rw [HZ.out]; rfl)
  have HZ3 := Lib.hid hz
  have HB3 := Lib.hid (below_self HB2.out hb3)
  clear hg hb3 hz HB2 HR2 HS2 HL2
  go_wp2_with fail
  have hz4 := rdNew1 w3 65276 3
  rw [← HZ.out] at hz4
  have hbn := below_new w3 (.cells #[.int .i64 65276] 3)
  refine (equalInt_b _ _ 1 1 _ _ zs zs _ (HZ3.out.below hbn) hz4 (by unfold maxLen; omega) (by unfold maxLen; omega)).mono ?_
  rintro e w4 ⟨rfl, hb4⟩
  rw [decide_eq_true rfl]
  have HB4 := Lib.hid (below_self (below_self HB3.out hbn) hb4)
  clear hbn hb4 hz4 HB3
  go_wp2_with fail
  refine (lfAlef_any 1570 _).mono ?_
  rintro e w5 ⟨rfl, hb5⟩
  rw [H3.out]
  have HB5 := Lib.hid (below_self HB4.out hb5)
  clear hb5 HB4
  go_wp2
  go_ret
  exact ⟨rfl, HB5.out⟩
set_option maxRecDepth 100000 in
set_option maxHeartbeats 4000000 in
theorem lamalefFinds_any (A B : Option Addr) (n m c d : Nat) (xs ts : List Int) (th : Bool) (w : World) (hr : Rd w 1 A n (xs.map (Value.int .i64))) (hs : Rd w 1 B m (ts.map (Value.int .i64))) (hn : n ≤ maxLen) (hm : m ≤ maxLen) :
    Calls Try.prog 8 #[.slice A n c, .slice B m d, .bool th] w fun e w' => e = .returned (.bool true) ∧ Below w.heap.size w w' := by
  unfold maxLen at hn hm
  by_cases hsz : n ≤ 200 ∧ m ≤ 200
  · obtain ⟨h1, h2⟩ := hsz
    have HR := Lib.hid hr
    have HS := Lib.hid hs
    obtain ⟨l, hl⟩ : ∃ l, lfFind alefB xs ts th = l := ⟨_, rfl⟩
    obtain ⟨l2, hl2⟩ : ∃ l, lfFind alefB xs (xs.map joinF) th = l := ⟨_, rfl⟩
    have hll : l.length ≤ 200 := by
      rw [← hl]
      unfold lfFind
      have hxl : xs.length = n := by simpa using hr.len1
      split
      · exact Nat.le_trans (lfUpto_le _ _ _ _ _) (by omega)
      · simp
    have hll2 : l2.length ≤ 200 := by
      rw [← hl2]
      unfold lfFind
      have hxl : xs.length = n := by simpa using hr.len1
      split
      · exact Nat.le_trans (lfUpto_le _ _ _ _ _) (by omega)
      · simp
    have HP := Lib.hid (fun w1 (h : Rd w1 1 A n (xs.map (Value.int .i64))) (k : Rd w1 1 B m (ts.map (Value.int .i64))) => lfFind_any A B n m c d xs ts th w1 h k (by omega))
    have HQ := Lib.hid (fun w1 (h : Rd w1 1 A n (xs.map (Value.int .i64))) (k : Rd w1 1 B m (ts.map (Value.int .i64))) => refFind_any A B n m c d xs ts th w1 h k (by omega))
    rw [hl] at HP HQ
    have HP2 := Lib.hid (fun w1 (D : Option Addr) (e : Nat) (h : Rd w1 1 A n (xs.map (Value.int .i64))) (k : Rd w1 1 D n ((xs.map joinF).map (Value.int .i64))) => lfFind_any A D n n c e xs (xs.map joinF) th w1 h k (by omega))
    have HQ2 := Lib.hid (fun w1 (D : Option Addr) (e : Nat) (h : Rd w1 1 A n (xs.map (Value.int .i64))) (k : Rd w1 1 D n ((xs.map joinF).map (Value.int .i64))) => refFind_any A D n n c e xs (xs.map joinF) th w1 h k (by omega))
    rw [hl2] at HP2 HQ2
    clear hr hs hl hl2
    go_enter Try.func8, Try.ntmps8
    go_wp2_with fail
    refine (refJoins_any A n c xs w HR.out (by omega)).mono ?_
    rintro e w1 ⟨⟨v, rfl, hown⟩, hb1⟩
    obtain ⟨D, e, rfl, _, hj⟩ := rd_own hown
    have HB1 := Lib.hid hb1
    have HJ1 := Lib.hid hj
    clear hb1 hj hown
    go_wp2_with fail
    refine (HP.out w1 (HR.out.below HB1.out) (HS.out.below HB1.out)).mono ?_
    rintro e w2 ⟨⟨v, rfl, hown⟩, hb⟩
    obtain ⟨P, p, rfl, _, hp⟩ := rd_own2 hown
    have HB2 := Lib.hid (below_self HB1.out hb)
    have HJ2 := Lib.hid (HJ1.out.below hb)
    have HPP2 := Lib.hid hp
    clear hb hown hp HB1 HJ1
    go_wp2_with fail
    refine (HQ.out w2 (HR.out.below HB2.out) (HS.out.below HB2.out)).mono ?_
    rintro e w3 ⟨⟨v, rfl, hown⟩, hb⟩
    obtain ⟨Q, q, rfl, _, hq⟩ := rd_own2 hown
    have HB3 := Lib.hid (below_self HB2.out hb)
    have HJ3 := Lib.hid (HJ2.out.below hb)
    have HPP3 := Lib.hid (HPP2.out.below hb)
    have HQQ3 := Lib.hid hq
    clear hb hown hq HB2 HJ2 HPP2
    go_wp2_with fail
    refine (equalPr_b P Q l.length l.length _ _ l l _ HPP3.out HQQ3.out (by unfold maxLen; omega) (by unfold maxLen; omega)).mono ?_
    rintro e w4 ⟨rfl, hb⟩
    rw [decide_eq_true rfl]
    have HB4 := Lib.hid (below_self HB3.out hb)
    have HJ4 := Lib.hid (HJ3.out.below hb)
    clear hb HB3 HJ3 HPP3 HQQ3
    go_wp2_with fail
    refine (HP2.out w4 D _ (HR.out.below HB4.out) HJ4.out).mono ?_
    rintro e w5 ⟨⟨v, rfl, hown⟩, hb⟩
    obtain ⟨P2, p2, rfl, _, hp⟩ := rd_own2 hown
    have HB5 := Lib.hid (below_self HB4.out hb)
    have HJ5 := Lib.hid (HJ4.out.below hb)
    have HPP5 := Lib.hid hp
    clear hb hown hp HB4 HJ4
    go_wp2_with fail
    refine (HQ2.out w5 D _ (HR.out.below HB5.out) HJ5.out).mono ?_
    rintro e w6 ⟨⟨v, rfl, hown⟩, hb⟩
    obtain ⟨Q2, q2, rfl, _, hq⟩ := rd_own2 hown
    have HB6 := Lib.hid (below_self HB5.out hb)
    have HPP6 := Lib.hid (HPP5.out.below hb)
    have HQQ6 := Lib.hid hq
    clear hb hown hq HB5 HJ5 HPP5
    go_wp2_with fail
    refine (equalPr_b P2 Q2 l2.length l2.length _ _ l2 l2 _ HPP6.out HQQ6.out (by unfold maxLen; omega) (by unfold maxLen; omega)).mono ?_
    rintro e w7 ⟨rfl, hb⟩
    rw [decide_eq_true rfl]
    have HB7 := Lib.hid (below_self HB6.out hb)
    clear hb HB6 HPP6 HQQ6
    go_wp2_with fail
    refine (awakeLf_any _).mono ?_
    rintro e w8 ⟨rfl, hb⟩
    have HB8 := Lib.hid (below_self HB7.out hb)
    clear hb
    go_wp2
    go_ret
    exact ⟨rfl, HB8.out⟩
  · have hway : 200 < n ∨ (n ≤ 200 ∧ 200 < m) := by omega
    clear hr hs hsz
    rcases hway with h | ⟨h, h'⟩
    all_goals
      go_enter Try.func8, Try.ntmps8
      go_wp2_with fail
      refine (awakeLf_any _).mono ?_
      rintro e w8 ⟨rfl, hb⟩
      go_wp2
      go_ret
      exact ⟨rfl, hb⟩
set_option maxRecDepth 100000 in
set_option maxHeartbeats 4000000 in
theorem lamalefCodes_any (A B C : Option Addr) (n m q c d f : Nat) (xs ts : List Int) (l : List Sp) (w : World) (hr : Rd w 1 A n (xs.map (Value.int .i64))) (hs : Rd w 1 B m (ts.map (Value.int .i64))) (hl : Rd w 2 C q (cellsS l)) (hn : n ≤ maxLen) (hm : m ≤ maxLen) (hq : q ≤ maxLen) (hmd : m ≤ d) :
    Calls Try.prog 9 #[.slice A n c, .slice B m d, .slice C q f] w fun e w' => e = .returned (.bool true) ∧ Below w.heap.size w w' := by
  unfold maxLen at hn hm hq
  have hll : l.length = q := by have := hl.1; rw [cellsS_len] at this; omega
  by_cases hsz : n ≤ 200 ∧ m ≤ 200 ∧ q ≤ 100
  · obtain ⟨h1, h2, h3⟩ := hsz
    have HR := Lib.hid hr
    have HS := Lib.hid hs
    have HL := Lib.hid hl
    have HLL := Lib.hid hll
    clear hr hs hl hll
    go_enter Try.func9, Try.ntmps9
    go_wp2_with fail
    go_loopw [7, 26] (fun o i wr => ∃ k : Nat, k ≤ q ∧ i = .int .i64 k ∧ o = .bool true ∧ Below w.heap.size w wr) (fun _ i _ => q - (intOf i).toNat)
    case atStart => exact ⟨0, Nat.zero_le _, rfl, rfl, Below.refl _ _⟩
    case round =>
      obtain ⟨k, hk, rfl, rfl, hb⟩ := hrel
      by_cases hlt : k < q
      · obtain ⟨p, hpk⟩ : ∃ p, l[k]? = some p := ⟨_, List.getElem?_eq_getElem (by rw [HLL.out]; exact hlt)⟩
        have hsp := (HL.out.below hb).span hpk
        obtain ⟨cd, rfl, hcd, p1, p2⟩ := hsp
        obtain ⟨a, b⟩ := p
        simp only at p1 p2
        have hnb := below_new wr (.cells #[.int .i64 a, .int .i64 b] 37)
        have e0 : (wr.alloc (.cells #[.int .i64 a, .int .i64 b] 37)).cell? ⟨wr.heap.size, 0, none⟩ = some (.int .i64 a) := by rw [World.cell?_alloc_at _ _ _ _ rfl]; rfl
        have HB2 := Lib.hid (below_self hb hnb)
        clear hpk hnb hb
        go_wp2_with fail
        generalize (wr.alloc (.cells #[.int .i64 a, .int .i64 b] 37)) = w0 at *
        obtain ⟨pb, hpb⟩ : ∃ pb, wr.heap.size = pb := ⟨_, rfl⟩
        simp only [hpb] at e0 ⊢
        clear hpb p1 p2
        obtain ⟨al, hal⟩ : ∃ al, alefB a = al := ⟨_, rfl⟩
        have HA1 := Lib.hid (fun w => lfAlef_any a w)
        have HA2 := Lib.hid (fun w => refAlef_any a w)
        rw [hal] at HA1 HA2
        clear hal
        go_region_held3 (fun w' => w'.cell? ⟨pb, 0, none⟩ = some (.int .i64 a) ∧ Below w0.heap.size w0 w')
          (first
            | exact ⟨e0, (Below.refl _ _).drew⟩
            | exact ⟨cell_below h1 (by assumption : _ ∧ Below w0.heap.size w0 _).1, below_self (by assumption : _ ∧ Below w0.heap.size w0 _).2 h1⟩
            | exact ⟨cell_below h1 e0, below_self (Below.refl _ _).drew h1⟩
            | fail)
          (first
            | (go_at_call 32; with_reducible refine (HA1.out _).mono ?_; rintro e w3 ⟨rfl, h1⟩)
            | (go_at_call 33; with_reducible refine (HA2.out _).mono ?_; rintro e w3 ⟨rfl, h1⟩)
            | fail)
        have hfin := (by assumption : _ ∧ Below w0.heap.size w0 _).2
        have HFI := Lib.hid (below_self HB2.out hfin)
        go_wp2
        go_roundw
        case rel => exact ⟨k + 1, by omega, by go_num, by simp, HFI.out⟩
        case measure => simp [intOf]; omega
      · obtain rfl : k = q := by omega
        have HB := Lib.hid hb
        clear hb
        go_wp2_with fail
        refine (lfCodes_any A B C n m k c d f xs ts l _ (HR.out.below HB.out) (HS.out.below HB.out) (HL.out.below HB.out) (by omega) hmd (by omega)).mono ?_
        rintro e w2 ⟨⟨g, _, rfl, hg⟩, hb⟩
        have hz := rd_intsZ hg (n := k) (by unfold lcAll; rw [List.length_map, HLL.out])
        have HZ := Lib.hid hz
        have HB2 := Lib.hid (below_self HB.out hb)
        clear hg hz hb HB
        go_wp2_with fail
        refine (refCodes_any A B C n m k c d f xs ts l _ (HR.out.below HB2.out) (HS.out.below HB2.out) (HL.out.below HB2.out) (by omega) (by omega)).mono ?_
        rintro e w3 ⟨⟨v, rfl, hown⟩, hb⟩
        obtain ⟨Q, q2, rfl, _, hq2⟩ := rd_own hown
        have HB3 := Lib.hid (below_self HB2.out hb)
        have HZ3 := Lib.hid (HZ.out.below hb)
        have HQ3 := Lib.hid hq2
        clear hown hb hq2 HB2 HZ
        go_wp2_with fail
        refine (equalInt_b _ _ k k _ _ (lcAll xs ts l) (lcAll xs ts l) _ HZ3.out HQ3.out (by unfold maxLen; omega) (by unfold maxLen; omega)).mono ?_
        rintro e w4 ⟨rfl, hb⟩
        rw [decide_eq_true rfl]
        have HB4 := Lib.hid (below_self HB3.out hb)
        clear hb HB3
        go_wp2_with fail
        refine (awakeLf_any _).mono ?_
        rintro e w8 ⟨rfl, hb⟩
        have HB8 := Lib.hid (below_self HB4.out hb)
        clear hb
        go_wp2
        go_ret
        exact ⟨rfl, HB8.out⟩
  · have hway : 200 < n ∨ (n ≤ 200 ∧ 200 < m) ∨ (n ≤ 200 ∧ m ≤ 200 ∧ 100 < q) := by omega
    clear hr hs hl hll hsz
    rcases hway with h | ⟨h, h'⟩ | ⟨h, h', h''⟩
    all_goals
      go_enter Try.func9, Try.ntmps9
      go_wp2_with fail
      refine (awakeLf_any _).mono ?_
      rintro e w8 ⟨rfl, hb⟩
      go_wp2
      go_ret
      exact ⟨rfl, hb⟩
end Go.Proofs.Ytcjcimdembkbkaa
