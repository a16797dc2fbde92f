/- lamalef.Codes. -/
import Derived.Test.YtcjcimdembkbkaaLfC
namespace Go.Proofs.Ytcjcimdembkbkaa
open Go.RowKit

set_option maxRecDepth 100000 in
set_option maxHeartbeats 8000000 in
theorem lfCodes_any (A B C : Option Addr) (n m q c d f : Nat) (xs ts : List Int) (l : List Sp) (w : World) (hr : Rd w 1 A n (xs.map (Value.int .i64))) (hs : Rd w 1 B m (ts.map (Value.int .i64))) (hl : Rd w 2 C q (cellsS l)) (hm : m ≤ 1000000) (hmd : m ≤ d) (hq : q ≤ 1000000) :
    Calls Try.prog 34 #[.slice A n c, .slice B m d, .slice C q f] w fun e w' => (∃ g, w.heap.size ≤ g ∧ e = .returned (.slice (some ⟨g, 0, none⟩) q q) ∧ w'.heap[g]? = some (.cells (intsZ (lcAll xs ts l)).toArray 3 (0, 0))) ∧ Below w.heap.size w w' := by
  have hxl : xs.length = n := by simpa using hr.len1
  have hll : l.length = q := by have := hl.1; rw [cellsS_len] at this; omega
  have hmk := mk_intsZ q (by omega)
  have hw1 : (w.alloc (.cells (intsZ (List.replicate q 0)).toArray 3)).heap[w.heap.size]? = some (.cells (intsZ (List.replicate q 0)).toArray 3 (0, 0)) := heap_alloc_new _ _
  have hb1 := below_new w (.cells (intsZ (List.replicate q 0)).toArray 3)
  have HW := Lib.hid hw1
  have HB := Lib.hid hb1
  have HR := Lib.hid hr
  have HS := Lib.hid hs
  have HL := Lib.hid hl
  have HXL := Lib.hid hxl
  have HLL := Lib.hid hll
  clear hw1 hb1 hr hs hl hxl hll
  go_enter Try.func34, Try.ntmps34
  go_wp2_with fail
  generalize w.alloc (.cells (intsZ (List.replicate q 0)).toArray 3) = w1 at *
  obtain ⟨s, hse⟩ : ∃ s, w.heap.size = s := ⟨_, rfl⟩
  rw [hse] at HW
  simp only [hse]
  have HSE := Lib.hid hse
  clear hmk hse
  go_loopw [15] (fun i wr => ∃ k : Nat, k ≤ q ∧ i = .int .i64 k ∧ wr.heap[s]? = some (.cells (intsZ (lcPart xs ts l k)).toArray 3 (0, 0)) ∧ Below w.heap.size w wr) (fun i _ => q - (intOf i).toNat)
  case atStart => exact ⟨0, Nat.zero_le _, rfl, by rw [lcPart_zero, HLL.out]; exact HW.out, HB.out⟩
  case round =>
    obtain ⟨k, hk, rfl, hg, hb⟩ := hrel
    by_cases hlt : k < q
    · obtain ⟨p, hpk⟩ : ∃ p, l[k]? = some p := ⟨_, List.getElem?_eq_getElem (by rw [HLL.out]; exact hlt)⟩
      have hsp := (HL.out.below hb).span hpk
      obtain ⟨cd, rfl, hcd, p1, p2⟩ := hsp
      have hst := lcPart_stay (xs := xs) (ts := ts) hpk
      have hsu := lcPart_succ (xs := xs) (ts := ts) hpk
      obtain ⟨a, b⟩ := p
      simp only at p1 p2
      obtain ⟨v, hv⟩ : ∃ v, decide (0 ≤ a ∧ a < (n : Int) ∧ 0 ≤ b ∧ b < (n : Int)) = v := ⟨_, rfl⟩
      have HWI := Lib.hid (fun w => lfWithin_any A n c a b v hv w)
      have hnb := below_new wr (.cells #[.int .i64 a, .int .i64 b] 37)
      have ha0 : (wr.alloc (.cells #[.int .i64 a, .int .i64 b] 37)).cell? ⟨wr.heap.size, 0, none⟩ = some (.int .i64 a) := by rw [World.cell?_alloc_at _ _ _ _ rfl]; rfl
      have ha1 : (wr.alloc (.cells #[.int .i64 a, .int .i64 b] 37)).cell? ⟨wr.heap.size, 1, none⟩ = some (.int .i64 b) := by rw [World.cell?_alloc_at _ _ _ _ rfl]; rfl
      have HG := Lib.hid hg
      have HBR := Lib.hid hb
      cases v with
      | false =>
        have hc0 : lfCode ligV xs ts (a, b) = 0 := by
          unfold lfCode
          rw [HXL.out]
          exact if_neg (fun h => of_decide_eq_false hv h)
        have HST := Lib.hid (hst hc0)
        clear hst hsu hg hb hpk hv hc0
        go_wp2_with (first
          | (go_at_call 52; with_reducible refine (HWI.out _).mono ?_; rintro e w2 ⟨rfl, hb2⟩)
          | fail)
        go_roundw
        case rel => exact ⟨k + 1, by omega, by go_num, by rw [HST.out]; exact (hb2.block s (Nat.lt_of_lt_of_le (hp_lt HG.out) hnb.size)).trans ((hnb.block s (hp_lt HG.out)).trans HG.out), below_self (below_self HBR.out hnb) hb2⟩
        case measure => simp [intOf]; omega
      | true =>
        have hin := of_decide_eq_true hv
        obtain ⟨i1, i2, i3, i4⟩ := hin
        obtain ⟨bn, rfl⟩ : ∃ bn : Nat, b = bn := ⟨b.toNat, by omega⟩
        have hbn : bn < n := by omega
        obtain ⟨y, hy⟩ : ∃ y, xs[bn]? = some y := ⟨_, List.getElem?_eq_getElem (by rw [HXL.out]; exact hbn)⟩
        have hyd : xs.getD bn 0 = y := by simp [hy]
        obtain ⟨fv, hfv⟩ : ∃ fv, lfForm ts a = fv := ⟨_, rfl⟩
        have hf12 : fv = 1 ∨ fv = 2 := by rw [← hfv]; unfold lfForm; split <;> simp
        obtain ⟨x, ok, hx⟩ : ∃ x ok, ligF y fv = (x, ok) := ⟨_, _, rfl⟩
        have hc0 : lfCode ligV xs ts (a, (bn : Int)) = x := by
          unfold lfCode
          rw [HXL.out]
          simp only
          rw [if_pos ⟨i1, i2, i3, i4⟩, Int.toNat_natCast, hyd]
          show ligV y (lfForm ts a) = x
          rw [hfv]; unfold ligV; rw [hx]
        rw [hc0] at hsu
        have HSU := Lib.hid hsu
        have HFO := Lib.hid (fun w1 (h : Rd w1 1 B m (ts.map (Value.int .i64))) => lfForm_any B m d ts a fv hfv w1 h hm hmd)
        have HLI := Lib.hid (fun w => fmLigate_any y fv x ok hx (by omega) (by omega) w)
        have hcell := (HR.out.below HBR.out).at_ hbn
        obtain ⟨ad, rfl, had, hcc⟩ := hcell
        have cy : wr.cell? (ad.add bn) = some (.int .i64 y) := hcc _ (by rw [List.getElem?_map, hy]; rfl)
        clear hst hsu hg hb hpk hv hc0 hx hfv hf12 hyd hy hcc i1 i2 i3 i4
        go_wp2_with (first
          | (go_at_call 52; with_reducible refine (HWI.out _).mono ?_; rintro e w2 ⟨rfl, hb2⟩)
          | fail)
        have cyn : w2.cell? (ad.add bn) = some (.int .i64 y) := cell_below hb2 (cell_below hnb cy)
        have p1n := cell_below hb2 ha0
        have p2n := cell_below hb2 ha1
        have hgn : w2.heap[s]? = some (.cells (intsZ (lcPart xs ts l k)).toArray 3 (0, 0)) := (hb2.block s (Nat.lt_of_lt_of_le (hp_lt HG.out) hnb.size)).trans ((hnb.block s (hp_lt HG.out)).trans HG.out)
        have c9 : w2.cell? ⟨s, k, none⟩ = some (.int .i64 0) := hp_cell hgn (by have := lcPart_at (xs := xs) (ts := ts) (l := l) (k := k) (by rw [HLL.out]; exact hlt); simpa [intsZ] using this)
        have f9 := hp_froz hgn k
        have HG2 := Lib.hid hgn
        have HB2 := Lib.hid (below_self (below_self HBR.out hnb) hb2)
        obtain ⟨pb, hpb⟩ : ∃ pb, wr.heap.size = pb := ⟨_, rfl⟩
        simp only [hpb] at p1n p2n ⊢
        clear hgn ha0 ha1 cy p1 p2 hb2 hnb hpb
        have g2 : w2.drew.heap[s]? = some (.cells (intsZ (lcPart xs ts l k)).toArray 3 (0, 0)) := HG2.out
        have HGD := Lib.hid g2
        have HBD := Lib.hid HB2.out.drew
        have HCY := Lib.hid (show w2.drew.cell? (ad.add bn) = some (.int .i64 y) from cyn)
        have HP1 := Lib.hid (show w2.drew.cell? ⟨pb, 0, none⟩ = some (.int .i64 a) from p1n)
        have HP2 := Lib.hid (show w2.drew.cell? ⟨pb, 1, none⟩ = some (.int .i64 (bn : Int)) from p2n)
        have hx0 : (intsZ (lcPart xs ts l k)).toArray[k]? = some (.int .i64 0) := by have := lcPart_at (xs := xs) (ts := ts) (l := l) (k := k) (by rw [HLL.out]; exact hlt); simpa [intsZ] using this
        have HX0 := Lib.hid hx0
        clear g2 hx0
        go_region_with (first
          | (go_at_call 53; with_reducible refine (HFO.out _ (HS.out.below HBD.out)).mono ?_; rintro e w3 ⟨rfl, hb3⟩; have cy3 := cell_below hb3 HCY.out; have p13 := cell_below hb3 HP1.out; have p23 := cell_below hb3 HP2.out)
          | (go_at_call 50; with_reducible refine (HLI.out _).mono ?_; rintro e w4 ⟨rfl, hb4⟩; have g4 := (hb4.block s (Nat.lt_of_lt_of_le (hp_lt HGD.out) hb3.size)).trans ((hb3.block s (hp_lt HGD.out)).trans HGD.out); have c94 := hp_cell g4 HX0.out; have f94 := hp_froz g4 k)
          | fail)
        all_goals
          have HN := Lib.hid (hp_row g4 k x)
          have HBN := Lib.hid ((below_self (below_self HBD.out hb3) hb4).setCell (p := ⟨s, k, none⟩) (Nat.le_of_eq HSE.out) (.int .i64 x))
          clear g4 c94 f94 cy3 p13 p23 hb3 hb4 c9 f9
          go_wp2
          go_roundw
          case rel => exact ⟨k + 1, by omega, by go_num, by rw [HSU.out]; exact HN.out, HBN.out⟩
          case measure => simp [intOf]; omega
    · obtain rfl : k = q := by omega
      have hall := lcPart_all xs ts l
      rw [HLL.out] at hall
      rw [hall] at hg
      have HG := Lib.hid hg
      have HBR := Lib.hid hb
      clear hg hb hall
      go_wp2_with fail
      go_ret
      exact ⟨⟨s, Nat.le_of_eq HSE.out, rfl, HG.out⟩, HBR.out⟩
end Go.Proofs.Ytcjcimdembkbkaa
