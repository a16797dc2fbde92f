/- breaks.Through, walked at one map and one break: what awake asks. -/
import Derived.Test.YtdgomaoikeffhaaBrP1
import Derived.Test.YtdgomaoikeffhaaChkP
import Derived.Test.YtdgomaoikeffhaaFinId
import Derived.Test.YtdgomaoikeffhaaSpSizeP
import Derived.Test.YtdgomaoikeffhaaCloneI
namespace Go.Proofs.Ytdgomaoikeffhaa
open Go.RowKit

theorem br_check3 : checkC (identS 3) 3 3 = true := by decide +kernel
theorem br_split2 : splitF 3 [2] = ([(0, 2), (2, 3)], 0) := by decide +kernel
set_option maxRecDepth 100000 in
set_option maxHeartbeats 4000000 in
theorem brThrough_one (g c : Nat) (ad : Addr) (w : World) (hr : Rd w 4 (some ⟨g, 0, none⟩) 3 (cellsC (identS 3))) (hc3 : 3 ≤ c) (hs : Rd w 1 (some ad) 1 (([2] : List Int).map (Value.int .i64))) :
    Calls Try.prog 25 #[.slice (some ⟨g, 0, none⟩) 3 c, .int .i64 3, .int .i64 3, .slice (some ad) 1 1] w fun e w' => ∃ v, e = .returned (.tuple #[v, .int .i64 0]) ∧ w'.ownsRow w.heap.size 3 1 v 1 (([2] : List Int).map (Value.int .i64)) ∧ Below w.heap.size w w' := by
  have HCH := Lib.hid (prCheckC_any (some ⟨g, 0, none⟩) 3 c (identS 3) 3 3 w hr (by omega))
  rw [br_check3] at HCH
  have HBC := Lib.hid (fun W (hB : Below w.heap.size w W) => brCheck_any 3 (some ad) 1 1 [2] W (hs.below hB) (by omega))
  rw [br_split2] at HBC
  have HR := Lib.hid hr
  have HS := Lib.hid hs
  have hgl : g < w.heap.size := by obtain ⟨a, e, h, _⟩ := hr.2 (by omega); cases e; exact h
  have hc1 : ¬ c = 1 := by omega
  have hc2 : ¬ c - 1 = 1 := by omega
  clear hr hs
  have hcs : ∀ W, Below w.heap.size w W → ∀ j u, (cellsC (identS 3))[j]? = some u → W.cell? ⟨g, j, none⟩ = some u := fun W hB j u hj => by
    obtain ⟨a, e, _, h⟩ := (HR.out.below hB).2 (by omega)
    cases e
    have := h j u hj
    rwa [addNew] at this
  have HCS := Lib.hid hcs
  have hat : ∀ W, Below w.heap.size w W → W.cell? ad = some (.int .i64 2) := fun W hB => by
    obtain ⟨a, e, _, h⟩ := (HS.out.below hB).2 (by omega)
    cases e
    have := h 0 (.int .i64 2) rfl
    rwa [show ad.add 0 = ad from by first | rfl | exact addZero _] at this
  have HAT := Lib.hid hat
  clear hcs hat
  go_enter Try.func25, Try.ntmps25
  go_wp2_with (first
    | (go_at_call 35; with_reducible refine HCH.out.mono ?_; rintro e w1 ⟨rfl, hb1⟩; have HB1 := Lib.hid hb1; clear hb1)
    | (go_at_call 14; with_reducible refine (HBC.out _ HB1.out).mono ?_; rintro e w2 ⟨rfl, he2⟩; subst he2; have hs1 := HB1.out.size)
    | (refine wpList_mkFull rfl _ _ _ rfl (base := w.heap.size) (e := 3) (bytes := 8) (z := .int .i64 0) Try.underlying22 (by kernel_rfl) rfl (1 : Int) (1 : Int) 1 rfl rfl rfl rfl (by omega) (by unfold maxLen; omega) hs1 ?_; intro w3 hown0 hg0)
    | fail)
  have hB3 := below_self HB1.out (below_make hg0)
  obtain ⟨g2, hg2⟩ : ∃ g2, w2.heap.size = g2 := ⟨_, rfl⟩
  rw [hg2] at hown0 ⊢
  have hgg : w.heap.size ≤ g2 := by omega
  clear hg0
  go_loopw [0, 12, 13, 32] (fun l a b i wr => ∃ x : Int, ((i = .int .i64 0 ∧ l = .slice (some ⟨g, 0, none⟩) 3 c ∧ a = .int .i64 0 ∧ b = .int .i64 0 ∧ x = 0) ∨ (i = .int .i64 1 ∧ x = 2)) ∧ wr.ownsRow w.heap.size 3 1 (.slice (some ⟨g2, 0, none⟩) 1 1) 1 [.int .i64 x] ∧ Below w.heap.size w wr) (fun _ _ _ i _ => (1 - intOf i).toNat)
  case atStart => exact ⟨0, .inl ⟨rfl, rfl, rfl, rfl, rfl⟩, hown0, hB3⟩
  case round =>
    obtain ⟨x, hi, hown, hb⟩ := hrel
    rcases hi with ⟨rfl, rfl, rfl, rfl, rfl⟩ | ⟨rfl, rfl⟩
    · have HB := Lib.hid hb
      have HO := Lib.hid hown
      have ca := HAT.out _ hb
      clear hb hown
      go_wp2_with fail
      go_loopw [0, 12, 13] (fun l a b wi => ((l = .slice (some ⟨g, 0, none⟩) 3 c ∧ a = .int .i64 0 ∧ b = .int .i64 0) ∨ (l = .slice (some ⟨g, 4, none⟩) 2 (c - 1) ∧ a = .int .i64 1 ∧ b = .int .i64 1) ∨ (l = .slice (some ⟨g, 8, none⟩) 1 (c - 1 - 1) ∧ a = .int .i64 2 ∧ b = .int .i64 2)) ∧ wi.ownsRow w.heap.size 3 1 (.slice (some ⟨g2, 0, none⟩) 1 1) 1 [.int .i64 0] ∧ Below w.heap.size w wi) (fun _ _ b _ => (2 - intOf b).toNat)
      case atStart => exact ⟨.inl ⟨rfl, rfl, rfl⟩, HO.out, HB.out⟩
      case round =>
        obtain ⟨hi, hown, hb⟩ := hrel
        have HB2 := Lib.hid hb
        have HO2 := Lib.hid hown
        rcases hi with ⟨rfl, rfl, rfl⟩ | ⟨rfl, rfl, rfl⟩ | ⟨rfl, rfl, rfl⟩
        · have k1 := HCS.out _ hb 1 _ rfl
          have k2 := HCS.out _ hb 2 _ rfl
          have k3 := HCS.out _ hb 3 _ rfl
          have HSZ := Lib.hid (prSizeS_any 0 1 wr (by unfold Fit; omega))
          rw [show sizeS ((0 : Int), (1 : Int)) = 1 from rfl] at HSZ
          clear hb hown
          go_wp2_with (first
            | (go_at_call 36; with_reducible refine HSZ.out.mono ?_; rintro e w5 ⟨rfl, hb5⟩; have HB5 := Lib.hid (below_self HB2.out hb5); have HO5 := Lib.hid (own_below HO2.out hb5); have k4 := cell_below hb5 k3; clear hb5)
            | fail)
          go_roundw
          case rel => exact ⟨.inr (.inl ⟨rfl, rfl, rfl⟩), HO5.out, HB5.out⟩
          case measure => first | (simp [intOf]; done) | (simp [intOf]; decide)
        · have k1 := HCS.out _ hb 5 _ rfl
          have k2 := HCS.out _ hb 6 _ rfl
          have k3 := HCS.out _ hb 7 _ rfl
          have HSZ := Lib.hid (prSizeS_any 1 2 wr (by unfold Fit; omega))
          rw [show sizeS ((1 : Int), (2 : Int)) = 1 from rfl] at HSZ
          clear hb hown
          go_wp2_with (first
            | (go_at_call 36; with_reducible refine HSZ.out.mono ?_; rintro e w5 ⟨rfl, hb5⟩; have HB5 := Lib.hid (below_self HB2.out hb5); have HO5 := Lib.hid (own_below HO2.out hb5); have k4 := cell_below hb5 k3; clear hb5)
            | fail)
          go_roundw
          case rel => exact ⟨.inr (.inr ⟨rfl, rfl, rfl⟩), HO5.out, HB5.out⟩
          case measure => first | (simp [intOf]; done) | (simp [intOf]; decide)
        · have k0 := HCS.out _ hb 8 _ rfl
          have k1 := HCS.out _ hb 9 _ rfl
          obtain ⟨⟨u, hu⟩, hfu⟩ := own_slot hown (j := 0) (by omega)
          have HST := Lib.hid (hown.stored 0 (.int .i64 2)).1
          have HBS := Lib.hid (hb.setCell (p := ⟨g2, 0, none⟩) hgg (.int .i64 2))
          clear hb hown
          go_wp2_with fail
          go_roundw
          case rel => exact ⟨2, .inr ⟨by go_num, rfl⟩, HST.out, HBS.out⟩
          case measure => simp [intOf]
    · go_wp2_with fail
      go_ret2
      exact ⟨_, rfl, hown, hb⟩
end Go.Proofs.Ytdgomaoikeffhaa
