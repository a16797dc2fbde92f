/- The project's counts. -/
import Derived.Test.YtfobhnpmaooalaaTrC1
namespace Go.Proofs.Ytfobhnpmaooalaa
open Go.RowKit

theorem intsSlice : SliceOf Try.prog 40 3 1 8 := .mk_ (z := .int .i64 0) Try.underlying40 (by kernel_rfl) rfl
theorem intsA_at {b : List Int} {j : Nat} {x : Int} (h : b[j]? = some x) : (intsA b)[j]? = some (.int .i64 x) := by
  rw [intsA, List.getElem?_toArray, List.getElem?_map, h]
  rfl
theorem idxBlk {b : List Int} {j : Nat} {x : Int} (hj : j < 128) (h : b[j]? = some x) (w : World) : (Instr.index 91 (.agg (intsA b)) (.int .i64 (j : Int))).run Try.prog w = .ok (.int .i64 x) w :=
  run_indexA (e := 3) (i := (Try.prog.info? 3).getD default) Try.underlying91 (by kernel_rfl) (by kernel_rfl) (by kernel_rfl) hj (intsA_at h) w
/-- What counts holds while it goes over the blocks. -/
def CntAt (w : World) (g : Nat) (v : Int) (bl : List (List Int)) (cap : Nat) (i : Nat) (p : Int) (wr : World) : Prop := wr.ownsRow w.heap.size 3 1 (.slice (some ⟨g, 0, none⟩) bl.length cap) bl.length ((rowC v bl i p).map (Value.int .i64)) ∧ Below w.heap.size w wr
theorem CntAt.next {w wr : World} {g cap i : Nat} {v p x : Int} {bl : List (List Int)} (h : CntAt w g v bl cap i p wr) : CntAt w g v bl cap i x (wr.setCell ⟨g, i, none⟩ (.int .i64 x)) := by
  obtain ⟨h1, h2⟩ := h
  have hgb := (h1.lt g rfl).1
  have := (h1.stored i (.int .i64 x)).1
  rw [← List.map_set, rowC_set] at this
  exact ⟨this, h2.setCell (p := ⟨g, i, none⟩) (by simp only; exact hgb) (.int .i64 x)⟩
theorem CntAt.on {w wr : World} {g cap i : Nat} {v : Int} {bl : List (List Int)} {b : List Int} (h : CntAt w g v bl cap i (cntL v b) wr) (hb : bl[i]? = some b) : CntAt w g v bl cap (i + 1) 0 wr := by
  unfold CntAt at h ⊢
  rw [rowC_on hb] at h
  exact h
theorem CntAt.cell {w wr : World} {g cap i : Nat} {v p : Int} {bl : List (List Int)} (h : CntAt w g v bl cap i p wr) (hi : i < bl.length) : wr.cell? ⟨g, i, none⟩ = some (.int .i64 p) ∧ wr.frozen? ⟨g, i, none⟩ = false := by
  obtain ⟨h1, h2⟩ := h
  refine ⟨?_, h1.frozenAt i⟩
  rw [h1.cellAt i (by omega), List.getElem?_map, rowC_at _ _ _ _ hi, if_neg (by omega), if_pos rfl]
  rfl
set_option maxRecDepth 100000 in
set_option maxHeartbeats 4000000 in
theorem prCounts_any (b gB capB : Nat) (v : Int) (bl : List (List Int)) (w : World) (h8 : w.cell? ⟨b, 8704, none⟩ = some (.slice (some ⟨gB, 0, none⟩) bl.length capB)) (hr : Rd w 128 (some ⟨gB, 0, none⟩) bl.length (cellsK bl)) (hlens : ∀ x ∈ bl, x.length = 128) (hn : bl.length ≤ 8704) (hp : 0 < bl.length) (hcap : bl.length ≤ capB) :
    Calls Try.prog 44 #[.pointer (some ⟨b, 0, none⟩), .int .i64 v] w fun e w' => (∃ g cap, e = .returned (.slice (some ⟨g, 0, none⟩) bl.length cap) ∧ bl.length ≤ cap ∧ CntAt w g v bl cap bl.length 0 w') := by
  have HR := Lib.hid hr
  have HLN := Lib.hid hlens
  obtain ⟨nb, hnb⟩ : ∃ nb, bl.length = nb := ⟨_, rfl⟩
  have HNB := Lib.hid hnb
  have hn2 : nb ≤ 8704 := by omega
  have hp2 : 0 < nb := by omega
  have hcap2 : nb ≤ capB := by omega
  have hblk : ∀ (w' : World), Below w.heap.size w w' → ∀ (i : Nat) (bb : List Int), bl[i]? = some bb → (loadVar 91 ⟨gB, i * 128, none⟩).run Try.prog w' = .ok (.agg (intsA bb)) w' := fun w' hb i bb hbb => by
    rw [← addNew]
    refine (loadBlkAt (HLN.out bb (List.mem_of_getElem? hbb)) fun j x hx => ?_).1
    have hj := (List.getElem?_eq_some_iff.1 hx).1
    have hl := HLN.out bb (List.mem_of_getElem? hbb)
    have := (HR.out.below hb).news (i * 128 + j) (.int .i64 x) (by rw [cellsK_at HLN.out hbb (by omega), hx]; rfl)
    rwa [← addAdd] at this
  have HBLK := Lib.hid hblk
  rw [hnb] at h8
  clear hr hlens hn hp hcap hnb hblk
  go_enter Try.func44, Try.ntmps44
  go_wp2_with (at_make; refine wpList_mkFull rfl _ _ _ rfl (base := w.heap.size) (z := .int .i64 0) (bytes := 8) Try.underlying40 (by kernel_rfl) rfl _ _ nb rfl rfl rfl rfl (by omega) (by unfold maxLen; omega) (Nat.le_refl _) ?_; intro w1 hown1 hg1; have hb1 := (Below.refl w.heap.size w).grown hg1 (Nat.le_refl _) (fun k hk => by cases hk); have h81 := cell_below hb1 h8)
  have HC0 : Hid (CntAt w w.heap.size v bl nb 0 0 w1) := Lib.hid (by
    unfold CntAt
    rw [← rowC_start, List.map_replicate, HNB.out]
    exact ⟨hown1, hb1⟩)
  clear hown1 hg1
  obtain ⟨gn, hgn⟩ : ∃ gn, w.heap.size = gn := ⟨_, rfl⟩
  have HGN := Lib.hid hgn
  simp only [hgn]
  rw [hgn] at HC0
  clear hgn
  go_loopw [20] (fun i wr => ∃ k : Nat, k ≤ nb ∧ i = .int .i64 k ∧ CntAt w gn v bl nb k 0 wr) (fun i _ => nb - (intOf i).toNat)
  case atStart => exact ⟨0, Nat.zero_le _, rfl, HC0.out⟩
  case round =>
    obtain ⟨k, hk, rfl, hcn⟩ := hrel
    have HCN := Lib.hid hcn
    have hb := hcn.2
    clear hcn
    by_cases hlt : k < nb
    · obtain ⟨bb, hbb⟩ : ∃ bb, bl[k]? = some bb := ⟨_, List.getElem?_eq_getElem (by rw [HNB.out]; exact hlt)⟩
      have h8r := cell_below hb h8
      have HBB := Lib.hid hbb
      have HL128 := Lib.hid (HLN.out bb (List.mem_of_getElem? hbb))
      clear hbb
      go_wp2_with (first
        | ((with_reducible refine wpList_loadV rfl 91 _ rfl ⟨gB, k * 128, none⟩ (.agg (intsA bb)) ?_ (HBLK.out _ hb k bb HBB.out) ?_); rfl)
        | fail)
      go_loopw [30] (fun j w2 => ∃ q : Nat, q ≤ 128 ∧ j = .int .i64 q ∧ CntAt w gn v bl nb k (cntL v (bb.take q)) w2) (fun j _ => 128 - (intOf j).toNat)
      case atStart => exact ⟨0, Nat.zero_le _, rfl, HCN.out⟩
      case round =>
        obtain ⟨q, hq, rfl, hcq⟩ := hrel
        by_cases hq128 : q < 128
        · obtain ⟨x, hx⟩ : ∃ x, bb[q]? = some x := ⟨_, List.getElem?_eq_getElem (by rw [HL128.out]; exact hq128)⟩
          have hidx := idxBlk hq128 hx
          have HNX := Lib.hid (cntL_next (v := v) hx)
          have hpb := cntL_bd v (bb.take q)
          have hpl : (bb.take q).length ≤ 128 := by have := List.length_take_le q bb; omega
          obtain ⟨p, hp⟩ : ∃ p, cntL v (bb.take q) = p := ⟨_, rfl⟩
          rw [hp] at hcq hpb HNX
          have hp0 : 0 ≤ p := hpb.1
          have hp1 : p ≤ 128 := by omega
          obtain ⟨hcell, hfz⟩ := hcq.cell (by rw [HNB.out]; exact hlt)
          have HCQ := Lib.hid hcq
          have hkgn : gn < wr.heap.size := cell_lt hcell
          clear hx hpb hpl hp hcq
          by_cases hxv : x = v
          · have HY := Lib.hid (show cntL v (bb.take (q + 1)) = p + 1 by rw [HNX.out, if_pos hxv])
            have HCN2 := Lib.hid (HCQ.out.next (x := p + 1))
            subst hxv
            go_wp2
            go_roundw
            case rel => exact ⟨q + 1, by omega, by go_num, by rw [HY.out]; exact HCN2.out⟩
            case measure => simp [intOf]; omega
          · have HY := Lib.hid (show cntL v (bb.take (q + 1)) = p by rw [HNX.out, if_neg hxv]; omega)
            have g1 : (x == v) = false := by simp [hxv]
            clear hxv
            go_wp2
            go_roundw
            case rel => exact ⟨q + 1, by omega, by go_num, by rw [HY.out]; exact HCQ.out⟩
            case measure => simp [intOf]; omega
        · have hqe : q = 128 := by omega
          have HON := Lib.hid (show CntAt w gn v bl nb (k + 1) 0 wr by
            have := hcq
            rw [List.take_of_length_le (by rw [HL128.out]; omega)] at this
            exact this.on HBB.out)
          clear hcq
          go_wp2
          go_roundw
          case rel => exact ⟨k + 1, by omega, by go_num, HON.out⟩
          case measure => simp [intOf]; omega
    · have hke : k = nb := by omega
      have HFIN := Lib.hid (show CntAt w gn v bl nb bl.length 0 wr by have := HCN.out; rw [HNB.out]; rwa [hke] at this)
      clear hke
      go_wp2
      go_ret
      exact ⟨gn, nb, by rw [HNB.out]; rfl, by rw [HNB.out]; exact Nat.le_refl _, HFIN.out⟩
end Go.Proofs.Ytfobhnpmaooalaa
