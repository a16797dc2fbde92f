/- The project's Cut of a span. -/
import Derived.Test.YtdgomaoikeffhaaCutD
import Derived.Test.YtdgomaoikeffhaaSpRightP
namespace Go.Proofs.Ytdgomaoikeffhaa
open Go.RowKit

set_option maxRecDepth 100000 in
set_option maxHeartbeats 2000000 in
theorem prCut_any (lo hi : Int) (A : Option Addr) (n c : Nat) (at_ : List Int) (w : World) (hr : Rd w 1 A n (at_.map (Value.int .i64))) (hn : n ≤ 1000000) :
    Calls Try.prog 27 #[.agg #[.int .i64 lo, .int .i64 hi], .slice A n c] w (CutGives w (lo, hi) at_) := by
  have hlen : at_.length = n := by simpa using hr.len1
  have HL := Lib.hid hlen
  clear hlen
  go_enter Try.func27, Try.ntmps27
  go_wp2_with fail
  refine (prRight_any lo hi _).mono ?_
  rintro e w2 ⟨rfl, hb⟩
  have hb2 := below_self (below_new w _) hb
  have d0 : w2.cell? ⟨w.heap.size, 0, none⟩ = some (.int .i64 lo) := cell_below hb (by rw [World.cell?_alloc_at _ _ _ _ rfl]; rfl)
  have d1 : w2.cell? ⟨w.heap.size, 1, none⟩ = some (.int .i64 hi) := cell_below hb (by rw [World.cell?_alloc_at _ _ _ _ rfl]; rfl)
  clear hb
  cases hrt : rightB (lo, hi) with
  | false =>
    go_wp2
    go_ret2
    exact .inl ⟨hrt, rfl, hb2⟩
  | true =>
    have HR := Lib.hid hrt
    clear hrt
    have hle := hb2.size
    go_wp2_with (at_make; refine wpList_mk rfl _ _ _ rfl spanSlice (base := w.heap.size) _ (n + 1) rfl rfl (by omega) (by omega) (by unfold maxLen; omega) hle ?_; intro v0 w3 hown0 hg0; have hbm := below_make hg0; have e0 := cell_below hbm d0; have e1 := cell_below hbm d1)
    have hb3 := below_self hb2 hbm
    have hv0 : v0.ownBlock ≠ some w3.heap.size := fun e => by have := (hown0.lt _ e).2; omega
    have hl3 := hb3.size
    clear e0 e1 d0 d1 hbm hb2 hg0 hle
    go_loopw [6, 20] (fun v i wr => ∃ (k : Nat) (acc : List Sp) (y : Int), k ≤ n ∧ i = .int .i64 k ∧ acc.length = k ∧ cutFrom lo hi at_ = (cutFrom y hi (at_.drop k)).map (acc ++ ·) ∧ wr.ownsRow w.heap.size 24 2 v acc.length (cellsS acc) ∧ v.ownBlock ≠ some w3.heap.size ∧ SpanBlk wr w3.heap.size (y, hi) ∧ w3.heap.size < wr.heap.size ∧ Below w.heap.size w wr) (fun _ i _ => n - (intOf i).toNat)
    case atStart => exact ⟨0, [], lo, Nat.zero_le _, rfl, rfl, by cases h : cutFrom lo hi at_ <;> simp [h], hown0.alloc _, hv0, SpanBlk.new_ _ _ _ _, by simp, hb3.alloc hl3 _⟩
    case round =>
      obtain ⟨k, acc, y, hk, rfl, hal, hcf, hown, hvb, hB, hsz, hbr⟩ := hrel
      have HC := Lib.hid hcf
      have HA := Lib.hid hal
      have hal' : acc.length ≤ k := Nat.le_of_eq hal
      clear hcf hal
      by_cases hlt : k < n
      · obtain ⟨x, hxk⟩ : ∃ x, at_[k]? = some x := ⟨_, List.getElem?_eq_getElem (by rw [HL.out]; exact hlt)⟩
        obtain ⟨ad, rfl, hab, hcells⟩ := (hr.below hbr).2 (by omega)
        have hcx : wr.cell? (ad.add k) = some (.int .i64 x) := hcells k _ (by rw [List.getElem?_map, hxk]; rfl)
        have HD := Lib.hid (dropCons hxk)
        clear hxk hcells
        have HB := Lib.hid hB
        obtain ⟨t0, t1, t2, t3⟩ := hB
        simp only at t0 t1
        by_cases g1 : x ≤ y
        · have HF := Lib.hid (show cutFrom lo hi at_ = none by rw [HC.out, HD.out]; simp [cutFrom, g1])
          go_wp2
          go_ret2
          exact .inr (.inl ⟨HR.out, HF.out, rfl, hbr⟩)
        · have g1' : decide (x ≤ y) = false := decide_eq_false g1
          by_cases g2 : hi ≤ x
          · have HF := Lib.hid (show cutFrom lo hi at_ = none by rw [HC.out, HD.out]; simp [cutFrom, g2])
            go_wp2
            go_ret2
            exact .inr (.inl ⟨HR.out, HF.out, rfl, hbr⟩)
          · have g2' : decide (hi ≤ x) = false := decide_eq_false g2
            have HF := Lib.hid (show cutFrom lo hi at_ = (cutFrom x hi (at_.drop (k + 1))).map ((acc ++ [(y, x)]) ++ ·) by
              rw [HC.out, HD.out]
              have : cutFrom y hi (x :: at_.drop (k + 1)) = (cutFrom x hi (at_.drop (k + 1))).map ((y, x) :: ·) := by
                unfold cutFrom
                rw [if_neg (by omega)]
                cases at_.drop (k + 1) <;> rfl
              rw [this, Option.map_map]
              congr 1
              funext l
              simp)
            have hbs := hbr.size
            go_wp2_with (at_builtin; refine wpList_app rfl _ _ _ rfl spanSlice (by decide) u6 acc.length _ rfl (hown.alloc _) ⟨wr.heap.size, 0, none⟩ 1 1 [.int .i64 y, .int .i64 x] rfl rfl (cells_new wr [_, _] _) (oneInt2 _ _ _) (by omega) (by unfold maxLen; omega) (Nat.le_trans hbr.size (by simp)) ?_; intro v1 w1 hown1 hg1 hat1; have hgr := below_app (hbr.alloc hbr.size _) hg1 (hown.alloc _) (Nat.le_trans hbr.size (by simp)); have B1 := ((HB.out.below (below_new wr _)).grown hg1 hvb); have HB1 := Lib.hid B1; obtain ⟨q0, q1, q2, q3⟩ := B1; simp only at q0 q1)
            have hv1 : v1.ownBlock ≠ some w3.heap.size := by
              rcases hat1 with h | h
              · rw [h]; exact hvb
              · rw [h]; intro e; injection e with e; simp at e; omega
            have hsz1 : w3.heap.size < w1.heap.size := by have := hg1.size; simp at this; omega
            have HP := Lib.hid (HB1.out.put0 x)
            have HO := Lib.hid (own_set_far (i := 0) (u := .int .i64 x) hown1 hv1)
            have hbe := hgr.setCell (p := ⟨w3.heap.size, 0, none⟩) hl3 (.int .i64 x)
            go_roundw
            case rel => exact ⟨k + 1, acc ++ [(y, x)], x, by omega, by go_num, by simp [HA.out], HF.out, by rw [cellsS_snoc, List.length_append]; exact HO.out, hv1, HP.out, by simpa [World.setCell] using hsz1, hbe⟩
            case measure => simp [intOf]; omega
      · have HF := Lib.hid (show cutFrom lo hi at_ = some (acc ++ [(y, hi)]) by rw [HC.out, List.drop_eq_nil_of_le (by rw [HL.out]; omega)]; rfl)
        obtain ⟨t0, t1, t2, t3⟩ := hB
        simp only at t0 t1
        go_wp2_with (at_builtin; refine wpList_app rfl _ _ _ rfl spanSlice (by decide) u6 acc.length _ rfl (hown.alloc _) ⟨wr.heap.size, 0, none⟩ 1 1 [.int .i64 y, .int .i64 hi] rfl rfl (cells_new wr [_, _] _) (oneInt2 _ _ _) (by omega) (by unfold maxLen; omega) (Nat.le_trans hbr.size (by simp)) ?_; intro v1 w1 hown1 hg1 hat1; have hgr := below_app (hbr.alloc hbr.size _) hg1 (hown.alloc _) (Nat.le_trans hbr.size (by simp)))
        go_ret2
        exact .inr (.inr ⟨HR.out, _, v1, HF.out, rfl, by rw [cellsS_snoc, List.length_append]; exact hown1, hgr⟩)
end Go.Proofs.Ytdgomaoikeffhaa
