/- The reference's Cut of a span. -/
import Derived.Test.YtdgomaoikeffhaaSpRightR
import Derived.Test.YtdgomaoikeffhaaPartsD
import Derived.Test.YtdgomaoikeffhaaSpSlice
import Derived.Test.YtdgomaoikeffhaaCutD
namespace Go.Proofs.Ytdgomaoikeffhaa
open Go.RowKit

set_option maxRecDepth 100000 in
set_option maxHeartbeats 2000000 in
theorem refCut_any (lo hi : Int) (A : Option Addr) (n c : Nat) (at_ : List Int) (w : World) (hr : Rd w 1 A n (at_.map (Value.int .i64))) (hn : n ≤ 1000000) :
    Calls Try.prog 28 #[.agg #[.int .i64 lo, .int .i64 hi], .slice A n c] w (CutGives w (lo, hi) at_) := by
  have hlen : at_.length = n := by simpa using hr.len1
  have HL := Lib.hid hlen
  clear hlen
  go_enter Try.func28, Try.ntmps28
  go_wp2_with fail
  refine (refRight_any lo hi _).mono ?_
  rintro e w2 ⟨rfl, hb⟩
  have hb2 := below_self (below_new w _) hb
  have d0 : w2.cell? ⟨w.heap.size, 0, none⟩ = some (.int .i64 lo) := cell_below hb (by rw [World.cell?_alloc_at _ _ _ _ rfl]; rfl)
  have d1 : w2.cell? ⟨w.heap.size, 1, none⟩ = some (.int .i64 hi) := cell_below hb (by rw [World.cell?_alloc_at _ _ _ _ rfl]; rfl)
  have hr2 := hr.below hb2
  clear hb
  cases hrt : rightB (lo, hi) with
  | false =>
    go_wp2
    go_ret2
    exact .inl ⟨hrt, rfl, hb2⟩
  | true =>
    have HR := Lib.hid hrt
    go_wp2
    go_loopw [6, 7, 8] (fun v x i wr => ∃ (k : Nat) (acc : List Sp) (y : Int), k ≤ n ∧ i = .int .i64 k ∧ x = .int .i64 y ∧ acc.length = k ∧ cutFrom lo hi at_ = (cutFrom y hi (at_.drop k)).map (acc ++ ·) ∧ wr.ownsRow w2.heap.size 24 2 v acc.length (cellsS acc) ∧ Below w2.heap.size w2 wr) (fun _ _ i _ => n - (intOf i).toNat)
    case atStart => exact ⟨0, [], lo, Nat.zero_le _, rfl, rfl, rfl, by simp, ⟨rfl, .inl ⟨rfl, rfl⟩⟩, Below.refl _ _⟩
    case round =>
      obtain ⟨k, acc, y, hk, rfl, rfl, hal, hcf, hown, hbr⟩ := hrel
      have HC := Lib.hid hcf
      have HA := Lib.hid hal
      have hal' : acc.length ≤ k := Nat.le_of_eq hal
      clear hcf hal
      have e1 := cell_below hbr d1
      have hbw := below_self hb2 hbr
      by_cases hlt : k < n
      · obtain ⟨x, hxk⟩ : ∃ x, at_[k]? = some x := ⟨_, List.getElem?_eq_getElem (by rw [HL.out]; exact hlt)⟩
        obtain ⟨ad, rfl, hab, hcells⟩ := hr2.2 (by omega)
        have hc2 : w2.cell? (ad.add k) = some (.int .i64 x) := hcells k _ (by rw [List.getElem?_map, hxk]; rfl)
        have hcx : wr.cell? (ad.add k) = some (.int .i64 x) := (hbr.cell (by rw [blockAdd]; exact hab)).trans hc2
        have HD := Lib.hid (dropCons hxk)
        clear hxk hcells
        by_cases g1 : x ≤ y
        · have HF := Lib.hid (show cutFrom lo hi at_ = none by rw [HC.out, HD.out]; simp [cutFrom, g1])
          go_wp2
          go_quiet (fail)
          go_wp2
          go_ret2
          exact .inr (.inl ⟨HR.out, HF.out, rfl, below_drew hbw _⟩)
        · have g1' : decide (x ≤ y) = false := decide_eq_false g1
          by_cases g2 : hi ≤ x
          · have HF := Lib.hid (show cutFrom lo hi at_ = none by rw [HC.out, HD.out]; simp [cutFrom, g2])
            go_wp2
            go_quiet (fail)
            go_wp2
            go_ret2
            exact .inr (.inl ⟨HR.out, HF.out, rfl, below_drew hbw _⟩)
          · have g2' : decide (hi ≤ x) = false := decide_eq_false g2
            have HF := Lib.hid (show cutFrom lo hi at_ = (cutFrom x hi (at_.drop (k + 1))).map ((acc ++ [(y, x)]) ++ ·) by
              rw [HC.out, HD.out]
              have : cutFrom y hi (x :: at_.drop (k + 1)) = (cutFrom x hi (at_.drop (k + 1))).map ((y, x) :: ·) := by
                unfold cutFrom
                rw [if_neg (by omega)]
                cases at_.drop (k + 1) <;> rfl
              rw [this, Option.map_map]
              congr 1
              funext l
              simp)
            go_wp2
            go_quiet (fail)
            obtain ⟨wq, hwq⟩ : ∃ wq, wq = wr.drewN nq := ⟨_, rfl⟩
            rw [← hwq]
            have hownq : wq.ownsRow w2.heap.size 24 2 u6 acc.length (cellsS acc) := by rw [hwq]; exact hown
            have hbq : Below w2.heap.size w2 wq := by rw [hwq]; exact below_drewN hbr nq
            have hcq : wq.cell? (ad.add k) = some (.int .i64 x) := by rw [hwq]; exact hcx
            clear hwq hcx hown hbr e1 hbw
            go_wp2_with (at_builtin; refine wpList_app rfl _ _ _ rfl spanSlice (by decide) u6 acc.length _ rfl (hownq.alloc _) ⟨wq.heap.size, 0, none⟩ 1 1 [.int .i64 y, .int .i64 x] rfl rfl (cells_new wq [_, _] _) (oneInt2 _ _ _) (by omega) (by unfold maxLen; omega) (Nat.le_trans hbq.size (by simp)) ?_; intro v1 w1 hown1 hg1 hat1; have hgr := below_app (hbq.alloc hbq.size _) hg1 (hownq.alloc _) (Nat.le_trans hbq.size (by simp)); have hx1 : w1.cell? (ad.add k) = some (.int .i64 x) := (hgr.cell (by rw [blockAdd]; exact hab)).trans hc2)
            go_roundw
            case rel => exact ⟨k + 1, acc ++ [(y, x)], x, by omega, by go_num, rfl, by simp [HA.out], HF.out, by rw [cellsS_snoc, List.length_append]; exact hown1, hgr⟩
            case measure => simp [intOf]; omega
      · have HF := Lib.hid (show cutFrom lo hi at_ = some (acc ++ [(y, hi)]) by rw [HC.out, List.drop_eq_nil_of_le (by rw [HL.out]; omega)]; rfl)
        go_wp2_with (at_builtin; refine wpList_app rfl _ _ _ rfl spanSlice (by decide) u6 acc.length _ rfl (hown.alloc _) ⟨wr.heap.size, 0, none⟩ 1 1 [.int .i64 y, .int .i64 hi] rfl rfl (cells_new wr [_, _] _) (oneInt2 _ _ _) (by omega) (by unfold maxLen; omega) (Nat.le_trans hbr.size (by simp)) ?_; intro v1 w1 hown1 hg1 hat1; have hgr := below_app (hbr.alloc hbr.size _) hg1 (hown.alloc _) (Nat.le_trans hbr.size (by simp)))
        go_ret2
        exact .inr (.inr ⟨HR.out, _, v1, HF.out, rfl, by rw [cellsS_snoc, List.length_append]; exact own_weak hown1 hb2.size, below_self hb2 hgr⟩)
end Go.Proofs.Ytdgomaoikeffhaa
