/- naskhref28's Lines, walked. -/
import Derived.Test.YtdgomaoikeffhaaLnD
import Derived.Test.YtdgomaoikeffhaaCutD
import Derived.Test.YtdgomaoikeffhaaMem3
import Derived.BigQuiet
namespace Go.Proofs.Ytdgomaoikeffhaa
open Go.RowKit

theorem lines_next {l : List Sp} {bs : List Int} {i : Nat} {x y : Int} (h : l[i]? = some (x, y)) : linesF (l.take (i + 1)) bs = linesF (l.take i) bs ++ lnCut y x bs := by
  rw [List.take_add_one, h]
  simp [linesF]
set_option maxRecDepth 100000 in
set_option maxHeartbeats 4000000 in
theorem rbLines_any (A B : Option Addr) (n c m d : Nat) (l : List Sp) (bs : List Int) (w : World) (hr : Rd w 2 A n (cellsS l)) (hs : Rd w 1 B m (bs.map (Value.int .i64))) (hn : n ≤ 1000) (hm : m ≤ 1000) :
    Calls Try.prog 19 #[.slice A n c, .slice B m d] w fun e w' => ∃ v, e = .returned v ∧ w'.ownsRow w.heap.size 24 2 v (linesF l bs).length (cellsS (linesF l bs)) ∧ Below w.heap.size w w' := by
  have hl : l.length = n := by have := hr.1; rw [cellsS_len] at this; omega
  have hl2 : bs.length = m := by simpa using hs.len1
  have HL := Lib.hid hl
  have HL2 := Lib.hid hl2
  have HR := Lib.hid hr
  have HS := Lib.hid hs
  clear hl hl2 hr hs
  go_enter Try.func19, Try.ntmps19
  go_wp2
  go_loopw [5, 6] (fun v t wr => ∃ i : Nat, i ≤ n ∧ t = .int .i64 (i : Int) ∧ (linesF (l.take i) bs).length ≤ 1001 * i ∧ wr.ownsRow w.heap.size 24 2 v (linesF (l.take i) bs).length (cellsS (linesF (l.take i) bs)) ∧ Below w.heap.size w wr) (fun _ t _ => n - (intOf t).toNat)
  case atStart => exact ⟨0, Nat.zero_le _, rfl, Nat.zero_le _, ⟨rfl, .inl ⟨rfl, rfl⟩⟩, Below.refl _ _⟩
  case round =>
    obtain ⟨i, hi, rfl, hle, hO, hb⟩ := hrel
    have HO := Lib.hid hO
    have HB := Lib.hid hb
    clear hO hb
    by_cases hlt : i < n
    · obtain ⟨s, hsp⟩ : ∃ s, l[i]? = some s := ⟨_, List.getElem?_eq_getElem (by rw [HL.out]; exact hlt)⟩
      obtain ⟨x, y⟩ := s
      obtain ⟨ad, rfl, hab, c1, c2⟩ := HR.out.span hsp
      simp only at c1 c2
      have HC2 := Lib.hid c2
      have HNX := Lib.hid (lines_next (bs := bs) hsp)
      obtain ⟨L0, hL0⟩ : ∃ L0, linesF (l.take i) bs = L0 := ⟨_, rfl⟩
      rw [hL0] at HO HNX hle
      have e1 := cell_below HB.out c1
      have hin : (i : Int) < (n : Int) := by omega
      have hi0 : (0 : Int) ≤ (i : Int) := by omega
      have hi5 : (i : Int) ≤ 1000 := by omega
      clear hsp c1 c2 hL0
      go_wp2
      go_loopw [5, 7, 8] (fun v a t wi => ∃ (lo : Int) (k : Nat) (acc : List Sp), k ≤ m ∧ a = .int .i64 lo ∧ t = .int .i64 (k : Int) ∧ L0 ++ lnCut y x bs = acc ++ lnCut y lo (bs.drop k) ∧ acc.length ≤ 1001 * i + k ∧ wi.ownsRow w.heap.size 24 2 v acc.length (cellsS acc) ∧ Below w.heap.size w wi) (fun _ _ t _ => m - (intOf t).toNat)
      case atStart => exact ⟨x, 0, L0, Nat.zero_le _, rfl, rfl, rfl, hle, HO.out, HB.out⟩
      case round =>
        obtain ⟨lo, k, acc, hk, rfl, rfl, he, hal, hO2, hb2⟩ := hrel
        have HE := Lib.hid he
        have HO2 := Lib.hid hO2
        have HB2 := Lib.hid hb2
        have e2 := cell_below hb2 HC2.out
        clear he hO2 hb2
        by_cases hkm : k < m
        · obtain ⟨b, hbk⟩ : ∃ b, bs[k]? = some b := ⟨_, List.getElem?_eq_getElem (by rw [HL2.out]; exact hkm)⟩
          obtain ⟨bd, rfl, hbb, hbcell⟩ := HS.out.at_ hkm
          have HCB := Lib.hid (hbcell _ (by rw [List.getElem?_map, hbk]; rfl))
          have cb := cell_below HB2.out HCB.out
          have hD : bs.drop k = b :: bs.drop (k + 1) := by rw [List.drop_eq_getElem_cons (List.getElem?_eq_some_iff.1 hbk).1, (List.getElem?_eq_some_iff.1 hbk).2]
          rw [hD, lnCut] at HE
          have hkmi : (k : Int) < (m : Int) := by omega
          have hk0 : (0 : Int) ≤ (k : Int) := by omega
          have hk5 : (k : Int) ≤ 1000 := by omega
          clear hbk hbcell hD
          by_cases h1 : lo < b
          · have d1 : decide (lo < b) = true := decide_eq_true h1
            by_cases h2 : b < y
            · have d2 : decide (b < y) = true := decide_eq_true h2
              rw [if_pos ⟨h1, h2⟩] at HE
              clear h1 h2
              go_wp2
              go_quiet (fail)
              have HO3 := Lib.hid (own_below HO2.out (drewBelow nq))
              have HB3 := Lib.hid (below_drew HB2.out nq)
              have cb3 := cell_below (drewBelow nq) cb
              generalize wr.drewN nq = wq at *
              clear cb e2
              go_wp2_with (at_builtin; refine wpList_app rfl _ _ _ rfl spanSlice (by decide) _ acc.length _ rfl (HO3.out.alloc _) ⟨wq.heap.size, 0, none⟩ 1 1 [.int .i64 lo, .int .i64 b] rfl rfl (cells_new wq [_, _] _) (oneInt2 _ _ _) (by omega) (by unfold maxLen; omega) (Nat.le_trans HB3.out.size (by simp)) ?_; intro v1 w1 hown1 hg1 hat1; have hgr := below_app (HB3.out.alloc HB3.out.size _) hg1 (HO3.out.alloc _) (Nat.le_trans HB3.out.size (by simp)); have cb4 := cell_below hgr HCB.out)
              have HO4 : Hid (w1.ownsRow w.heap.size 24 2 v1 (acc ++ [(lo, b)]).length (cellsS (acc ++ [(lo, b)]))) := Lib.hid (by rw [cellsS_snoc, List.length_append]; exact hown1)
              have HE2 := Lib.hid (HE.out.trans (show acc ++ (lo, b) :: lnCut y b (bs.drop (k + 1)) = (acc ++ [(lo, b)]) ++ lnCut y b (bs.drop (k + 1)) by simp))
              clear hown1 hg1 hat1
              go_roundw
              case rel => exact ⟨b, k + 1, acc ++ [(lo, b)], by omega, rfl, by go_num, HE2.out, by simp; omega, HO4.out, hgr⟩
              case measure => simp [intOf]; omega
            · have d2 : decide (b < y) = false := decide_eq_false h2
              rw [if_neg (fun h => h2 h.2)] at HE
              clear h1 h2
              go_wp2
              go_quiet (fail)
              have HO3 := Lib.hid (own_below HO2.out (drewBelow nq))
              have HB3 := Lib.hid (below_drew HB2.out nq)
              have cb3 := cell_below (drewBelow nq) cb
              clear cb3
              go_wp2
              go_roundw
              case rel => exact ⟨lo, k + 1, acc, by omega, rfl, by go_num, HE.out, by omega, HO3.out, HB3.out⟩
              case measure => simp [intOf]; omega
          · have d1 : decide (lo < b) = false := decide_eq_false h1
            rw [if_neg (fun h => h1 h.1)] at HE
            clear h1
            go_wp2
            go_quiet (fail)
            have HO3 := Lib.hid (own_below HO2.out (drewBelow nq))
            have HB3 := Lib.hid (below_drew HB2.out nq)
            have cb3 := cell_below (drewBelow nq) cb
            clear cb3
            go_wp2
            go_roundw
            case rel => exact ⟨lo, k + 1, acc, by omega, rfl, by go_num, HE.out, by omega, HO3.out, HB3.out⟩
            case measure => simp [intOf]; omega
        · have hkmi : ¬ (k : Int) < (m : Int) := by omega
          rw [List.drop_eq_nil_of_le (by rw [HL2.out]; omega), lnCut] at HE
          go_wp2_with (at_builtin; refine wpList_app rfl _ _ _ rfl spanSlice (by decide) _ acc.length _ rfl (HO2.out.alloc _) ⟨wr.heap.size, 0, none⟩ 1 1 [.int .i64 lo, .int .i64 y] rfl rfl (cells_new wr [_, _] _) (oneInt2 _ _ _) (by omega) (by unfold maxLen; omega) (Nat.le_trans HB2.out.size (by simp)) ?_; intro v1 w1 hown1 hg1 hat1; have hgr := below_app (HB2.out.alloc HB2.out.size _) hg1 (HO2.out.alloc _) (Nat.le_trans HB2.out.size (by simp)))
          have HO3 : Hid (w1.ownsRow w.heap.size 24 2 v1 (linesF (l.take (i + 1)) bs).length (cellsS (linesF (l.take (i + 1)) bs))) := Lib.hid (by rw [HNX.out, HE.out, cellsS_snoc, List.length_append]; exact hown1)
          have hle3 : (linesF (l.take (i + 1)) bs).length ≤ 1001 * (i + 1) := by rw [HNX.out, HE.out, List.length_append]; simp; omega
          clear hown1 hg1 hat1
          go_roundw
          case rel => exact ⟨i + 1, by omega, by go_num, hle3, HO3.out, hgr⟩
          case measure => simp [intOf]; omega
    · obtain rfl : i = n := by omega
      have HZ := Lib.hid (show l.take i = l from List.take_of_length_le (by rw [HL.out]; omega))
      rw [HZ.out] at HO
      go_wp2
      go_ret
      exact ⟨_, rfl, HO.out, HB.out⟩
end Go.Proofs.Ytdgomaoikeffhaa
