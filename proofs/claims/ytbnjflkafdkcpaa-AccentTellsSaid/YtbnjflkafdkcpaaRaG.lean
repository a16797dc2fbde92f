/- The reference's Groups of bases with marks, walked. -/
import Derived.BigQuiet
import Derived.Deep.DeepCutAuto
import Derived.Deep.CutBlock
import Derived.Test.YtbnjflkafdkcpaaAcD
import Derived.Test.YtbnjflkafdkcpaaSpSlice
import Derived.Test.YtbnjflkafdkcpaaMem3
import Derived.Test.YtbnjflkafdkcpaaSpBlk
namespace Go.Proofs.Ytbnjflkafdkcpaa
open Go.RowKit

theorem grpA_len (ls : List Int) (ms : List Bool) : ∀ i, (grpA ls ms i).length ≤ i
  | 0 => Nat.le_refl _
  | i + 1 => by
    have := grpA_len ls ms i
    rw [grpA]
    split
    · simp; omega
    · omega
theorem tmod2 {x : Int} : x.tmod 2 = 0 ↔ x % 2 = 0 := by
  constructor
  · intro h
    have := Int.dvd_of_tmod_eq_zero h
    omega
  · intro h
    exact Int.tmod_eq_zero_of_dvd (by omega)
set_option maxRecDepth 100000 in
set_option maxHeartbeats 1500000 in
theorem raGroups_any (A B : Option Addr) (n m c d : Nat) (ls : List Int) (ms : List Bool) (w : World) (hr : Rd w 1 A n (ls.map (Value.int .i64))) (hs : Rd w 1 B m (ms.map Value.bool)) (hn : n ≤ 100000) :
    Calls Try.prog 13 #[.slice A n c, .slice B m d] w fun e w' => ∃ v, e = .returned v ∧ w'.ownsRow w.heap.size 31 2 v (grpF ls ms).length (cellsS (grpF ls ms)) ∧ Below w.heap.size w w' := by
  have hll : ls.length = n := by simpa using hr.len1
  have hml : ms.length = m := by simpa using hs.len1
  have HLL := Lib.hid hll
  have HML := Lib.hid hml
  have HR := Lib.hid hr
  have HS := Lib.hid hs
  clear hr hs hll hml
  go_enter Try.func13, Try.ntmps13
  by_cases hnm : n = m
  · subst hnm
    have HG := Lib.hid (show grpF ls ms = grpA ls ms n by unfold grpF; rw [if_pos (by rw [HLL.out, HML.out]), HLL.out])
    go_wp2_with fail
    go_loopw [5, 6] (fun v i wr => ∃ k : Nat, k ≤ n ∧ i = .int .i64 (k : Int) ∧ wr.ownsRow w.heap.size 31 2 v (grpA ls ms k).length (cellsS (grpA ls ms k)) ∧ Below w.heap.size w wr) (fun _ i _ => n - (intOf i).toNat)
    case atStart => exact ⟨0, Nat.zero_le _, rfl, ⟨rfl, .inl ⟨rfl, rfl⟩⟩, Below.refl _ _⟩
    case round =>
      obtain ⟨k, hk, rfl, ho, hb⟩ := hrel
      have HO := Lib.hid ho
      have HB := Lib.hid hb
      by_cases hlt : k < n
      · obtain ⟨x, hx⟩ : ∃ x, ls[k]? = some x := ⟨_, List.getElem?_eq_getElem (by rw [HLL.out]; exact hlt)⟩
        obtain ⟨b, hbk⟩ : ∃ b, ms[k]? = some b := ⟨_, List.getElem?_eq_getElem (by rw [HML.out]; exact hlt)⟩
        obtain ⟨ad, rfl, _, hcell⟩ := (HR.out.below hb).at_ hlt
        obtain ⟨bd, rfl, _, hbcell⟩ := (HS.out.below hb).at_ hlt
        have cx := hcell (.int .i64 x) (by rw [List.getElem?_map, hx]; rfl)
        have cb := hbcell (.bool b) (by rw [List.getElem?_map, hbk]; rfl)
        have hxd : ls.getD k 0 = x := by rw [List.getD_eq_getElem?_getD, hx]; rfl
        have hbd : ms.getD k false = b := by rw [List.getD_eq_getElem?_getD, hbk]; rfl
        have HX := Lib.hid hxd
        have HBD := Lib.hid hbd
        have HCX := Lib.hid cx
        have HCB := Lib.hid cb
        have HH := Lib.hid (show hiA ls ms k = extA ls ms x n (k + 1) by unfold hiA; rw [hxd, HLL.out])
        have hkn : (k : Int) < (n : Int) := by omega
        have hk1 : (k : Int) + 1 = ((k + 1 : Nat) : Int) := by omega
        obtain ⟨k1, hk1e⟩ : ∃ k1, k + 1 = k1 := ⟨_, rfl⟩
        rw [hk1e] at hk1 HH
        have HK1 := Lib.hid hk1e
        clear ho hb hx hbk hcell hbcell cx cb hxd hbd hk1e
        go_upto_block 2 with fail
        go_cut [7] from 21 to 43 (fun s7 wx => ∃ j q : Nat, s7 = .int .i64 (j : Int) ∧ hiA ls ms k = j ∧ k1 ≤ j ∧ j ≤ n ∧ wx = wr.drewN q)
        case first =>
         go_wp2_with fail
         go_loopw [7] (fun i wi => ∃ j f q : Nat, i = .int .i64 (j : Int) ∧ k1 ≤ j ∧ j ≤ n ∧ n ≤ f + j ∧ hiA ls ms k = extA ls ms x f j ∧ wi = wr.drewN q) (fun i _ => n - (intOf i).toNat)
         case atStart => exact ⟨k1, n, 0, rfl, Nat.le_refl _, by have := HK1.out; omega, by omega, HH.out, rfl⟩
         case round =>
           obtain ⟨j, f, q, rfl, hj1, hj2, hf, hh, rfl⟩ := hrel
           have HHI := Lib.hid hh
           have cx := HCX.out
           have cb := HCB.out
           clear hh
           by_cases hgo : j < n ∧ ms.getD j false = true ∧ ls.getD j 0 = x
           · obtain ⟨g1, g2, g3⟩ := hgo
             have hlj : ls[j]? = some x := by
               rw [List.getD_eq_getElem?_getD, List.getElem?_eq_getElem (by rw [HLL.out]; exact g1)] at g3
               rw [List.getElem?_eq_getElem (by rw [HLL.out]; exact g1)]
               exact congrArg some g3
             have hmj : ms[j]? = some true := by
               rw [List.getD_eq_getElem?_getD, List.getElem?_eq_getElem (by rw [HML.out]; exact g1)] at g2
               rw [List.getElem?_eq_getElem (by rw [HML.out]; exact g1)]
               exact congrArg some g2
             have e1 := (HR.out.below HB.out).news j (.int .i64 x) (by rw [List.getElem?_map, hlj]; rfl)
             have e2 := (HS.out.below HB.out).news j (.bool true) (by rw [List.getElem?_map, hmj]; rfl)
             have hji : (j : Int) < (n : Int) := by omega
             have hjd : decide ((j : Int) < (n : Int)) = true := decide_eq_true hji
             have hjd2 : decide (j < n) = true := decide_eq_true g1
             obtain ⟨f', rfl⟩ : ∃ f', f = f' + 1 := ⟨f - 1, by omega⟩
             have HN := Lib.hid (HHI.out.trans (show extA ls ms x (f' + 1) j = extA ls ms x f' (j + 1) by rw [extA, if_pos ⟨by rw [HLL.out]; exact g1, g2, g3⟩]))
             clear g2 g3 hlj hmj
             go_wp2
             go_quiet (fail)
             go_wp2
             go_roundw
             case rel => exact ⟨j + 1, f', _, by go_num, by omega, by omega, by omega, HN.out, rfl⟩
             case measure => simp [intOf]; omega
           · have HE := Lib.hid (show hiA ls ms k = j by
               rw [HHI.out]
               cases f with
               | zero => rfl
               | succ f => rw [extA, if_neg (by rw [HLL.out]; exact hgo)])
             by_cases g1 : j < n
             · obtain ⟨y, hy⟩ : ∃ y, ls[j]? = some y := ⟨_, List.getElem?_eq_getElem (by rw [HLL.out]; exact g1)⟩
               obtain ⟨mb, hmb⟩ : ∃ mb, ms[j]? = some mb := ⟨_, List.getElem?_eq_getElem (by rw [HML.out]; exact g1)⟩
               have e1 := (HR.out.below HB.out).news j (.int .i64 y) (by rw [List.getElem?_map, hy]; rfl)
               have e2 := (HS.out.below HB.out).news j (.bool mb) (by rw [List.getElem?_map, hmb]; rfl)
               have hyd : ls.getD j 0 = y := by rw [List.getD_eq_getElem?_getD, hy]; rfl
               have hmd : ms.getD j false = mb := by rw [List.getD_eq_getElem?_getD, hmb]; rfl
               rw [hyd, hmd] at hgo
               have hji : (j : Int) < (n : Int) := by omega
               have hjd : decide ((j : Int) < (n : Int)) = true := decide_eq_true hji
               have hjd2 : decide (j < n) = true := decide_eq_true g1
               clear hy hmb hyd hmd
               cases mb with
               | false =>
                 clear hgo
                 go_wp2
                 go_quiet (fail)
                 go_wp2
                 go_meet
                 case rel => exact ⟨j, q + nq, rfl, HE.out, hj1, hj2, by rw [World.drewN_drewN]⟩
               | true =>
                 have hyx : (y == x) = false := by
                   have : ¬ y = x := fun e => hgo ⟨g1, rfl, e⟩
                   simp [this]
                 clear hgo
                 go_wp2
                 go_quiet (fail)
                 go_wp2
                 go_meet
                 case rel => exact ⟨j, q + nq, rfl, HE.out, hj1, hj2, by rw [World.drewN_drewN]⟩
             · have hji : ¬ (j : Int) < (n : Int) := by omega
               have hjd : decide ((j : Int) < (n : Int)) = false := decide_eq_false hji
               have hjd2 : decide (j < n) = false := decide_eq_false g1
               clear hgo
               go_wp2
               go_quiet (fail)
               go_wp2
               go_meet
               case rel => exact ⟨j, q + nq, rfl, HE.out, hj1, hj2, by rw [World.drewN_drewN]⟩
        case rest =>
          obtain ⟨j, q, rfl, he, hj1, hj2, rfl⟩ := hcut
          have HE := Lib.hid he
          have HIS := Lib.hid (show isG ls ms k = decide (b = false ∧ x % 2 ≠ 0 ∧ k + 1 < j) by unfold isG; rw [HBD.out, HX.out, he])
          have cx := HCX.out
          have cb := HCB.out
          have HO2 : Hid ((wr.drewN q).ownsRow w.heap.size 31 2 u5 (grpA ls ms k).length (cellsS (grpA ls ms k))) := Lib.hid (own_below HO.out (below_drewN (Below.refl _ _) q))
          have HB2 := Lib.hid (below_drewN HB.out q)
          obtain ⟨r, hrr⟩ : ∃ r, x.tmod 2 = r := ⟨_, rfl⟩
          have HRR := Lib.hid hrr
          clear he
          have no : isG ls ms k = false → Hid (grpA ls ms (k + 1) = grpA ls ms k) := fun hg => Lib.hid (by rw [grpA, if_neg (by rw [hg]; decide)])
          by_cases hbt : b = true
          · subst hbt
            have HN := no (by rw [HIS.out]; simp)
            clear no hrr
            go_wp2
            go_roundw
            case rel => exact ⟨k + 1, by omega, by go_num, by rw [HN.out]; exact HO2.out, HB2.out⟩
            case measure => simp [intOf]; omega
          · obtain rfl : b = false := by cases b <;> simp_all
            by_cases hr0 : r = 0
            · subst hr0
              have HN := no (by rw [HIS.out, decide_eq_false (by rintro ⟨_, h, _⟩; exact h (tmod2.1 HRR.out))])
              clear no
              go_wp2
              go_roundw
              case rel => exact ⟨k + 1, by omega, by go_num, by rw [HN.out]; exact HO2.out, HB2.out⟩
              case measure => simp [intOf]; omega
            · have gr : (r != 0) = true := by simp [hr0]
              by_cases hkj : k1 < j
              · have hki : (k1 : Int) < (j : Int) := by omega
                have HY := Lib.hid (show grpA ls ms (k + 1) = grpA ls ms k ++ [((k : Int), (j : Int))] by
                  have hg : isG ls ms k = true := by
                    rw [HIS.out]
                    exact decide_eq_true ⟨rfl, fun h => hr0 (HRR.out.symm.trans (tmod2.2 h)), by have := HK1.out; omega⟩
                  rw [grpA, if_pos hg, HE.out])
                have hgl := grpA_len ls ms k
                clear no hr0
                go_wp2_with (first
                  | (at_builtin; refine wpList_app rfl _ _ _ rfl spanSlice (by decide) _ (grpA ls ms k).length _ rfl (HO2.out.alloc _) ⟨wr.heap.size, 0, none⟩ 1 1 [.int .i64 (k : Int), .int .i64 (j : Int)] rfl rfl (cells_new (wr.drewN q) [_, _] _) (oneInt2 _ _ _) (by omega) (by unfold maxLen; omega) (Nat.le_trans HB2.out.size (by simp)) ?_; intro v1 w1 hown1 hg1 hat1)
                  | fail)
                have HB3 := Lib.hid (below_app (HB2.out.alloc HB2.out.size (.cells #[.int .i64 (k : Int), .int .i64 (j : Int)] 31)) hg1 (HO2.out.alloc _) (Nat.le_trans HB2.out.size (by simp)))
                have HO3 : Hid (w1.ownsRow w.heap.size 31 2 v1 (grpA ls ms (k + 1)).length (cellsS (grpA ls ms (k + 1)))) := Lib.hid (by
                  rw [HY.out]
                  simp only [cellsS, List.flatMap_append, List.length_append]
                  exact hown1)
                clear hown1 hg1 hat1
                go_roundw
                case rel => exact ⟨k + 1, by omega, by go_num, HO3.out, HB3.out⟩
                case measure => simp [intOf]; omega
              · have hki : ¬ (k1 : Int) < (j : Int) := by omega
                have HN := no (by rw [HIS.out, decide_eq_false (by rintro ⟨_, _, h⟩; have := HK1.out; omega)])
                clear no hr0
                go_wp2
                go_roundw
                case rel => exact ⟨k + 1, by omega, by go_num, by rw [HN.out]; exact HO2.out, HB2.out⟩
                case measure => simp [intOf]; omega
      · obtain rfl : k = n := by omega
        go_wp2
        go_ret
        exact ⟨_, rfl, by rw [HG.out]; exact HO.out, HB.out⟩
  · have hne : ((n : Int) != (m : Int)) = true := by simp; omega
    have HG := Lib.hid (show grpF ls ms = [] by unfold grpF; rw [if_neg (by rw [HLL.out, HML.out]; exact hnm)])
    go_wp2
    go_ret
    exact ⟨_, rfl, by rw [HG.out]; exact ⟨rfl, .inl ⟨rfl, rfl⟩⟩, Below.refl _ _⟩
end Go.Proofs.Ytbnjflkafdkcpaa
