/- Texts of one claim, one behind the other. -/
import Derived.BigQuiet
import Derived.Deep.DeepCutAuto
import Derived.Deep.CutBlock
import Derived.Test.YtbnjflkafdkcpaaMgAo1
import Derived.Test.YtbnjflkafdkcpaaMgAo2
import Derived.Test.YtbnjflkafdkcpaaMgAo3
/- accent's end and falls, walked. -/
namespace Go.Proofs.Ytbnjflkafdkcpaa
open Go.RowKit

set_option maxRecDepth 100000 in
set_option maxHeartbeats 1500000 in
theorem acEnd_any (A B : Option Addr) (n c d k : Nat) (ls : List Int) (ms : List Bool) (w : World) (hr : Rd w 1 A n (ls.map (Value.int .i64))) (hs : Rd w 1 B n (ms.map Value.bool)) (hk : k < n) (hn : n ≤ 100000) :
    Calls Try.prog 40 #[.slice A n c, .slice B n d, .int .i64 (k : Int)] w fun e w' => e = .returned (.int .i64 ((hiA ls ms k : Nat) : Int)) ∧ ∃ q, w' = w.drewN q := by
  have hll : ls.length = n := by simpa using hr.len1
  have hml : ms.length = n := by simpa using hs.len1
  have HLL := Lib.hid hll
  have HML := Lib.hid hml
  have HR := Lib.hid hr
  have HS := Lib.hid hs
  obtain ⟨x, hx⟩ : ∃ x, ls[k]? = some x := ⟨_, List.getElem?_eq_getElem (by omega)⟩
  obtain ⟨ad, rfl, _, hcell⟩ := hr.at_ hk
  obtain ⟨bd, rfl, _, _⟩ := hs.at_ hk
  have cx := hcell (.int .i64 x) (by rw [List.getElem?_map, hx]; rfl)
  have hxd : ls.getD k 0 = x := by rw [List.getD_eq_getElem?_getD, hx]; rfl
  have HCX := Lib.hid cx
  have HH := Lib.hid (show hiA ls ms k = extA ls ms x n (k + 1) by unfold hiA; rw [hxd, hll])
  have hkn : (k : Int) < (n : Int) := by omega
  obtain ⟨k1, hk1e⟩ : ∃ k1, k + 1 = k1 := ⟨_, rfl⟩
  have hk1 : (k : Int) + 1 = (k1 : Int) := by omega
  rw [hk1e] at HH
  have HK1 := Lib.hid hk1e
  clear hr hs hll hml hx hcell cx hxd hk1e
  go_enter Try.func40, Try.ntmps40
  go_wp2_with fail
  go_loopw [7] (fun i wi => ∃ j f q : Nat, i = .int .i64 (j : Int) ∧ k1 ≤ j ∧ j ≤ n ∧ n ≤ f + j ∧ hiA ls ms k = extA ls ms x f j ∧ wi = w.drewN q) (fun i _ => n - (intOf i).toNat)
  case atStart => exact ⟨k1, n, 0, by first | rfl | simp [hk1], Nat.le_refl _, by have := HK1.out; omega, by omega, HH.out, rfl⟩
  case round =>
    obtain ⟨j, f, q, rfl, hj1, hj2, hf, hh, rfl⟩ := hrel
    have HHI := Lib.hid hh
    have cx := HCX.out
    clear hh
    by_cases hgo : j < n ∧ ms.getD j false = true ∧ ls.getD j 0 = x
    · obtain ⟨g1, g2, g3⟩ := hgo
      have hlj : ls[j]? = some x := by
        rw [List.getD_eq_getElem?_getD, List.getElem?_eq_getElem (by rw [HLL.out]; exact g1)] at g3
        rw [List.getElem?_eq_getElem (by rw [HLL.out]; exact g1)]
        exact congrArg some g3
      have hmj : ms[j]? = some true := by
        rw [List.getD_eq_getElem?_getD, List.getElem?_eq_getElem (by rw [HML.out]; exact g1)] at g2
        rw [List.getElem?_eq_getElem (by rw [HML.out]; exact g1)]
        exact congrArg some g2
      have e1 := HR.out.news j (.int .i64 x) (by rw [List.getElem?_map, hlj]; rfl)
      have e2 := HS.out.news j (.bool true) (by rw [List.getElem?_map, hmj]; rfl)
      have hji : (j : Int) < (n : Int) := by omega
      have hjd : decide ((j : Int) < (n : Int)) = true := decide_eq_true hji
      have hjd2 : decide (j < n) = true := decide_eq_true g1
      obtain ⟨f', rfl⟩ : ∃ f', f = f' + 1 := ⟨f - 1, by omega⟩
      have HN := Lib.hid (HHI.out.trans (show extA ls ms x (f' + 1) j = extA ls ms x f' (j + 1) by rw [extA, if_pos ⟨by rw [HLL.out]; exact g1, g2, g3⟩]))
      clear g2 g3 hlj hmj
      go_wp2
      go_quiet (fail)
      go_wp2
      go_roundw
      case rel => exact ⟨j + 1, f', _, by go_num, by omega, by omega, by omega, HN.out, rfl⟩
      case measure => simp [intOf]; omega
    · have HE := Lib.hid (show hiA ls ms k = j by
        rw [HHI.out]
        cases f with
        | zero => rfl
        | succ f => rw [extA, if_neg (by rw [HLL.out]; exact hgo)])
      by_cases g1 : j < n
      · obtain ⟨y, hy⟩ : ∃ y, ls[j]? = some y := ⟨_, List.getElem?_eq_getElem (by rw [HLL.out]; exact g1)⟩
        obtain ⟨mb, hmb⟩ : ∃ mb, ms[j]? = some mb := ⟨_, List.getElem?_eq_getElem (by rw [HML.out]; exact g1)⟩
        have e1 := HR.out.news j (.int .i64 y) (by rw [List.getElem?_map, hy]; rfl)
        have e2 := HS.out.news j (.bool mb) (by rw [List.getElem?_map, hmb]; rfl)
        have hyd : ls.getD j 0 = y := by rw [List.getD_eq_getElem?_getD, hy]; rfl
        have hmd : ms.getD j false = mb := by rw [List.getD_eq_getElem?_getD, hmb]; rfl
        rw [hyd, hmd] at hgo
        have hji : (j : Int) < (n : Int) := by omega
        have hjd : decide ((j : Int) < (n : Int)) = true := decide_eq_true hji
        have hjd2 : decide (j < n) = true := decide_eq_true g1
        clear hy hmb hyd hmd
        cases mb with
        | false =>
          clear hgo
          go_wp2
          go_quiet (fail)
          go_wp2
          go_ret
          exact ⟨by rw [HE.out]; rfl, _, World.drewN_drewN _ _ _⟩
        | true =>
          have hyx : (y == x) = false := by
            have : ¬ y = x := fun e => hgo ⟨g1, rfl, e⟩
            simp [this]
          clear hgo
          go_wp2
          go_quiet (fail)
          go_wp2
          go_ret
          exact ⟨by rw [HE.out]; rfl, _, World.drewN_drewN _ _ _⟩
      · have hji : ¬ (j : Int) < (n : Int) := by omega
        have hjd : decide ((j : Int) < (n : Int)) = false := decide_eq_false hji
        have hjd2 : decide (j < n) = false := decide_eq_false g1
        clear hgo
        go_wp2
        go_quiet (fail)
        go_wp2
        go_ret
        exact ⟨by rw [HE.out]; rfl, _, World.drewN_drewN _ _ _⟩
set_option maxRecDepth 100000 in
set_option maxHeartbeats 1500000 in
theorem acFalls_any (A : Option Addr) (n c : Nat) (l : List Int) (w : World) (hr : Rd w 1 A n (l.map (Value.int .i64))) (hn : n ≤ 100000) (hb : ∀ x ∈ l, 0 ≤ x ∧ x ≤ 100000) :
    Calls Try.prog 27 #[.slice A n c] w fun e w' => e = .returned (.bool (fallW l)) ∧ w' = w := by
  have hl : l.length = n := by simpa using hr.len1
  have HL := Lib.hid hl
  have HR := Lib.hid hr
  have HB := Lib.hid hb
  clear hl hr hb
  go_enter Try.func27, Try.ntmps27
  go_wp2
  go_loopw [7] (fun i wr => ∃ k : Nat, k ≤ n ∧ i = .int .i64 (k : Int) ∧ (∀ j, j < k → l.getD j 0 = l.getD 0 0 - (j : Int)) ∧ wr = w) (fun i _ => n - (intOf i).toNat)
  case atStart => exact ⟨0, Nat.zero_le _, rfl, fun j hj => by omega, rfl⟩
  case round =>
    obtain ⟨k, hk, rfl, hall, rfl⟩ := hrel
    have HALL := Lib.hid hall
    clear hall
    by_cases hlt : k < n
    · obtain ⟨x, hx⟩ : ∃ x, l[k]? = some x := ⟨_, List.getElem?_eq_getElem (by rw [HL.out]; exact hlt)⟩
      obtain ⟨y, hy⟩ : ∃ y, l[0]? = some y := ⟨_, List.getElem?_eq_getElem (by rw [HL.out]; omega)⟩
      obtain ⟨ad, rfl, _, hcell⟩ := HR.out.at_ hlt
      have cx := hcell (.int .i64 x) (by rw [List.getElem?_map, hx]; rfl)
      have cy := HR.out.news 0 (.int .i64 y) (by rw [List.getElem?_map, hy]; rfl)
      have cy' : wr.cell? ad = some (.int .i64 y) := by simpa [Addr.add] using cy
      have hxd : l.getD k 0 = x := by rw [List.getD_eq_getElem?_getD, hx]; rfl
      have hyd : l.getD 0 0 = y := by rw [List.getD_eq_getElem?_getD, hy]; rfl
      have hyb := HB.out y (List.mem_of_getElem? hy)
      have HX := Lib.hid hxd
      have HY := Lib.hid hyd
      have hki : (k : Int) < (n : Int) := by omega
      have hn0 : (0 : Int) < (n : Int) := by omega
      clear hx hy hcell hxd hyd
      by_cases hxy : x = y - (k : Int)
      · have HN := Lib.hid (show ∀ j, j < k + 1 → l.getD j 0 = l.getD 0 0 - (j : Int) from fun j hj => by
          by_cases e : j = k
          · subst e; rw [HX.out, HY.out]; exact hxy
          · exact HALL.out j (by omega))
        have g : (x != y - (k : Int)) = false := by simp [hxy]
        clear hxy
        go_wp2
        go_roundw
        case rel => exact ⟨k + 1, by omega, by go_num, HN.out, by first | rfl | trivial⟩
        case measure => simp [intOf]; omega
      · have g : (x != y - (k : Int)) = true := by simp [hxy]
        have HN := Lib.hid (show fallW l = false by
          refine decide_eq_false fun h => ?_
          have := h k (by rw [HL.out]; exact hlt)
          rw [HX.out, HY.out] at this
          exact hxy this)
        clear hxy
        go_wp2
        go_ret
        exact ⟨by rw [HN.out]; rfl, by first | rfl | trivial⟩
    · obtain rfl : k = n := by omega
      have HN := Lib.hid (show fallW l = true from decide_eq_true fun j hj => HALL.out j (by rw [HL.out] at hj; exact hj))
      go_wp2
      go_ret
      exact ⟨by rw [HN.out]; rfl, by first | rfl | trivial⟩
end Go.Proofs.Ytbnjflkafdkcpaa
/- The reference's Groups of bases with marks, walked. -/
namespace Go.Proofs.Ytbnjflkafdkcpaa
open Go.RowKit

theorem grpA_len (ls : List Int) (ms : List Bool) : ∀ i, (grpA ls ms i).length ≤ i
  | 0 => Nat.le_refl _
  | i + 1 => by
    have := grpA_len ls ms i
    rw [grpA]
    split
    · simp; omega
    · omega
theorem tmod2 {x : Int} : x.tmod 2 = 0 ↔ x % 2 = 0 := by
  constructor
  · intro h
    have := Int.dvd_of_tmod_eq_zero h
    omega
  · intro h
    exact Int.tmod_eq_zero_of_dvd (by omega)
set_option maxRecDepth 100000 in
set_option maxHeartbeats 1500000 in
theorem raGroups_any (A B : Option Addr) (n m c d : Nat) (ls : List Int) (ms : List Bool) (w : World) (hr : Rd w 1 A n (ls.map (Value.int .i64))) (hs : Rd w 1 B m (ms.map Value.bool)) (hn : n ≤ 100000) :
    Calls Try.prog 13 #[.slice A n c, .slice B m d] w fun e w' => ∃ v, e = .returned v ∧ w'.ownsRow w.heap.size 31 2 v (grpF ls ms).length (cellsS (grpF ls ms)) ∧ Below w.heap.size w w' := by
  have hll : ls.length = n := by simpa using hr.len1
  have hml : ms.length = m := by simpa using hs.len1
  have HLL := Lib.hid hll
  have HML := Lib.hid hml
  have HR := Lib.hid hr
  have HS := Lib.hid hs
  clear hr hs hll hml
  go_enter Try.func13, Try.ntmps13
  by_cases hnm : n = m
  · subst hnm
    have HG := Lib.hid (show grpF ls ms = grpA ls ms n by unfold grpF; rw [if_pos (by rw [HLL.out, HML.out]), HLL.out])
    go_wp2_with fail
    go_loopw [5, 6] (fun v i wr => ∃ k : Nat, k ≤ n ∧ i = .int .i64 (k : Int) ∧ wr.ownsRow w.heap.size 31 2 v (grpA ls ms k).length (cellsS (grpA ls ms k)) ∧ Below w.heap.size w wr) (fun _ i _ => n - (intOf i).toNat)
    case atStart => exact ⟨0, Nat.zero_le _, rfl, ⟨rfl, .inl ⟨rfl, rfl⟩⟩, Below.refl _ _⟩
    case round =>
      obtain ⟨k, hk, rfl, ho, hb⟩ := hrel
      have HO := Lib.hid ho
      have HB := Lib.hid hb
      by_cases hlt : k < n
      · obtain ⟨x, hx⟩ : ∃ x, ls[k]? = some x := ⟨_, List.getElem?_eq_getElem (by rw [HLL.out]; exact hlt)⟩
        obtain ⟨b, hbk⟩ : ∃ b, ms[k]? = some b := ⟨_, List.getElem?_eq_getElem (by rw [HML.out]; exact hlt)⟩
        obtain ⟨ad, rfl, _, hcell⟩ := (HR.out.below hb).at_ hlt
        obtain ⟨bd, rfl, _, hbcell⟩ := (HS.out.below hb).at_ hlt
        have cx := hcell (.int .i64 x) (by rw [List.getElem?_map, hx]; rfl)
        have cb := hbcell (.bool b) (by rw [List.getElem?_map, hbk]; rfl)
        have hxd : ls.getD k 0 = x := by rw [List.getD_eq_getElem?_getD, hx]; rfl
        have hbd : ms.getD k false = b := by rw [List.getD_eq_getElem?_getD, hbk]; rfl
        have HX := Lib.hid hxd
        have HBD := Lib.hid hbd
        have HCX := Lib.hid cx
        have HCB := Lib.hid cb
        have HH := Lib.hid (show hiA ls ms k = extA ls ms x n (k + 1) by unfold hiA; rw [hxd, HLL.out])
        have hkn : (k : Int) < (n : Int) := by omega
        have hk1 : (k : Int) + 1 = ((k + 1 : Nat) : Int) := by omega
        obtain ⟨k1, hk1e⟩ : ∃ k1, k + 1 = k1 := ⟨_, rfl⟩
        rw [hk1e] at hk1 HH
        have HK1 := Lib.hid hk1e
        clear ho hb hx hbk hcell hbcell cx cb hxd hbd hk1e
        go_upto_block 2 with fail
        go_cut [7] from 21 to 43 (fun s7 wx => ∃ j q : Nat, s7 = .int .i64 (j : Int) ∧ hiA ls ms k = j ∧ k1 ≤ j ∧ j ≤ n ∧ wx = wr.drewN q)
        case first =>
         go_wp2_with fail
         go_loopw [7] (fun i wi => ∃ j f q : Nat, i = .int .i64 (j : Int) ∧ k1 ≤ j ∧ j ≤ n ∧ n ≤ f + j ∧ hiA ls ms k = extA ls ms x f j ∧ wi = wr.drewN q) (fun i _ => n - (intOf i).toNat)
         case atStart => exact ⟨k1, n, 0, rfl, Nat.le_refl _, by have := HK1.out; omega, by omega, HH.out, rfl⟩
         case round =>
           obtain ⟨j, f, q, rfl, hj1, hj2, hf, hh, rfl⟩ := hrel
           have HHI := Lib.hid hh
           have cx := HCX.out
           have cb := HCB.out
           clear hh
           by_cases hgo : j < n ∧ ms.getD j false = true ∧ ls.getD j 0 = x
           · obtain ⟨g1, g2, g3⟩ := hgo
             have hlj : ls[j]? = some x := by
               rw [List.getD_eq_getElem?_getD, List.getElem?_eq_getElem (by rw [HLL.out]; exact g1)] at g3
               rw [List.getElem?_eq_getElem (by rw [HLL.out]; exact g1)]
               exact congrArg some g3
             have hmj : ms[j]? = some true := by
               rw [List.getD_eq_getElem?_getD, List.getElem?_eq_getElem (by rw [HML.out]; exact g1)] at g2
               rw [List.getElem?_eq_getElem (by rw [HML.out]; exact g1)]
               exact congrArg some g2
             have e1 := (HR.out.below HB.out).news j (.int .i64 x) (by rw [List.getElem?_map, hlj]; rfl)
             have e2 := (HS.out.below HB.out).news j (.bool true) (by rw [List.getElem?_map, hmj]; rfl)
             have hji : (j : Int) < (n : Int) := by omega
             have hjd : decide ((j : Int) < (n : Int)) = true := decide_eq_true hji
             have hjd2 : decide (j < n) = true := decide_eq_true g1
             obtain ⟨f', rfl⟩ : ∃ f', f = f' + 1 := ⟨f - 1, by omega⟩
             have HN := Lib.hid (HHI.out.trans (show extA ls ms x (f' + 1) j = extA ls ms x f' (j + 1) by rw [extA, if_pos ⟨by rw [HLL.out]; exact g1, g2, g3⟩]))
             clear g2 g3 hlj hmj
             go_wp2
             go_quiet (fail)
             go_wp2
             go_roundw
             case rel => exact ⟨j + 1, f', _, by go_num, by omega, by omega, by omega, HN.out, rfl⟩
             case measure => simp [intOf]; omega
           · have HE := Lib.hid (show hiA ls ms k = j by
               rw [HHI.out]
               cases f with
               | zero => rfl
               | succ f => rw [extA, if_neg (by rw [HLL.out]; exact hgo)])
             by_cases g1 : j < n
             · obtain ⟨y, hy⟩ : ∃ y, ls[j]? = some y := ⟨_, List.getElem?_eq_getElem (by rw [HLL.out]; exact g1)⟩
               obtain ⟨mb, hmb⟩ : ∃ mb, ms[j]? = some mb := ⟨_, List.getElem?_eq_getElem (by rw [HML.out]; exact g1)⟩
               have e1 := (HR.out.below HB.out).news j (.int .i64 y) (by rw [List.getElem?_map, hy]; rfl)
               have e2 := (HS.out.below HB.out).news j (.bool mb) (by rw [List.getElem?_map, hmb]; rfl)
               have hyd : ls.getD j 0 = y := by rw [List.getD_eq_getElem?_getD, hy]; rfl
               have hmd : ms.getD j false = mb := by rw [List.getD_eq_getElem?_getD, hmb]; rfl
               rw [hyd, hmd] at hgo
               have hji : (j : Int) < (n : Int) := by omega
               have hjd : decide ((j : Int) < (n : Int)) = true := decide_eq_true hji
               have hjd2 : decide (j < n) = true := decide_eq_true g1
               clear hy hmb hyd hmd
               cases mb with
               | false =>
                 clear hgo
                 go_wp2
                 go_quiet (fail)
                 go_wp2
                 go_meet
                 case rel => exact ⟨j, q + nq, rfl, HE.out, hj1, hj2, by rw [World.drewN_drewN]⟩
               | true =>
                 have hyx : (y == x) = false := by
                   have : ¬ y = x := fun e => hgo ⟨g1, rfl, e⟩
                   simp [this]
                 clear hgo
                 go_wp2
                 go_quiet (fail)
                 go_wp2
                 go_meet
                 case rel => exact ⟨j, q + nq, rfl, HE.out, hj1, hj2, by rw [World.drewN_drewN]⟩
             · have hji : ¬ (j : Int) < (n : Int) := by omega
               have hjd : decide ((j : Int) < (n : Int)) = false := decide_eq_false hji
               have hjd2 : decide (j < n) = false := decide_eq_false g1
               clear hgo
               go_wp2
               go_quiet (fail)
               go_wp2
               go_meet
               case rel => exact ⟨j, q + nq, rfl, HE.out, hj1, hj2, by rw [World.drewN_drewN]⟩
        case rest =>
          obtain ⟨j, q, rfl, he, hj1, hj2, rfl⟩ := hcut
          have HE := Lib.hid he
          have HIS := Lib.hid (show isG ls ms k = decide (b = false ∧ x % 2 ≠ 0 ∧ k + 1 < j) by unfold isG; rw [HBD.out, HX.out, he])
          have cx := HCX.out
          have cb := HCB.out
          have HO2 : Hid ((wr.drewN q).ownsRow w.heap.size 31 2 u5 (grpA ls ms k).length (cellsS (grpA ls ms k))) := Lib.hid (own_below HO.out (below_drewN (Below.refl _ _) q))
          have HB2 := Lib.hid (below_drewN HB.out q)
          obtain ⟨r, hrr⟩ : ∃ r, x.tmod 2 = r := ⟨_, rfl⟩
          have HRR := Lib.hid hrr
          clear he
          have no : isG ls ms k = false → Hid (grpA ls ms (k + 1) = grpA ls ms k) := fun hg => Lib.hid (by rw [grpA, if_neg (by rw [hg]; decide)])
          by_cases hbt : b = true
          · subst hbt
            have HN := no (by rw [HIS.out]; simp)
            clear no hrr
            go_wp2
            go_roundw
            case rel => exact ⟨k + 1, by omega, by go_num, by rw [HN.out]; exact HO2.out, HB2.out⟩
            case measure => simp [intOf]; omega
          · obtain rfl : b = false := by cases b <;> simp_all
            by_cases hr0 : r = 0
            · subst hr0
              have HN := no (by rw [HIS.out, decide_eq_false (by rintro ⟨_, h, _⟩; exact h (tmod2.1 HRR.out))])
              clear no
              go_wp2
              go_roundw
              case rel => exact ⟨k + 1, by omega, by go_num, by rw [HN.out]; exact HO2.out, HB2.out⟩
              case measure => simp [intOf]; omega
            · have gr : (r != 0) = true := by simp [hr0]
              by_cases hkj : k1 < j
              · have hki : (k1 : Int) < (j : Int) := by omega
                have HY := Lib.hid (show grpA ls ms (k + 1) = grpA ls ms k ++ [((k : Int), (j : Int))] by
                  have hg : isG ls ms k = true := by
                    rw [HIS.out]
                    exact decide_eq_true ⟨rfl, fun h => hr0 (HRR.out.symm.trans (tmod2.2 h)), by have := HK1.out; omega⟩
                  rw [grpA, if_pos hg, HE.out])
                have hgl := grpA_len ls ms k
                clear no hr0
                go_wp2_with (first
                  | (at_builtin; refine wpList_app rfl _ _ _ rfl spanSlice (by decide) _ (grpA ls ms k).length _ rfl (HO2.out.alloc _) ⟨wr.heap.size, 0, none⟩ 1 1 [.int .i64 (k : Int), .int .i64 (j : Int)] rfl rfl (cells_new (wr.drewN q) [_, _] _) (oneInt2 _ _ _) (by omega) (by unfold maxLen; omega) (Nat.le_trans HB2.out.size (by simp)) ?_; intro v1 w1 hown1 hg1 hat1)
                  | fail)
                have HB3 := Lib.hid (below_app (HB2.out.alloc HB2.out.size (.cells #[.int .i64 (k : Int), .int .i64 (j : Int)] 31)) hg1 (HO2.out.alloc _) (Nat.le_trans HB2.out.size (by simp)))
                have HO3 : Hid (w1.ownsRow w.heap.size 31 2 v1 (grpA ls ms (k + 1)).length (cellsS (grpA ls ms (k + 1)))) := Lib.hid (by
                  rw [HY.out]
                  simp only [cellsS, List.flatMap_append, List.length_append]
                  exact hown1)
                clear hown1 hg1 hat1
                go_roundw
                case rel => exact ⟨k + 1, by omega, by go_num, HO3.out, HB3.out⟩
                case measure => simp [intOf]; omega
              · have hki : ¬ (k1 : Int) < (j : Int) := by omega
                have HN := no (by rw [HIS.out, decide_eq_false (by rintro ⟨_, _, h⟩; have := HK1.out; omega)])
                clear no hr0
                go_wp2
                go_roundw
                case rel => exact ⟨k + 1, by omega, by go_num, by rw [HN.out]; exact HO2.out, HB2.out⟩
                case measure => simp [intOf]; omega
      · obtain rfl : k = n := by omega
        go_wp2
        go_ret
        exact ⟨_, rfl, by rw [HG.out]; exact HO.out, HB.out⟩
  · have hne : ((n : Int) != (m : Int)) = true := by simp; omega
    have HG := Lib.hid (show grpF ls ms = [] by unfold grpF; rw [if_neg (by rw [HLL.out, HML.out]; exact hnm)])
    go_wp2
    go_ret
    exact ⟨_, rfl, by rw [HG.out]; exact ⟨rfl, .inl ⟨rfl, rfl⟩⟩, Below.refl _ _⟩
end Go.Proofs.Ytbnjflkafdkcpaa
/- The reference's Order with groups, walked. -/
namespace Go.Proofs.Ytbnjflkafdkcpaa
open Go.RowKit

/-- What is answered, and its error. -/
def accR (o ls : List Int) (ms : List Bool) : List Int := if o.length ≠ ls.length ∨ o.length ≠ ms.length then [] else if permB o = false then [] else accF o (grpF ls ms)
def accE (o ls : List Int) (ms : List Bool) : Int := if o.length ≠ ls.length ∨ o.length ≠ ms.length then 1 else if permB o = false then 13 else 0
/-- The first groups. -/
def accU (o : List Int) (G : List Sp) : List Int := G.foldl (fun out s => accS o s o.length out) o
theorem accU_next {o : List Int} {G : List Sp} {k : Nat} {s : Sp} (h : G[k]? = some s) : accU o (G.take (k + 1)) = accS o s o.length (accU o (G.take k)) := by
  unfold accU
  rw [List.take_add_one, h, Option.toList_some, List.foldl_append]
  rfl
theorem accU_len (o : List Int) (G : List Sp) : (accU o G).length = o.length := acc_len o G o rfl
/-- What lies in memory: what is answered so far, the groups, the order. -/
structure AcAt (w0 w : World) (U P A : Option Addr) (n cv K cp : Nat) (o out : List Int) (G : List Sp) : Prop where
  row : w.ownsRow w0.heap.size 3 1 (.slice U n cv) n (out.map (Value.int .i64))
  grp : w.ownsRow w0.heap.size 31 2 (.slice P K cp) K (cellsS G)
  ord : Rd w 1 A n (o.map (Value.int .i64))
  orb : 0 < n → ∀ ad, A = some ad → ad.block < w0.heap.size
  low : Below w0.heap.size w0 w
section
variable {w0 w w' : World} {U P A : Option Addr} {n cv K cp : Nat} {o out : List Int} {G : List Sp}
theorem AcAt.lowr (h : AcAt w0 w U P A n cv K cp o out G) (hb : Below w.heap.size w w') : AcAt w0 w' U P A n cv K cp o out G :=
  ⟨own_below h.row hb, own_below h.grp hb, h.ord.below hb, h.orb, h.low.trans (hb.mono h.low.size)⟩
theorem AcAt.put {g : Nat} (h : AcAt w0 w (some ⟨g, 0, none⟩) P A n cv K cp o out G) (j : Nat) (x : Int) : AcAt w0 (w.setCell ⟨g, j, none⟩ (.int .i64 x)) (some ⟨g, 0, none⟩) P A n cv K cp o (out.set j x) G := by
  have hgb := (h.row.lt g rfl).1
  have hg : w.grownBy (w.setCell ⟨g, j, none⟩ (.int .i64 x)) (some g) := grown_set (World.grownBy.refl w (some g)) j _
  refine ⟨by rw [List.map_set]; exact (h.row.stored j _).1, h.grp.kept hg ?_, h.ord.belowS h.orb ((Below.refl _ _).setCell (p := ⟨g, j, none⟩) hgb _), h.orb, h.low.setCell (p := ⟨g, j, none⟩) hgb _⟩
  rcases ho : (Value.slice P K cp).ownBlock with _ | k
  · exact .inl rfl
  · refine .inr fun e => ?_
    obtain rfl := Option.some.inj e
    obtain ⟨c1, h1⟩ := own_row h.grp k ho
    obtain ⟨c2, h2⟩ := own_row h.row k rfl
    rw [h1] at h2
    simp at h2
end
set_option maxRecDepth 100000 in
set_option maxHeartbeats 1500000 in
theorem raOrder_any (A B C : Option Addr) (n m p c d e : Nat) (o ls : List Int) (ms : List Bool) (w : World) (hr : Rd w 1 A n (o.map (Value.int .i64))) (hs : Rd w 1 B m (ls.map (Value.int .i64))) (ht : Rd w 1 C p (ms.map Value.bool)) (hn : n ≤ 100000) (hm : m ≤ 100000) :
    Calls Try.prog 10 #[.slice A n c, .slice B m d, .slice C p e] w fun e w' => ∃ v, e = .returned (.tuple #[v, .int .i64 (accE o ls ms)]) ∧ w'.ownsRow w.heap.size 3 1 v (accR o ls ms).length ((accR o ls ms).map (Value.int .i64)) ∧ Below w.heap.size w w' := by
  have hol : o.length = n := by simpa using hr.len1
  have hll : ls.length = m := by simpa using hs.len1
  have hml : ms.length = p := by simpa using ht.len1
  go_enter Try.func10, Try.ntmps10
  by_cases hnm : n = m
  · subst hnm
    by_cases hnp : n = p
    · subst hnp
      have HLN := Lib.hid (show ¬ (o.length ≠ ls.length ∨ o.length ≠ ms.length) by omega)
      have HP := Lib.hid (roPermutes_any A n c o w hr hn)
      obtain ⟨pb, hpb⟩ : ∃ pb, permB o = pb := ⟨_, rfl⟩
      rw [hpb] at HP
      cases pb with
      | false =>
        have HE := Lib.hid (show accE o ls ms = 13 by unfold accE; rw [if_neg HLN.out, if_pos hpb])
        have HA := Lib.hid (show accR o ls ms = [] by unfold accR; rw [if_neg HLN.out, if_pos hpb])
        clear hr hs ht
        go_wp2_with (first
          | (go_at_call 29; with_reducible refine HP.out.mono ?_; rintro e1 w1 ⟨rfl, hb1⟩)
          | fail)
        go_ret2
        exact ⟨_, by rw [HE.out]; rfl, by rw [HA.out]; exact ⟨rfl, .inl ⟨rfl, rfl⟩⟩, hb1⟩
      | true =>
        have HE := Lib.hid (show accE o ls ms = 0 by unfold accE; rw [if_neg HLN.out, if_neg (by rw [hpb]; decide)])
        have HA := Lib.hid (show accR o ls ms = accU o (grpF ls ms) by unfold accR; rw [if_neg HLN.out, if_neg (by rw [hpb]; decide)]; rfl)
        have HG := Lib.hid (fun W (hB : Below w.heap.size w W) => raGroups_any B C n n d e ls ms W (hs.below hB) (ht.below hB) hn)
        have HMEM := Lib.hid (fun s (h : s ∈ grpF ls ms) => grp_mem h)
        obtain ⟨G, hG⟩ : ∃ G, grpF ls ms = G := ⟨_, rfl⟩
        rw [hG] at HA HG HMEM
        have HGL := Lib.hid (show G.length ≤ 100000 by
          rw [← hG]
          unfold grpF
          split
          · have := grpA_len ls ms ls.length
            omega
          · simp)
        obtain ⟨K, hK⟩ : ∃ K, G.length = K := ⟨_, rfl⟩
        rw [hK] at HG HGL
        have HK := Lib.hid hK
        have HR := Lib.hid hr
        have HOL := Lib.hid hol
        have HLL := Lib.hid hll
        have HORB := Lib.hid (show 0 < n → ∀ ad, A = some ad → ad.block < w.heap.size from fun h0 ad e => by
          obtain ⟨ad', e', hb, _⟩ := hr.2 h0
          rw [e] at e'
          obtain rfl := Option.some.inj e'
          exact hb)
        clear hr hs ht hG hK hol hll hml hpb
        go_wp2_with (first
          | (go_at_call 29; with_reducible refine HP.out.mono ?_; rintro e1 w1 ⟨rfl, hb1⟩; have HB1 := Lib.hid hb1; clear hb1)
          | (at_builtin; refine wpList_appR rfl _ _ _ rfl intSliceM (by decide) (base := w1.heap.size) (.slice none 0 0) 0 [] rfl (World.ownsRow_nil ..) A n c (o.map (Value.int .i64)) rfl (HR.out.below HB1.out) (oneInts _ _) (by omega) (by unfold maxLen; omega) (Nat.le_refl _) ?_; intro v2 w2 hown2 hg2 hat2)
          | fail)
        rw [Nat.zero_add, List.nil_append] at hown2
        obtain ⟨U, cv, hUe, hcv⟩ := own_form hown2
        subst hUe
        have HO2 := Lib.hid (own_base hown2 HB1.out.size)
        have HB2 : Hid (Below w.heap.size w w2) := Lib.hid (HB1.out.trans ((Below.refl w1.heap.size w1).grown hg2 (Nat.le_refl _) (by simp [Value.ownBlock]) |>.mono HB1.out.size))
        clear hown2 hg2 hat2
        refine (HG.out _ HB2.out).mono ?_
        rintro e3 w3 ⟨v3, rfl, hv3, hb3⟩
        obtain ⟨P, cp, hPe, hcp⟩ := own_form hv3
        subst hPe
        have HST : Hid (AcAt w w3 U P A n cv K cp o (accU o (G.take 0)) G) := Lib.hid ⟨own_below HO2.out hb3, own_base hv3 HB2.out.size, (HR.out.below HB2.out).below hb3, HORB.out, HB2.out.trans (hb3.mono HB2.out.size)⟩
        clear hv3 hb3 HO2 HB2 HB1 HG
        go_wp2_with fail
        go_loopw [10] (fun s wr => ∃ i : Nat, i ≤ K ∧ s = .int .i64 (i : Int) ∧ AcAt w wr U P A n cv K cp o (accU o (G.take i)) G) (fun s _ => K - (intOf s).toNat)
        case atStart => exact ⟨0, Nat.zero_le _, rfl, HST.out⟩
        case round =>
          clear HST
          have hKb := HGL.out
          obtain ⟨i, hi, rfl, hS⟩ := hrel
          have HS := Lib.hid hS
          clear hS
          by_cases hlt : i < K
          · obtain ⟨s, hs⟩ : ∃ s, G[i]? = some s := ⟨_, List.getElem?_eq_getElem (by rw [HK.out]; exact hlt)⟩
            obtain ⟨a, b, rfl, hgo⟩ := HMEM.out s (List.mem_of_getElem? hs)
            have hablt := hgo.lt
            have hble := hgo.le
            rw [HLL.out] at hble
            have HNX := Lib.hid (accU_next (o := o) hs)
            rw [HOL.out] at HNX
            have HSG := Lib.hid hs
            have hik : (i : Int) < (K : Int) := by omega
            have hi0 : (0 : Int) ≤ (i : Int) := by omega
            obtain ⟨X, hX⟩ : ∃ X, accU o (G.take i) = X := ⟨_, rfl⟩
            rw [hX] at HS HNX
            have HXL := Lib.hid (show X.length = n by rw [← hX, accU_len, HOL.out])
            have hlg : lenG ((a : Int), (b : Int)) = b - a := by unfold lenG; simp only; omega
            have hbm : (b : Int) - (a : Int) = ((b - a : Nat) : Int) := by omega
            obtain ⟨m, hm⟩ : ∃ m, b - a = m := ⟨_, rfl⟩
            rw [hm] at hlg hbm
            have HLG := Lib.hid hlg
            have hmb : m ≤ n := by omega
            clear hgo hs hX hlg
            go_wp2_with fail
            go_loopw [11] (fun s wi => ∃ t : Nat, t ≤ n ∧ s = .int .i64 (t : Int) ∧ AcAt w wi U P A n cv K cp o (accS o ((a : Int), (b : Int)) t X) G) (fun s _ => n - (intOf s).toNat)
            case atStart => exact ⟨0, Nat.zero_le _, rfl, HS.out⟩
            case round =>
              clear HS
              obtain ⟨t, ht, rfl, hT⟩ := hrel
              have HT := Lib.hid hT
              clear hT
              by_cases htn : t < n
              · obtain ⟨ad, rfl, hab, d1, d2⟩ := (Rd.of_own HT.out.grp).span HSG.out
                simp only at d1 d2
                have HFA := Lib.hid (raFalls_any A n c t a b o wr HT.out.ord hn (by omega) (by omega) (by omega))
                obtain ⟨fb, hfb⟩ : ∃ fb, fallB o t ((a : Int), (b : Int)) = fb := ⟨_, rfl⟩
                rw [hfb] at HFA
                have hti : (t : Int) < (n : Int) := by omega
                cases fb with
                | false =>
                  have HN := Lib.hid (show accS o ((a : Int), (b : Int)) (t + 1) X = accS o ((a : Int), (b : Int)) t X by rw [accS, if_neg (by rw [hfb]; decide)])
                  clear hfb
                  go_wp2_with (first
                    | (go_at_call 30; with_reducible refine HFA.out.mono ?_; rintro e4 w4 ⟨rfl, hb4⟩; have HT4 := Lib.hid (HT.out.lowr hb4); clear hb4)
                    | fail)
                  go_roundw
                  case rel => exact ⟨t + 1, by omega, by go_num, by rw [HN.out]; exact HT4.out⟩
                  case measure => simp [intOf]; omega
                | true =>
                  have hfit : t + m ≤ n := by
                    have h := (of_decide_eq_true hfb).1
                    rw [HLG.out, HOL.out] at h
                    exact h
                  have HN := Lib.hid (show accS o ((a : Int), (b : Int)) (t + 1) X = riseS (accS o ((a : Int), (b : Int)) t X) t (a : Int) m by rw [accS, if_pos hfb, HLG.out])
                  obtain ⟨Y, hY⟩ : ∃ Y, accS o ((a : Int), (b : Int)) t X = Y := ⟨_, rfl⟩
                  have HYL := Lib.hid (show Y.length = n by rw [← hY, accS_len, HXL.out])
                  rw [hY] at HN HT
                  clear hfb hY
                  go_wp2_with (first
                    | (go_at_call 30; with_reducible refine HFA.out.mono ?_; rintro e4 w4 ⟨rfl, hb4⟩; have HT4 := Lib.hid (HT.out.lowr hb4); clear hb4)
                    | fail)
                  clear HT HFA d1 d2
                  go_loopw [12] (fun s wk => ∃ q : Nat, q ≤ m ∧ s = .int .i64 (q : Int) ∧ AcAt w wk U (some ad) A n cv K cp o (riseS Y t (a : Int) q) G) (fun s _ => m - (intOf s).toNat)
                  case atStart => exact ⟨0, Nat.zero_le _, rfl, HT4.out⟩
                  case round =>
                    clear HT4
                    obtain ⟨q, hq, rfl, hQ⟩ := hrel
                    have HQ := Lib.hid hQ
                    clear hQ
                    obtain ⟨ad', he', _, d1, d2⟩ := (Rd.of_own HQ.out.grp).span HSG.out
                    obtain rfl := Option.some.inj he'
                    simp only at d1 d2
                    by_cases hqm : q < m
                    · obtain ⟨g, c', hvg, _, _, _, hcs⟩ := own_at HQ.out.row (show 0 < n by omega)
                      simp only [Value.slice.injEq] at hvg
                      obtain ⟨rfl, -, -⟩ := hvg
                      have hql : (riseS Y t (a : Int) q).length = n := by rw [riseS_len, HYL.out]
                      have c1 := hcs (t + q) (.int .i64 ((riseS Y t (a : Int) q)[t + q]'(by omega))) (by rw [List.getElem?_map, List.getElem?_eq_getElem (by omega)]; rfl)
                      have f1 : wr.frozen? ⟨g, t + q, none⟩ = false := HQ.out.row.frozenAt (t + q)
                      generalize (riseS Y t (a : Int) q)[t + q]'(by omega) = old at c1
                      obtain ⟨z, hz⟩ : ∃ z, t + q = z := ⟨_, rfl⟩
                      have HP2 := Lib.hid (HQ.out.put z ((a : Int) + (q : Int)))
                      have HRS := Lib.hid (show riseS Y t (a : Int) (q + 1) = (riseS Y t (a : Int) q).set z ((a : Int) + (q : Int)) by rw [riseS, hz])
                      rw [hz] at c1 f1
                      have htq : (t : Int) + (q : Int) = (z : Int) := by omega
                      have hzn : (z : Int) < (n : Int) := by omega
                      have hqi : (q : Int) < (m : Int) := by omega
                      obtain ⟨aq, haq⟩ : ∃ aq : Int, (a : Int) + (q : Int) = aq := ⟨_, rfl⟩
                      have haqb : (0 : Int) ≤ aq ∧ aq ≤ 200000 := by omega
                      rw [haq] at HP2 HRS
                      clear hcs hql hz he'
                      go_wp2
                      go_quiet (fail)
                      go_wp2
                      exact ⟨⟨q + 1, by omega, by go_num, by rw [HRS.out]; exact (HQ.out.lowr (drewBelow nq)).put z aq⟩, by simp [intOf]; omega⟩
                    · obtain rfl : q = m := by omega
                      have hqi : ¬ (q : Int) < (q : Int) := by omega
                      go_wp2
                      go_quiet (fail)
                      go_wp2
                      go_roundw
                      case rel => exact ⟨t + 1, by omega, by go_num, by rw [HN.out]; exact HQ.out.lowr ⟨rfl, rfl, rfl, Nat.le_refl _, fun _ _ => rfl⟩⟩
                      case measure => simp [intOf]; omega
              · obtain rfl : t = n := by omega
                go_wp2_with fail
                go_roundw
                case rel => exact ⟨i + 1, by omega, by go_num, by rw [HNX.out]; exact HT.out⟩
                case measure => simp [intOf]; omega
          · obtain rfl : i = K := by omega
            have HZ := Lib.hid (show accU o (G.take i) = accU o G by rw [List.take_of_length_le (by rw [HK.out]; exact Nat.le_refl _)])
            go_wp2_with fail
            go_ret2
            have h := HS.out
            rw [HZ.out] at h
            refine ⟨_, by rw [HE.out]; rfl, ?_, h.low⟩
            rw [HA.out, accU_len, HOL.out]
            exact h.row
    · have hne : ((n : Int) != (p : Int)) = true := by simp; omega
      have HE := Lib.hid (show accE o ls ms = 1 by unfold accE; rw [if_pos (.inr (by omega))])
      have HA := Lib.hid (show accR o ls ms = [] by unfold accR; rw [if_pos (.inr (by omega))])
      go_wp2
      go_ret2
      exact ⟨_, by rw [HE.out]; rfl, by rw [HA.out]; exact ⟨rfl, .inl ⟨rfl, rfl⟩⟩, Below.refl _ _⟩
  · have hne : ((n : Int) != (m : Int)) = true := by simp; omega
    have HE := Lib.hid (show accE o ls ms = 1 by unfold accE; rw [if_pos (.inl (by omega))])
    have HA := Lib.hid (show accR o ls ms = [] by unfold accR; rw [if_pos (.inl (by omega))])
    go_wp2
    go_ret2
    exact ⟨_, by rw [HE.out]; rfl, by rw [HA.out]; exact ⟨rfl, .inl ⟨rfl, rfl⟩⟩, Below.refl _ _⟩
end Go.Proofs.Ytbnjflkafdkcpaa
