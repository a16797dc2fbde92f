/- naskhlaw07.PropsNear: the reference's Class and Join; codes around the ends of the given ranges. -/
import Derived.Test.YtfobhnpmaooalaaDoorPpW
namespace Go.Proofs.YtfobhnpmaooalaaDoor
open Go.RowKit

set_option maxRecDepth 100000 in
set_option maxHeartbeats 1000000 in
theorem refClass_gen (lB : List Rg) (nB : Nat) (cB : ∀ w : World, Calls Tryd.prog 7 #[] w fun e w' => e = .returned (.slice (some ⟨w.heap.size, 0, none⟩) nB nB) ∧ w' = w.alloc (.cells (cellsG lB).toArray 25)) (hnB : lB.length = nB) (h4 : nB ≤ 4096) (c : Int) (w : World) :
    Calls Tryd.prog 11 #[.int .i64 c] w fun e w' => e = .returned (.int .i64 (if 0 ≤ c ∧ c ≤ 1114111 then getG lB 0 c else 13)) ∧ Below w.heap.size w w' := by
  have CB := Lib.hid cB
  have NB := Lib.hid hnB
  clear cB hnB
  have hc : c < 0 ∨ (0 ≤ c ∧ 1114111 < c) ∨ (0 ≤ c ∧ c ≤ 1114111) := by omega
  rcases hc with h | ⟨h, h'⟩ | ⟨h, h'⟩
  · have HV := Lib.hid (show (if 0 ≤ c ∧ c ≤ 1114111 then getG lB 0 c else 13) = 13 from if_neg (by omega))
    go_enter Tryd.func11, Tryd.ntmps11
    go_wp2
    go_ret
    exact ⟨by first | rfl | exact retI HV.out.symm, Below.refl _ _⟩
  · have HV := Lib.hid (show (if 0 ≤ c ∧ c ≤ 1114111 then getG lB 0 c else 13) = 13 from if_neg (by omega))
    go_enter Tryd.func11, Tryd.ntmps11
    go_wp2
    go_ret
    exact ⟨by first | rfl | exact retI HV.out.symm, Below.refl _ _⟩
  · have HV := Lib.hid (show (if 0 ≤ c ∧ c ≤ 1114111 then getG lB 0 c else 13) = getG lB 0 c from if_pos ⟨h, h'⟩)
    go_enter Tryd.func11, Tryd.ntmps11
    go_wp2_with fail
    refine (CB.out _).mono ?_
    rintro e w1 ⟨rfl, hw1⟩
    have hr := rd_blk (w := w1) (b := w.heap.size) (t := 25) 3 (cs := cellsG lB) (m := nB) (by rw [hw1]; exact heap_alloc_new _ _) (by rw [cellsG_len, NB.out])
    have hb1 : Below w.heap.size w w1 := by rw [hw1]; exact below_new _ _
    have HR := Lib.hid hr
    clear hw1 hr
    go_wp2_with fail
    refine (refGetG_any (some ⟨w.heap.size, 0, none⟩) nB nB lB 0 c w1 HR.out (by unfold maxLen; omega)).mono ?_
    rintro e w2 ⟨rfl, rfl⟩
    go_wp2
    go_ret
    exact ⟨by first | rfl | exact retI HV.out.symm, hb1⟩
theorem refClass_any (c v : Int) (hv : classF c = v) (w : World) : Calls Tryd.prog 11 #[.int .i64 c] w fun e w' => e = .returned (.int .i64 v) ∧ Below w.heap.size w w' := by
  rw [← hv]
  exact refClass_gen bidiL 230 bidiRanges_any (by decide +kernel) (by omega) c w
set_option maxRecDepth 100000 in
set_option maxHeartbeats 1000000 in
theorem refJoin_gen (lJ : List Rg) (nJ : Nat) (cJ : ∀ w : World, Calls Tryd.prog 8 #[] w fun e w' => e = .returned (.slice (some ⟨w.heap.size, 0, none⟩) nJ nJ) ∧ w' = w.alloc (.cells (cellsG lJ).toArray 25)) (hnJ : lJ.length = nJ) (h4 : nJ ≤ 4096) (c : Int) (w : World) :
    Calls Tryd.prog 13 #[.int .i64 c] w fun e w' => e = .returned (.int .i64 (getG lJ 0 c)) ∧ Below w.heap.size w w' := by
  have CJ := Lib.hid cJ
  have NJ := Lib.hid hnJ
  clear cJ hnJ
  go_enter Tryd.func13, Tryd.ntmps13
  go_wp2_with fail
  refine (CJ.out _).mono ?_
  rintro e w1 ⟨rfl, hw1⟩
  have hr := rd_blk (w := w1) (b := w.heap.size) (t := 25) 3 (cs := cellsG lJ) (m := nJ) (by rw [hw1]; exact heap_alloc_new _ _) (by rw [cellsG_len, NJ.out])
  have hb1 : Below w.heap.size w w1 := by rw [hw1]; exact below_new _ _
  have HR := Lib.hid hr
  clear hw1 hr
  go_wp2_with fail
  refine (refGetG_any (some ⟨w.heap.size, 0, none⟩) nJ nJ lJ 0 c w1 HR.out (by unfold maxLen; omega)).mono ?_
  rintro e w2 ⟨rfl, rfl⟩
  go_wp2
  go_ret
  exact ⟨rfl, hb1⟩
theorem refJoin_any (c v : Int) (hv : joinF c = v) (w : World) : Calls Tryd.prog 13 #[.int .i64 c] w fun e w' => e = .returned (.int .i64 v) ∧ Below w.heap.size w w' := by
  rw [← hv]
  exact refJoin_gen joinL 68 joinRanges_any (by decide +kernel) (by omega) c w

theorem oneCellsG (l : List Rg) : ∀ u ∈ cellsG l, u.oneCell' = true := by
  intro u hu
  simp only [cellsG, List.mem_flatMap] at hu
  obtain ⟨s, _, hu⟩ := hu
  simp [encG] at hu
  rcases hu with rfl | rfl | rfl <;> rfl
theorem u64_of (x : Int) : ∃ u : Nat, IntKind.u64.wrap x = (u : Int) := by
  have h : 0 ≤ IntKind.u64.wrap x := by
    simp [IntKind.wrap, IntKind.signed, IntKind.bits]
    exact Int.emod_nonneg _ (by decide)
  exact ⟨(IntKind.u64.wrap x).toNat, by omega⟩
theorem cellsG_app (a b : List Rg) : cellsG (a ++ b) = cellsG a ++ cellsG b := by simp [cellsG]
theorem rdNewI2 (w : World) (a b : Int) (t : TypeId) : Rd (w.alloc (.cells #[.int .i64 a, .int .i64 b] t)) 1 (some ⟨w.heap.size, 0, none⟩) 2 (([a, b] : List Int).map (Value.int .i64)) := rdNewI w [a, b] t
set_option maxRecDepth 100000 in
set_option maxHeartbeats 2000000 in
theorem propsNear_of (lB lJ : List Rg) (cB : ∀ w : World, Calls Tryd.prog 7 #[] w fun e w' => e = .returned (.slice (some ⟨w.heap.size, 0, none⟩) 230 230) ∧ w' = w.alloc (.cells (cellsG lB).toArray 25))
    (cJ : ∀ w : World, Calls Tryd.prog 8 #[] w fun e w' => e = .returned (.slice (some ⟨w.heap.size, 0, none⟩) 68 68) ∧ w' = w.alloc (.cells (cellsG lJ).toArray 25)) (hnB : lB.length = 230) (hnJ : lJ.length = 68)
    (hbd : ∀ s ∈ lB ++ lJ, 0 ≤ s.1 ∧ s.1 ≤ 1114111 ∧ 0 ≤ s.2.1 ∧ s.2.1 ≤ 1114111) (x y : Int) (w : World) (hZ : ZerosAt w) :
    Calls Tryd.prog 3 #[.int .i64 x, .int .i64 y] w fun e w' => e = .returned (.bool true) ∧ Below w.heap.size w w' := by
  have CB := Lib.hid cB
  have CJ := Lib.hid cJ
  have NB := Lib.hid hnB
  have NJ := Lib.hid hnJ
  have HBD := Lib.hid hbd
  have HZ := Lib.hid hZ
  obtain ⟨u, hu⟩ := u64_of x
  obtain ⟨u2, hu2⟩ := u64_of y
  clear cB cJ hnB hnJ hbd hZ
  obtain ⟨s, hs⟩ : ∃ s, (lB ++ lJ)[u % 298]? = some s := ⟨_, List.getElem?_eq_getElem (by rw [List.length_append, NB.out, NJ.out]; have := Nat.mod_lt u (show 0 < 298 by omega); omega)⟩
  have hsb := HBD.out s (List.mem_of_getElem? hs)
  have HS := Lib.hid hs
  clear hs
  obtain ⟨lo, hi, sv⟩ := s
  simp only at hsb
  obtain ⟨b1, b2, b3, b4⟩ := hsb
  go_enter Tryd.func3, Tryd.ntmps3
  go_wp2_with fail
  refine (CB.out _).mono ?_
  rintro e w1 ⟨rfl, hw1⟩
  have hO1 : w1.ownsRow w.heap.size 25 3 (.slice (some ⟨w.heap.size, 0, none⟩) 230 230) 230 (cellsG lB) := by
    have := World.ownsRow_lit (base := w.heap.size) (e := 25) (size := 3) w (cellsG lB).toArray 230 (Nat.le_refl _) (by unfold maxLen; omega) (by rw [List.size_toArray, cellsG_len, NB.out])
    rw [hw1]
    simpa using this
  have hb1 : Below w.heap.size w w1 := by rw [hw1]; exact below_new _ _
  clear hw1
  go_wp2_with fail
  refine (CJ.out _).mono ?_
  rintro e w2 ⟨rfl, hw2⟩
  have hr2 := rd_blk (w := w2) (b := w1.heap.size) (t := 25) 3 (cs := cellsG lJ) (m := 68) (by rw [hw2]; exact heap_alloc_new _ _) (by rw [cellsG_len, NJ.out])
  have HR2 := Lib.hid hr2
  have HO2 : Hid (w2.ownsRow w.heap.size 25 3 (.slice (some ⟨w.heap.size, 0, none⟩) 230 230) 230 (cellsG lB)) := Lib.hid (by rw [hw2]; exact hO1.alloc _)
  have hb2 : Below w.heap.size w w2 := below_self hb1 (by rw [hw2]; exact below_new _ _)
  have HB2 := Lib.hid hb2
  clear hw2 hr2 hO1 hb1 hb2
  go_wp2_with (at_builtin; refine wpList_appR rfl _ _ 22 rfl rangeSlice (by decide) (.slice (some ⟨w.heap.size, 0, none⟩) 230 230) 230 (cellsG lB) rfl HO2.out (some ⟨w1.heap.size, 0, none⟩) 68 68 (cellsG lJ) rfl HR2.out (oneCellsG _) (by omega) (by unfold maxLen; omega) HB2.out.size ?_; intro v' w3 h3 g3 _; obtain ⟨Av, cv, rfl, hcv⟩ := own_form h3; have hb3 := below_app HB2.out g3 HO2.out HB2.out.size; rw [← cellsG_app] at h3; have HR3 := Lib.hid (Rd.of_own h3); obtain ⟨ad, rfl, hab, c1, c2, c3⟩ := HR3.out.rg HS.out; clear h3 g3; simp only at c1 c2 c3)
  have HB3 := Lib.hid hb3
  have hw4 := below_new w3 (.cells #[.int .i64 lo, .int .i64 hi, .int .i64 sv] 25)
  have d0 : (w3.alloc (.cells #[.int .i64 lo, .int .i64 hi, .int .i64 sv] 25)).cell? ⟨w3.heap.size, 0, none⟩ = some (.int .i64 lo) := by rw [World.cell?_alloc_at _ _ _ _ rfl]; rfl
  have d1 : (w3.alloc (.cells #[.int .i64 lo, .int .i64 hi, .int .i64 sv] 25)).cell? ⟨w3.heap.size, 1, none⟩ = some (.int .i64 hi) := by rw [World.cell?_alloc_at _ _ _ _ rfl]; rfl
  refine (prNew_any _).mono ?_
  rintro e w4 ⟨⟨b, rfl, hP⟩, hb4⟩
  have e0 := cell_below hb4 d0
  have e1 := cell_below hb4 d1
  have HB4 := Lib.hid (below_self HB3.out (below_self hw4 hb4))
  have HP := Lib.hid hP
  obtain ⟨dd, hdd, hd1, hd2⟩ : ∃ dd : Int, ((u2 : Int) % 5 - 2) = dd ∧ -2 ≤ dd ∧ dd ≤ 2 := ⟨_, rfl, by omega, by omega⟩
  simp only [hdd]
  clear hw4 d0 d1 hP hb4 c1 c2 c3 HR3 HR2 HO2 HB2 HB3 CB CJ hb3 hu hu2 hdd HS HBD NB NJ
  go_wp2
  obtain ⟨xs, hxs⟩ : ∃ xs : List Int, [lo + dd, hi + dd] = xs := ⟨_, rfl⟩
  have hr5 := rdNewI2 w4 (lo + dd) (hi + dd) 3
  have hb5 := below_new w4 (.cells #[.int .i64 (lo + dd), .int .i64 (hi + dd)] 3)
  have hb6 := below_self HB4.out hb5
  have HP5 := Lib.hid (HP.out.below hb5)
  obtain ⟨w5, hw5⟩ : ∃ w5, w4.alloc (.cells #[.int .i64 (lo + dd), .int .i64 (hi + dd)] 3) = w5 := ⟨_, rfl⟩
  obtain ⟨bq, hbq⟩ : ∃ bq, w4.heap.size = bq := ⟨_, rfl⟩
  rw [hw5] at hr5 hb6 HP5
  rw [hbq, hxs] at hr5
  simp only [hw5, hbq]
  have HL := Lib.hid (show xs.length = 2 by rw [← hxs]; rfl)
  have HR := Lib.hid hr5
  have HB := Lib.hid hb6
  have hbx := hb6.size
  clear hw5 hbq hxs hr5 hb5 hb6 HB4 HP e0 e1 b1 b2 b3 b4 hd1 hd2
  go_loopw [39] (fun i wr => ∃ k : Nat, k ≤ 2 ∧ i = .int .i64 k ∧ Below w5.heap.size w5 wr) (fun i _ => 2 - (intOf i).toNat)
  case atStart => exact ⟨0, Nat.zero_le _, rfl, Below.refl _ _⟩
  case round =>
    obtain ⟨k, hk, rfl, hb⟩ := hrel
    by_cases hlt : k < 2
    · obtain ⟨c, hc⟩ : ∃ c, xs[k]? = some c := ⟨_, List.getElem?_eq_getElem (by rw [HL.out]; exact hlt)⟩
      have cc := (HR.out.below hb).news k (.int .i64 c) (by rw [List.getElem?_map, hc]; rfl)
      rw [addNew] at cc
      obtain ⟨v, hv⟩ : ∃ v, classF c = v := ⟨_, rfl⟩
      obtain ⟨jv, hjv⟩ : ∃ v, joinF c = v := ⟨_, rfl⟩
      have HV := Lib.hid hv
      have HJ := Lib.hid hjv
      clear hc hv hjv
      have hbz := hb
      go_wp2_with (first
        | (go_at_call 10; with_reducible refine (ppClass_any b c v HV.out _ (HP5.out.below hbz)).mono ?_; rintro e w7 ⟨rfl, h9⟩; replace hbz := below_self hbz h9; clear h9)
        | (go_at_call 11; with_reducible refine (refClass_any c v HV.out _).mono ?_; rintro e w7 ⟨rfl, h9⟩; replace hbz := below_self hbz h9; clear h9)
        | (go_at_call 12; with_reducible refine (ppJoin_any b c jv HJ.out _ (HP5.out.below hbz)).mono ?_; rintro e w7 ⟨rfl, h9⟩; replace hbz := below_self hbz h9; clear h9)
        | (go_at_call 13; with_reducible refine (refJoin_any c jv HJ.out _).mono ?_; rintro e w7 ⟨rfl, h9⟩; replace hbz := below_self hbz h9; clear h9)
        | fail)
      go_roundw
      case rel => exact ⟨k + 1, by omega, by go_num, hbz⟩
      case measure => simp [intOf]; omega
    · go_wp2_with fail
      refine (awakePp_any _ (HZ.out.below (below_self HB.out hb))).mono ?_
      rintro e w9 ⟨rfl, hb9⟩
      have hbf := below_self (below_self HB.out hb) hb9
      go_wp2
      go_ret
      exact ⟨rfl, hbf⟩
theorem propsNear_any (x y : Int) (w : World) (hZ : ZerosAt w) : Calls Tryd.prog 3 #[.int .i64 x, .int .i64 y] w fun e w' => e = .returned (.bool true) ∧ Below w.heap.size w w' :=
  propsNear_of bidiL joinL bidiRanges_any joinRanges_any (by decide +kernel) (by decide +kernel) (fun s hs => by
    have hall : ((bidiL ++ joinL).all fun s => decide (0 ≤ s.1 ∧ s.1 ≤ 1114111 ∧ 0 ≤ s.2.1 ∧ s.2.1 ≤ 1114111)) = true := by decide +kernel
    have := List.all_eq_true.1 hall s hs
    exact of_decide_eq_true this) x y w hZ
end Go.Proofs.YtfobhnpmaooalaaDoor
