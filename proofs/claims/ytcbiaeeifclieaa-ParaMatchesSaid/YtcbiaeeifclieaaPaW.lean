/- naskhlaw20: awake, ParaSplits, ParaMatches, ParaLevels. -/
import Derived.Test.YtcbiaeeifclieaaPaL
import Derived.Test.YtcbiaeeifclieaaPaR
import Derived.Test.YtcbiaeeifclieaaPaT
import Derived.Test.YtcbiaeeifclieaaPartsP
import Derived.Test.YtcbiaeeifclieaaEqS
import Derived.Test.YtcbiaeeifclieaaEq
import Derived.Deep.RegionHeld3
namespace Go.Proofs.Ytcbiaeeifclieaa
open Go.RowKit

theorem rdNewP (w : World) (l : List Int) (t : TypeId) : Rd (w.alloc (.cells (l.map (Value.int .i64)).toArray t)) 1 (some ⟨w.heap.size, 0, none⟩) l.length (l.map (Value.int .i64)) := by
  have := Rd.new_ w (l.map (Value.int .i64)) t
  rwa [List.length_map] at this
theorem awk_level : levelF [20, 1, 22, 0] 3 = 0 := by decide +kernel
theorem awk_match : matF [20, 1, 22, 0] = [2, -1, 0, -1] := by decide +kernel
theorem awk_first : firstF [20, 1, 22, 0] (0, 3) = -1 := by decide +kernel
set_option maxRecDepth 100000 in
set_option maxHeartbeats 2000000 in
theorem awakePa_any (w : World) : Calls Try.prog 20 #[] w fun e w' => e = .returned (.bool true) ∧ Below w.heap.size w w' := by
  obtain ⟨xs, hxs⟩ : ∃ xs : List Int, xs = [20, 1, 22, 0] := ⟨_, rfl⟩
  obtain ⟨ys, hys⟩ : ∃ ys : List Int, ys = [2, -1, 0, -1] := ⟨_, rfl⟩
  have H1 := Lib.hid awk_level
  have H2 := Lib.hid awk_match
  have H3 := Lib.hid awk_first
  rw [← hxs] at H1 H2 H3
  rw [← hys] at H2
  have hr0 := rdNewP w [20, 1, 22, 0] 3
  have hb0 := below_new w (.cells #[.int .i64 20, .int .i64 1, .int .i64 22, .int .i64 0] 3)
  have hnw : ∀ W : World, Rd (W.alloc (.cells #[.int .i64 2, .int .i64 (-1), .int .i64 0, .int .i64 (-1)] 3)) 1 (some ⟨W.heap.size, 0, none⟩) 4 (ys.map (Value.int .i64)) := fun W => by
    rw [hys]; exact rdNewP W [2, -1, 0, -1] 3
  have HNW := Lib.hid hnw
  have HR0 : Hid (Rd (w.alloc (.cells #[.int .i64 20, .int .i64 1, .int .i64 22, .int .i64 0] 3)) 1 (some ⟨w.heap.size, 0, none⟩) 4 (xs.map (Value.int .i64))) := Lib.hid (by rw [hxs]; exact hr0)
  have HB0 := Lib.hid hb0
  clear hnw hr0 hb0 hxs hys
  go_enter Try.func20, Try.ntmps20
  go_wp2_with fail
  refine (prLevel_any _ 4 4 xs 3 _ HR0.out (by omega) (by omega)).mono ?_
  rintro e w1 ⟨rfl, hb1⟩
  rw [H1.out]
  have HB1 := Lib.hid (below_self HB0.out hb1)
  have HR1 := Lib.hid (HR0.out.below hb1)
  clear hb1
  go_wp2_with fail
  refine (prMatches_any _ 4 4 xs _ HR1.out (by omega)).mono ?_
  rintro e w2 ⟨v, rfl, hown, hb2⟩
  rw [H2.out] at hown
  obtain ⟨V, cv, rfl, _⟩ := own_form hown
  have HV := Lib.hid (Rd.of_own hown)
  have HB2 := Lib.hid (below_self HB1.out hb2)
  have HR2 := Lib.hid (HR1.out.below hb2)
  clear hb2 hown
  go_wp2_with fail
  refine (equalInt_b _ _ 4 4 _ 4 ys ys _ (HV.out.alloc _) (HNW.out w2) (by unfold maxLen; omega) (by unfold maxLen; omega)).mono ?_
  rintro e w3 ⟨rfl, hb3⟩
  rw [decide_eq_true rfl]
  have HB3 := Lib.hid (below_self HB2.out (below_self (below_new w2 _) hb3))
  have HR3 := Lib.hid (HR2.out.below (below_self (below_new w2 _) hb3))
  clear hb3
  go_wp2_with fail
  refine (prFirst_any _ 4 4 xs 0 3 _ HR3.out (by omega) (by omega) (by unfold Fit; omega) (by unfold Fit; omega)).mono ?_
  rintro e w4 ⟨rfl, hb4⟩
  rw [H3.out]
  have HB4 := Lib.hid (below_self HB3.out hb4)
  clear hb4
  go_wp2
  go_ret
  exact ⟨rfl, HB4.out⟩
set_option maxRecDepth 100000 in
set_option maxHeartbeats 2000000 in
theorem paraSplits_any (A : Option Addr) (n c : Nat) (xs : List Int) (w : World) (hr : Rd w 1 A n (xs.map (Value.int .i64))) (hn : n ≤ maxLen) :
    Calls Try.prog 4 #[.slice A n c] w fun e w' => e = .returned (.bool true) ∧ Below w.heap.size w w' := by
  unfold maxLen at hn
  by_cases hs : n ≤ 500
  · have hlen : xs.length = n := by simpa using hr.len1
    have HR := Lib.hid hr
    have HPL := Lib.hid (parL_parts xs)
    have hpl : (parL xs).length ≤ n := by have := (parA_len xs xs.length).1; unfold parL; omega
    rw [hlen] at HPL
    obtain ⟨ys, hys⟩ : ∃ ys, parL xs = ys := ⟨_, rfl⟩
    rw [hys] at HPL hpl
    have HY := Lib.hid hys
    clear hr hlen hys
    go_enter Try.func4, Try.ntmps4
    go_wp2_with fail
    refine (prNew_any _).mono ?_
    rintro e w1 ⟨⟨b, rfl, hP⟩, hb1⟩
    have HP := Lib.hid hP
    have HB1 := Lib.hid hb1
    clear hP hb1
    go_wp2_with fail
    refine (prSplit_any b A n c xs _ HP.out (HR.out.below HB1.out) (by omega)).mono ?_
    rintro e w2 ⟨v, rfl, hown, hb2⟩
    rw [HY.out] at hown
    obtain ⟨V, cv, rfl, _⟩ := own_form hown
    have HV := Lib.hid (Rd.of_own hown)
    have HB2 := Lib.hid (below_self HB1.out hb2)
    clear hown hb2
    go_wp2_with fail
    refine (rfSplit_any A n c xs _ (HR.out.below HB2.out) (by omega)).mono ?_
    rintro e w3 ⟨v, rfl, hown, hb3⟩
    rw [HY.out] at hown
    obtain ⟨V3, cv3, rfl, _⟩ := own_form hown
    have HV3 := Lib.hid (Rd.of_own hown)
    have HV2 := Lib.hid (HV.out.below hb3)
    have HB3 := Lib.hid (below_self HB2.out hb3)
    clear hown hb3
    obtain ⟨p, hp⟩ : ∃ p, ys.length = p := ⟨_, rfl⟩
    rw [hp] at hpl HV2 HV3 ⊢
    clear hp
    go_wp2_with fail
    refine (equalS_b _ _ p p _ _ ys ys _ HV2.out HV3.out (by unfold maxLen; omega) (by unfold maxLen; omega)).mono ?_
    rintro e w4 ⟨rfl, hb4⟩
    rw [decide_eq_true rfl]
    have HB4 := Lib.hid (below_self HB3.out hb4)
    have HV4 := Lib.hid (HV2.out.below hb4)
    clear hb4
    go_wp2_with fail
    refine (prParts_any _ p _ ys (n : Int) _ HV4.out (by unfold maxLen; omega)).mono ?_
    rintro e w5 ⟨rfl, hb5⟩
    rw [HPL.out]
    have HB5 := Lib.hid (below_self HB4.out hb5)
    clear hb5
    go_wp2_with fail
    refine (awakePa_any _).mono ?_
    rintro e w6 ⟨rfl, hb6⟩
    have HB6 := Lib.hid (below_self HB5.out hb6)
    clear hb6
    go_wp2
    go_ret
    exact ⟨rfl, HB6.out⟩
  · clear hr
    go_enter Try.func4, Try.ntmps4
    go_wp2_with fail
    refine (awakePa_any _).mono ?_
    rintro e w4 ⟨rfl, hb4⟩
    go_wp2
    go_ret
    exact ⟨rfl, hb4⟩
set_option maxRecDepth 100000 in
set_option maxHeartbeats 2000000 in
theorem paraMatches_any (A : Option Addr) (n c : Nat) (xs : List Int) (w : World) (hr : Rd w 1 A n (xs.map (Value.int .i64))) (hn : n ≤ maxLen) :
    Calls Try.prog 5 #[.slice A n c] w fun e w' => e = .returned (.bool true) ∧ Below w.heap.size w w' := by
  unfold maxLen at hn
  by_cases hs : n ≤ 300
  · have hlen : xs.length = n := by simpa using hr.len1
    have HR := Lib.hid hr
    have HBK := Lib.hid (fun i k => mat_back (xs := xs) (i := i) (k := k))
    have HML := Lib.hid (matF_good xs).len
    rw [hlen] at HBK HML
    obtain ⟨ys, hys⟩ : ∃ ys, matF xs = ys := ⟨_, rfl⟩
    rw [hys] at HBK HML
    have HY := Lib.hid hys
    clear hr hlen hys
    go_enter Try.func5, Try.ntmps5
    go_wp2_with fail
    refine (prMatches_any A n c xs _ HR.out (by omega)).mono ?_
    rintro e w2 ⟨v, rfl, hown, hb2⟩
    rw [HY.out] at hown
    obtain ⟨V, cv, rfl, _⟩ := own_form hown
    have HV := Lib.hid (Rd.of_own hown)
    have HB2 := Lib.hid hb2
    clear hown hb2
    go_wp2_with fail
    refine (rfMatches_any A n c xs _ (HR.out.below HB2.out) (by omega)).mono ?_
    rintro e w3 ⟨v, rfl, hown, hb3⟩
    rw [HY.out] at hown
    obtain ⟨V3, cv3, rfl, _⟩ := own_form hown
    have HV3 := Lib.hid (Rd.of_own hown)
    have HV2 := Lib.hid (HV.out.below hb3)
    have HB3 := Lib.hid (below_self HB2.out hb3)
    clear hown hb3
    go_wp2_with fail
    refine (equalInt_b _ _ n n _ _ ys ys _ HV2.out HV3.out (by unfold maxLen; omega) (by unfold maxLen; omega)).mono ?_
    rintro e w4 ⟨rfl, hb4⟩
    rw [decide_eq_true rfl]
    have HB4 := Lib.hid (below_self HB3.out hb4)
    have HV4 := Lib.hid (HV2.out.below hb4)
    clear hb4
    go_wp2_with fail
    go_loopw [19] (fun i ws => ∃ j : Nat, j ≤ n ∧ i = .int .i64 (j : Int) ∧ ws = w4) (fun i _ => n - (intOf i).toNat)
    case atStart => exact ⟨0, Nat.zero_le _, rfl, rfl⟩
    case round =>
      obtain ⟨j, hj, rfl, rfl⟩ := hrel
      by_cases hlt : j < n
      · obtain ⟨y, hy⟩ : ∃ y, ys[j]? = some y := ⟨_, List.getElem?_eq_getElem (by rw [HML.out]; exact hlt)⟩
        obtain ⟨ad, rfl, hab, hcell⟩ := HV4.out.at_ hlt
        have cy : wr.cell? (ad.add j) = some (.int .i64 y) := hcell _ (by rw [List.getElem?_map, hy]; rfl)
        have HYJ := Lib.hid hy
        have hkn : (j : Int) < (n : Int) := by omega
        clear hcell hy
        by_cases hy0 : 0 ≤ y
        · by_cases hyn : y < (n : Int)
          · obtain ⟨k, rfl⟩ := Int.eq_ofNat_of_zero_le hy0
            have hkn2 : k < n := by omega
            obtain ⟨ad', e', _, hcell'⟩ := HV4.out.at_ hkn2
            obtain rfl := Option.some.inj e'
            have ck : wr.cell? (ad.add k) = some (.int .i64 (j : Int)) := hcell' _ (by rw [List.getElem?_map, HBK.out j k HYJ.out hkn2]; rfl)
            clear hcell' hkn2
            go_wp2_with fail
            go_roundw
            case rel => exact ⟨j + 1, by omega, by go_num, trivial⟩
            case measure => simp [intOf]; omega
          · go_wp2_with fail
            go_roundw
            case rel => exact ⟨j + 1, by omega, by go_num, trivial⟩
            case measure => simp [intOf]; omega
        · go_wp2_with fail
          go_roundw
          case rel => exact ⟨j + 1, by omega, by go_num, trivial⟩
          case measure => simp [intOf]; omega
      · go_wp2_with fail
        refine (awakePa_any _).mono ?_
        rintro e w6 ⟨rfl, hb6⟩
        have HB6 := Lib.hid (below_self HB4.out hb6)
        clear hb6
        go_wp2
        go_ret
        exact ⟨rfl, HB6.out⟩
  · clear hr
    go_enter Try.func5, Try.ntmps5
    go_wp2_with fail
    refine (awakePa_any _).mono ?_
    rintro e w4 ⟨rfl, hb4⟩
    go_wp2
    go_ret
    exact ⟨rfl, hb4⟩
set_option maxRecDepth 100000 in
set_option maxHeartbeats 4000000 in
theorem paraLevels_any (A : Option Addr) (n c : Nat) (xs : List Int) (d lo hi : Int) (w : World) (hr : Rd w 1 A n (xs.map (Value.int .i64))) (hnc : n ≤ c) (hn : n ≤ maxLen) (hl : Fit lo) (hh : Fit hi) :
    Calls Try.prog 6 #[.slice A n c, .int .i64 d, .agg #[.int .i64 lo, .int .i64 hi]] w fun e w' => e = .returned (.bool true) ∧ Below w.heap.size w w' := by
  unfold maxLen at hn
  have hb0 := below_new w (.cells #[.int .i64 lo, .int .i64 hi] 33)
  by_cases hs : n ≤ 300
  · obtain ⟨f, hf⟩ : ∃ f, firstF xs (lo, hi) = f := ⟨_, rfl⟩
    obtain ⟨v, hv⟩ : ∃ v, levelF xs d = v := ⟨_, rfl⟩
    have H1 := Lib.hid (fun W (h : Rd W 1 A n (xs.map (Value.int .i64))) => prLevel_any A n c xs d W h (by omega) hnc)
    have H2 := Lib.hid (fun W (h : Rd W 1 A n (xs.map (Value.int .i64))) => rfLevel_any A n c xs d W h (by omega) hnc)
    have H3 := Lib.hid (fun W (h : Rd W 1 A n (xs.map (Value.int .i64))) => prFirst_any A n c xs lo hi W h (by omega) hnc hl hh)
    have H4 := Lib.hid (fun W (h : Rd W 1 A n (xs.map (Value.int .i64))) => rfFirst_any A n c xs lo hi W h (by omega) hnc hl hh)
    rw [hf] at H3 H4
    rw [hv] at H1 H2
    have geq1 : (v == v) = true := by simp
    have geq2 : (f == f) = true := by simp
    clear hf hv hl hh
    go_enter Try.func6, Try.ntmps6
    go_wp2
    have e0 : (w.alloc (.cells #[.int .i64 lo, .int .i64 hi] 33)).cell? ⟨w.heap.size, 0, none⟩ = some (.int .i64 lo) := by rw [World.cell?_alloc_at _ _ _ _ rfl]; rfl
    have e1 : (w.alloc (.cells #[.int .i64 lo, .int .i64 hi] 33)).cell? ⟨w.heap.size, 1, none⟩ = some (.int .i64 hi) := by rw [World.cell?_alloc_at _ _ _ _ rfl]; rfl
    have hr0 := hr.below hb0
    generalize (w.alloc (.cells #[.int .i64 lo, .int .i64 hi] 33)) = w0 at *
    obtain ⟨b, hb⟩ : ∃ b, w.heap.size = b := ⟨_, rfl⟩
    simp only [hb] at e0 e1 ⊢
    clear hb hr
    go_region_held3 (fun w' => w'.cell? ⟨b, 0, none⟩ = some (.int .i64 lo) ∧ w'.cell? ⟨b, 1, none⟩ = some (.int .i64 hi) ∧ Below w0.heap.size w0 w')
      (first
        | exact ⟨e0, e1, (Below.refl _ _).drew⟩
        | exact ⟨cell_below h1 (by assumption : _ ∧ _ ∧ Below w0.heap.size w0 _).1, cell_below h1 (by assumption : _ ∧ _ ∧ Below w0.heap.size w0 _).2.1, below_self (by assumption : _ ∧ _ ∧ Below w0.heap.size w0 _).2.2 h1⟩
        | exact ⟨cell_below h1 e0, cell_below h1 e1, below_self (Below.refl _ _).drew h1⟩
        | fail)
      (first
        | (go_at_call 28; with_reducible refine (H1.out _ (hr0.below (by first | exact (Below.refl _ _).drew | exact (by assumption : _ ∧ _ ∧ Below w0.heap.size w0 _).2.2))).mono ?_; rintro e w3 ⟨rfl, h1⟩)
        | (go_at_call 29; with_reducible refine (H2.out _ (hr0.below (by first | exact (Below.refl _ _).drew | exact (by assumption : _ ∧ _ ∧ Below w0.heap.size w0 _).2.2))).mono ?_; rintro e w3 ⟨rfl, h1⟩)
        | (go_at_call 30; with_reducible refine (H3.out _ (hr0.below (by first | exact (Below.refl _ _).drew | exact (by assumption : _ ∧ _ ∧ Below w0.heap.size w0 _).2.2))).mono ?_; rintro e w3 ⟨rfl, h1⟩)
        | (go_at_call 31; with_reducible refine (H4.out _ (hr0.below (by first | exact (Below.refl _ _).drew | exact (by assumption : _ ∧ _ ∧ Below w0.heap.size w0 _).2.2))).mono ?_; rintro e w3 ⟨rfl, h1⟩)
        | (go_at_call 20; refine (awakePa_any _).mono ?_; rintro e w3 ⟨rfl, h1⟩)
        | fail)
    all_goals go_wp2
    all_goals go_ret
    all_goals (have hfin := (by assumption : _ ∧ _ ∧ Below w0.heap.size w0 _).2.2)
    all_goals exact ⟨rfl, below_self hb0 hfin⟩
  · clear hr
    go_enter Try.func6, Try.ntmps6
    go_wp2_with fail
    refine (awakePa_any _).mono ?_
    rintro e w4 ⟨rfl, hb4⟩
    have hb5 := below_self hb0 hb4
    go_wp2
    go_ret
    exact ⟨rfl, hb5⟩
end Go.Proofs.Ytcbiaeeifclieaa
