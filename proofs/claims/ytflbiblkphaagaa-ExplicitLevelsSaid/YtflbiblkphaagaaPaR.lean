/- The reference's First, Level. -/
import Derived.Test.YtflbiblkphaagaaPaO
import Derived.Test.YtflbiblkphaagaaPaF
namespace Go.Proofs.Ytflbiblkphaagaa
open Go.RowKit

theorem fst_jump {l : List Int} {i : Nat} {x : Int} (h : l[i]? = some x) (ho : opB x = true) : fstF (l.drop i) 0 = fstF (l.drop (ansF l (i + 1) 0 + 1)) 0 := by
  rw [dropCons h, fstF, if_pos ho, fst_clo]
  unfold ansF
  cases hc : clo (l.drop (i + 1)) 0 with
  | none => simp only []; rw [List.drop_eq_nil_of_le (by omega)]; rfl
  | some j => simp only []; rw [List.drop_drop]; congr 1
theorem fst_L {l : List Int} {i : Nat} (h : l[i]? = some 0) : fstF (l.drop i) 0 = 0 := by
  rw [dropCons h, fstF, if_neg (by decide), if_neg (by decide), if_pos rfl, if_pos rfl]
theorem fst_R {l : List Int} {i : Nat} {x : Int} (h : l[i]? = some x) (hx : x = 1 ∨ x = 2) : fstF (l.drop i) 0 = 1 := by
  rw [dropCons h, fstF, if_neg (by rcases hx with rfl | rfl <;> decide), if_neg (by omega), if_pos rfl, if_neg (by omega), if_pos hx]
theorem fst_pass {l : List Int} {i : Nat} {x : Int} (h : l[i]? = some x) (ho : opB x = false) (h0 : x ≠ 0) (h1 : x ≠ 1) (h2 : x ≠ 2) : fstF (l.drop i) 0 = fstF (l.drop (i + 1)) 0 := by
  rw [dropCons h, fstF, if_neg (by rw [ho]; decide)]
  by_cases h22 : x = 22
  · rw [if_pos h22]
  · rw [if_neg h22, if_pos rfl, if_neg h0, if_neg (by omega)]
theorem fst_end {l : List Int} {i : Nat} (h : l.length ≤ i) : fstF (l.drop i) 0 = -1 := by
  rw [List.drop_eq_nil_of_le h]; rfl
set_option maxRecDepth 100000 in
set_option maxHeartbeats 2000000 in
theorem rfFirst_any (A : Option Addr) (n c : Nat) (xs : List Int) (lo hi : Int) (w : World) (hr : Rd w 1 A n (xs.map (Value.int .i64))) (hn : n ≤ 1000000) (hnc : n ≤ c) (_hl : Fit lo) (_hh : Fit hi) :
    Calls Try.prog 56 #[.slice A n c, .agg #[.int .i64 lo, .int .i64 hi]] w fun e w' => e = .returned (.int .i64 (firstF xs (lo, hi))) ∧ Below w.heap.size w w' := by
  have hlen : xs.length = n := by simpa using hr.len1
  have hbn := below_new w (.cells #[.int .i64 lo, .int .i64 hi] 78)
  have s1 := SpanBlk.new_ w lo hi 78
  obtain ⟨c0, c1, _, _⟩ := s1
  simp only at c0 c1
  have HR := Lib.hid (hr.below hbn)
  have HB := Lib.hid hbn
  obtain ⟨L, hL⟩ : ∃ L : Nat, (if lo < 0 then 0 else lo) = (L : Int) := ⟨(max lo 0).toNat, by split <;> omega⟩
  have hm1 : max lo 0 = (L : Int) := by rw [← hL]; split <;> omega
  by_cases hno : (n : Int) ≤ (L : Int) ∨ hi ≤ (L : Int)
  · have HV := Lib.hid (show firstF xs (lo, hi) = -1 by
      unfold firstF spanOf
      rw [if_neg (by simp only; omega)]
      rfl)
    clear hr hbn hm1
    rcases Int.lt_or_le (L : Int) (n : Int) with h | h
    · have h2 : hi ≤ (L : Int) := by omega
      have h3 : ¬ (n : Int) ≤ (L : Int) := by omega
      clear hno
      go_enter Try.func56, Try.ntmps56
      go_wp2
      all_goals go_ret
      all_goals exact ⟨retI HV.out.symm, HB.out⟩
    · clear hno
      go_enter Try.func56, Try.ntmps56
      go_wp2
      all_goals go_ret
      all_goals exact ⟨retI HV.out.symm, HB.out⟩
  · have hLn : (L : Int) < (n : Int) := by omega
    have hLh : ¬ hi ≤ (L : Int) := by omega
    obtain ⟨H, hH⟩ : ∃ H : Nat, (if (n : Int) < hi then (n : Int) else hi) = (H : Int) := ⟨(min hi n).toNat, by split <;> omega⟩
    have hm2 : min (max hi 0) (n : Int) = (H : Int) := by
      rw [← hH]; split <;> omega
    have hLH : (L : Int) < (H : Int) := by omega
    have hHn : (H : Int) ≤ (n : Int) := by omega
    obtain ⟨ys, hys⟩ : ∃ ys, (xs.drop L).take (H - L) = ys := ⟨_, rfl⟩
    have HF := Lib.hid (show firstF xs (lo, hi) = fstF ys 0 by
      unfold firstF spanOf
      rw [← hys, if_pos (by simp only; rw [hlen]; omega)]
      simp only
      rw [hlen, hm1, hm2, Int.toNat_natCast, Int.toNat_natCast])
    have hHLc : (H : Int) ≤ (c : Int) := by omega
    have HYL := Lib.hid (show ys.length = H - L by rw [← hys]; simp; omega)
    have HYR := Lib.hid (show Rd (w.alloc (.cells #[.int .i64 lo, .int .i64 hi] 78)) 1 (A.map (·.add L)) (H - L) (ys.map (Value.int .i64)) by
      rw [← hys]
      exact HR.out.sub (by omega) (by omega) (fun _ => rfl))
    have hcL : ¬ c = L := by omega
    clear hr hbn hno hm1 hm2 hys
    go_enter Try.func56, Try.ntmps56
    go_wp2_with fail
    generalize Option.map (fun x : Addr => x.add L) A = B at HYR ⊢
    have hMb : H - L ≤ 1000000 := by omega
    generalize H - L = M at HYL HYR hMb ⊢
    obtain ⟨W, hW⟩ : ∃ W, w.alloc (.cells #[.int .i64 lo, .int .i64 hi] 78) = W := ⟨_, rfl⟩
    rw [hW] at HYR HB ⊢
    clear hW c0 c1 hL hLn hLh hH hLH hHn hHLc hcL
    go_loopw [7] (fun i wr => ∃ j : Nat, j ≤ M + 1 ∧ i = .int .i64 (j : Int) ∧ wr = W ∧ fstF ys 0 = fstF (ys.drop j) 0) (fun i _ => M + 1 - (intOf i).toNat)
    case atStart => exact ⟨0, Nat.zero_le _, rfl, rfl, rfl⟩
    case round =>
      obtain ⟨j, hj, rfl, rfl, hfs⟩ := hrel
      by_cases hlt : j < M
      · obtain ⟨x, hx⟩ : ∃ x, ys[j]? = some x := ⟨_, List.getElem?_eq_getElem (by rw [HYL.out]; exact hlt)⟩
        obtain ⟨ad, rfl, hab, hcell⟩ := HYR.out.at_ hlt
        have cx : wr.cell? (ad.add j) = some (.int .i64 x) := hcell _ (by rw [List.getElem?_map, hx]; rfl)
        obtain ⟨o, ho⟩ : ∃ o, opB x = o := ⟨_, rfl⟩
        have HI := Lib.hid (fun W => rfOpens_of x o ho W)
        have HX := Lib.hid hx
        have HO := Lib.hid ho
        have HS := Lib.hid hfs
        clear hcell hx ho hfs
        by_cases h0 : x = 0
        · subst h0
          have HV := Lib.hid (HF.out.trans (HS.out.trans (fst_L HX.out)))
          go_wp2_with fail
          go_ret
          exact ⟨retI HV.out.symm, HB.out⟩
        · have g0 : (x == 0) = false := by simp [h0]
          by_cases h1 : x = 1
          · subst h1
            have HV := Lib.hid (HF.out.trans (HS.out.trans (fst_R HX.out (.inl rfl))))
            clear h0
            go_wp2_with fail
            go_ret
            exact ⟨retI HV.out.symm, HB.out⟩
          · have g1 : (x == 1) = false := by simp [h1]
            by_cases h2 : x = 2
            · subst h2
              have HV := Lib.hid (HF.out.trans (HS.out.trans (fst_R HX.out (.inr rfl))))
              clear h0 h1
              go_wp2_with fail
              go_ret
              exact ⟨retI HV.out.symm, HB.out⟩
            · have g2 : (x == 2) = false := by simp [h2]
              cases o with
              | false =>
                have HV := Lib.hid (HS.out.trans (fst_pass HX.out HO.out h0 h1 h2))
                clear h0 h1 h2
                go_wp2_with (first
                  | (go_at_call 34; with_reducible refine (HI.out _).mono ?_; rintro e w2 ⟨rfl, rfl⟩)
                  | fail)
                go_roundw
                case rel => exact ⟨j + 1, by omega, by go_num, trivial, HV.out⟩
                case measure => simp [intOf]; omega
              | true =>
                have HV := Lib.hid (HS.out.trans (fst_jump HX.out HO.out))
                have hal := ansF_le ys (j + 1) 0
                have hag := ansF_ge ys (j + 1) 0 (by rw [HYL.out]; omega)
                have HCL := Lib.hid (rfCloses_any (some ad) M (c - L) j ys wr HYR.out (by omega) hlt)
                rw [HYL.out] at hal
                obtain ⟨a, ha⟩ : ∃ a, ansF ys (j + 1) 0 = a := ⟨_, rfl⟩
                rw [ha] at HV HCL hal hag
                clear ha h0 h1 h2
                go_wp2_with (first
                  | (go_at_call 34; with_reducible refine (HI.out _).mono ?_; rintro e w2 ⟨rfl, rfl⟩)
                  | (go_at_call 60; with_reducible refine HCL.out.mono ?_; rintro e w3 ⟨rfl, rfl⟩)
                  | fail)
                go_roundw
                case rel => exact ⟨a + 1, by omega, by go_num, trivial, HV.out⟩
                case measure => simp [intOf]; omega
      · have HV := Lib.hid (HF.out.trans (hfs.trans (fst_end (by rw [HYL.out]; omega))))
        clear hfs
        go_wp2_with fail
        go_ret
        exact ⟨retI HV.out.symm, HB.out⟩
end Go.Proofs.Ytflbiblkphaagaa
