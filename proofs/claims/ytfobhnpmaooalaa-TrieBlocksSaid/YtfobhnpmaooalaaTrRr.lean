/- The reference's Ranges. -/
import Derived.Test.YtfobhnpmaooalaaTrRg
namespace Go.Proofs.Ytfobhnpmaooalaa
open Go.RowKit

theorem Srt.take {l : List Rg} (h : Srt l) (k : Nat) : Srt (l.take k) := ⟨h.1.sublist (List.take_sublist k l), fun s hs => h.2 s (List.mem_of_mem_take hs)⟩
theorem refRows_part {l : List Rg} {z : Int} (h : riseB (-1) l = true) (k : Nat) : ∀ s ∈ (l.take k).foldl (refS z) [], -1 < s.1 ∧ s.2.1 ≤ 1114111 ∧ s.1 ≤ s.2.1 := by
  obtain ⟨h1, h2⟩ := srt_of_rise h
  obtain ⟨_, a2, _, a4, _⟩ := ref_again (z := z) (l.take k) [] (by simpa using h1.take k)
  intro s hs
  have := a4 (-1) 1114111 (by simpa using fun a b c hm => h2 (a, b, c) (List.mem_of_mem_take hm)) s hs
  exact ⟨this.1, this.2, a2.2 s hs⟩
theorem refRows_plen {l : List Rg} {z : Int} (h : riseB (-1) l = true) (k : Nat) : ((l.take k).foldl (refS z) []).length ≤ k := by
  obtain ⟨h1, h2⟩ := srt_of_rise h
  obtain ⟨_, _, a3, _, _⟩ := ref_again (z := z) (l.take k) [] (by simpa using h1.take k)
  have := List.length_take_le k l
  simp only [List.length_nil] at a3
  omega
theorem fold_next {l : List Rg} {z : Int} {k : Nat} {r : Rg} (h : l[k]? = some r) : (l.take (k + 1)).foldl (refS z) [] = refS z ((l.take k).foldl (refS z) []) r := by
  rw [List.take_add_one, h, List.foldl_append]
  rfl
def RefAt (w : World) (l : List Rg) (z : Int) (n : Nat) (v i : Value) (wr : World) : Prop := ∃ (k : Nat) (rows : List Rg), k ≤ n ∧ i = .int .i64 k ∧ (l.take k).foldl (refS z) [] = rows ∧ wr.ownsRow w.heap.size 31 3 v rows.length (cellsG rows) ∧ Below w.heap.size w wr
set_option maxRecDepth 100000 in
set_option maxHeartbeats 4000000 in
theorem refRanges_any (A : Option Addr) (n c : Nat) (l : List Rg) (z : Int) (w : World) (hr : Rd w 3 A n (cellsG l)) (hn : n ≤ 4096) (hl : riseB (-1) l = true) :
    Calls Try.prog 15 #[.slice A n c, .int .i64 z] w fun e w' => (∃ v, e = .returned v ∧ w'.ownsRow w.heap.size 31 3 v (refRows l z).length (cellsG (refRows l z))) ∧ Below w.heap.size w w' := by
  have HL := Lib.hid hr.lenG
  have HR := Lib.hid hr
  have HPART := Lib.hid (fun k => refRows_part (z := z) hl k)
  have HPL := Lib.hid (fun k => refRows_plen (z := z) hl k)
  have HFIN := Lib.hid (show ∀ k rows, ¬ k < n → (l.take k).foldl (refS z) [] = rows → rows = refRows l z from fun k rows hk h => by
    rw [List.take_of_length_le (by rw [HL.out]; omega)] at h
    exact h.symm)
  obtain ⟨R, hR⟩ : ∃ R, refRows l z = R := ⟨_, rfl⟩
  rw [hR] at HFIN ⊢
  clear hr hl hR
  go_enter Try.func15, Try.ntmps15
  go_wp2
  go_loopw [5, 6] (fun v i wr => RefAt w l z n v i wr) (fun _ i _ => n - (intOf i).toNat)
  case atStart => exact ⟨0, [], Nat.zero_le _, rfl, rfl, ⟨rfl, .inl ⟨rfl, rfl⟩⟩, Below.refl _ _⟩
  case round =>
    obtain ⟨k, rows, hk, rfl, hst, hown, hb⟩ := hrel
    have HST := Lib.hid hst
    obtain ⟨Av, cv, rfl, hcv⟩ := own_form hown
    have HO := Lib.hid hown
    clear hst hown
    by_cases hlt : k < n
    · obtain ⟨r, hrk⟩ : ∃ r, l[k]? = some r := ⟨_, List.getElem?_eq_getElem (by rw [HL.out]; exact hlt)⟩
      have HX := Lib.hid (show (l.take (k + 1)).foldl (refS z) [] = refS z rows r by rw [fold_next hrk, HST.out])
      have HP1 := Lib.hid (show ∀ s ∈ rows, -1 < s.1 ∧ s.2.1 ≤ 1114111 ∧ s.1 ≤ s.2.1 by have := HPART.out k; rwa [HST.out] at this)
      have hlen := HPL.out k
      rw [HST.out] at hlen
      obtain ⟨ad, rfl, hab, c1, c2, c3⟩ := (HR.out.below hb).rg hrk
      obtain ⟨lo, hi, v⟩ := r
      simp only at c1 c2 c3
      have hsz := hb.size
      clear hrk
      by_cases h1 : v = z
      · have HN := Lib.hid (HX.out.trans (refS_plain (r := (lo, hi, v)) h1))
        subst h1
        go_wp2
        go_roundw
        case rel => exact ⟨k + 1, rows, by omega, by go_num, HN.out, HO.out, hb⟩
        case measure => simp [intOf]; omega
      · have g1 : (v == z) = false := by simp [h1]
        have HNEW := Lib.hid (fun w0 : World => cells_new w0 [.int .i64 lo, .int .i64 hi, .int .i64 v] 31)
        rcases snoc_of (l := rows) with hrows | ⟨o, s, hrows⟩
        · have HN := Lib.hid (HX.out.trans (show refS z rows (lo, hi, v) = rows ++ [(lo, hi, v)] by rw [hrows]; exact refS_first (r := (lo, hi, v)) h1))
          have hl0 : rows.length = 0 := by rw [hrows]; rfl
          clear h1 hrows
          go_wp2
          go_quiet (fail)
          have hbq := below_drewN hb nq
          have d1 : (wr.drewN nq).cell? (ad.add (k * 3)) = some (.int .i64 lo) := c1
          have d2 : (wr.drewN nq).cell? ⟨(ad.add (k * 3)).block, (ad.add (k * 3)).off + 1, none⟩ = some (.int .i64 hi) := c2
          have d3 : (wr.drewN nq).cell? ⟨(ad.add (k * 3)).block, (ad.add (k * 3)).off + 2, none⟩ = some (.int .i64 v) := c3
          have HOq : Hid ((wr.drewN nq).ownsRow w.heap.size 31 3 (.slice Av rows.length cv) rows.length (cellsG rows)) := Lib.hid HO.out
          generalize wr.drewN nq = wq at *
          have HBQ := Lib.hid hbq
          have hszq := hbq.size
          have HNW := Lib.hid (HNEW.out wq)
          have HO4 := Lib.hid (HOq.out.alloc (.cells #[.int .i64 lo, .int .i64 hi, .int .i64 v] 31))
          clear hbq HOq
          go_wp2_with (at_builtin; refine wpList_app rfl _ _ 22 rfl rangeSliceT (by decide) (.slice Av rows.length cv) rows.length (cellsG rows) rfl HO4.out ⟨wq.heap.size, 0, none⟩ 1 1 [.int .i64 lo, .int .i64 hi, .int .i64 v] rfl rfl HNW.out (oneInt3 _ _ _ _) (by omega) (by unfold maxLen; omega) (by simp; omega) ?_; intro v' w5 h5 g5 _; have hb5 := below_app (HBQ.out.alloc HBQ.out.size (.cells #[.int .i64 lo, .int .i64 hi, .int .i64 v] 31)) g5 HO4.out (by simp; omega))
          rw [← cellsG_snoc rows (lo, hi, v)] at h5
          go_wp2
          go_roundw
          case rel => exact ⟨k + 1, _, by omega, by go_num, HN.out, by simpa using h5, hb5⟩
          case measure => simp [intOf]; omega
        · obtain ⟨h, hh⟩ : ∃ h, o.length = h := ⟨_, rfl⟩
          have hm : rows.length = h + 1 := by rw [hrows, List.length_append, hh]; rfl
          have hs3 := HP1.out s (by rw [hrows]; simp)
          obtain ⟨gb, hgbe⟩ : ∃ gb, Av = some ⟨gb, 0, none⟩ := by
            obtain ⟨g', cap', hv, _⟩ := HO.out.form (by omega)
            injection hv with e
            exact ⟨g', e⟩
          obtain ⟨sx, sy, sv⟩ := s
          simp only at hs3
          obtain ⟨hs1, hs2, hs4⟩ := hs3
          have hcs : ∀ j u, (cellsG rows)[j]? = some u → wr.cell? ⟨gb, j, none⟩ = some u := fun j u hu => by
            have := HO.out.cells (g := gb) (by rw [hgbe]; rfl) j u hu
            rwa [addNew] at this
          have hlast := cellsG_at (l := rows) (k := h) (s := (sx, sy, sv)) (by rw [hrows, List.getElem?_append_right (by omega), hh]; simp)
          have q1 := hcs _ _ hlast.2.1
          have q2 := hcs _ _ hlast.2.2
          have he : (rows.length : Int) - 1 = (h : Int) := by omega
          have hhm : h < rows.length := by omega
          have hh9 : h ≤ k := by omega
          have hpos : 0 < rows.length := by omega
          have HMM := Lib.hid hm
          have HHH := Lib.hid hh
          clear hcs hlast hm hh
          by_cases hc1 : sy + 1 = lo
          · by_cases hc2 : sv = v
            · have HN := Lib.hid (HX.out.trans (show refS z rows (lo, hi, v) = o ++ [(sx, hi, sv)] by rw [hrows]; exact refS_more (s := (sx, sy, sv)) (r := (lo, hi, v)) h1 ⟨hc1, hc2⟩))
              have k1 : (sy + 1 == lo) = true := by simp [hc1]
              have k2 : (sv == v) = true := by simp [hc2]
              have hgb := (HO.out.lt gb (by rw [hgbe]; rfl)).1
              have HRW := Lib.hid hrows
              subst hgbe
              clear h1 hc1 hc2 hrows
              go_wp2
              go_quiet (fail)
              have hbq := below_drewN hb nq
              have d2 : (wr.drewN nq).cell? ⟨(ad.add (k * 3)).block, (ad.add (k * 3)).off + 1, none⟩ = some (.int .i64 hi) := c2
              have HOq : Hid ((wr.drewN nq).ownsRow w.heap.size 31 3 (.slice (some ⟨gb, 0, none⟩) rows.length cv) rows.length (cellsG rows)) := Lib.hid HO.out
              generalize wr.drewN nq = wq at *
              have hst2 := (HOq.out.stored (h * 3 + 1) (.int .i64 hi)).1
              rw [show cellsG rows = cellsG (o ++ [(sx, sy, sv)]) by rw [HRW.out], ← HHH.out, cellsG_setHi, HHH.out] at hst2
              obtain ⟨⟨cu, hcu⟩, hfz⟩ := own_slot HOq.out (j := h * 3 + 1) (by omega)
              have hb5 := hbq.setCell (p := ⟨gb, h * 3 + 1, none⟩) (by simp only; exact hgb) (.int .i64 hi)
              have HN2 := Lib.hid hst2
              have HLEQ := Lib.hid (show (o ++ [(sx, hi, sv)]).length = rows.length by rw [HMM.out]; simp [HHH.out])
              clear hst2 HOq
              go_wp2
              go_roundw
              case rel => exact ⟨k + 1, _, by omega, by go_num, HN.out, by rw [HLEQ.out]; exact HN2.out, hb5⟩
              case measure => simp [intOf]; omega
            · have HN := Lib.hid (HX.out.trans (show refS z rows (lo, hi, v) = rows ++ [(lo, hi, v)] by rw [hrows]; exact refS_new (s := (sx, sy, sv)) (r := (lo, hi, v)) h1 (fun e => hc2 e.2)))
              have k1 : (sy + 1 == lo) = true := by simp [hc1]
              have k2 : (sv == v) = false := by simp [hc2]
              subst hgbe
              clear h1 hc1 hc2 hrows
              go_wp2
              go_quiet (fail)
              have hbq := below_drewN hb nq
              have d1 : (wr.drewN nq).cell? (ad.add (k * 3)) = some (.int .i64 lo) := c1
              have d2 : (wr.drewN nq).cell? ⟨(ad.add (k * 3)).block, (ad.add (k * 3)).off + 1, none⟩ = some (.int .i64 hi) := c2
              have d3 : (wr.drewN nq).cell? ⟨(ad.add (k * 3)).block, (ad.add (k * 3)).off + 2, none⟩ = some (.int .i64 v) := c3
              have HOq : Hid ((wr.drewN nq).ownsRow w.heap.size 31 3 (.slice (some ⟨gb, 0, none⟩) rows.length cv) rows.length (cellsG rows)) := Lib.hid HO.out
              generalize wr.drewN nq = wq at *
              have HBQ := Lib.hid hbq
              have hszq := hbq.size
              have HNW := Lib.hid (HNEW.out wq)
              have HO4 := Lib.hid (HOq.out.alloc (.cells #[.int .i64 lo, .int .i64 hi, .int .i64 v] 31))
              clear hbq HOq
              go_wp2_with (at_builtin; refine wpList_app rfl _ _ 22 rfl rangeSliceT (by decide) (.slice (some ⟨gb, 0, none⟩) rows.length cv) rows.length (cellsG rows) rfl HO4.out ⟨wq.heap.size, 0, none⟩ 1 1 [.int .i64 lo, .int .i64 hi, .int .i64 v] rfl rfl HNW.out (oneInt3 _ _ _ _) (by omega) (by unfold maxLen; omega) (by simp; omega) ?_; intro v' w5 h5 g5 _; have hb5 := below_app (HBQ.out.alloc HBQ.out.size (.cells #[.int .i64 lo, .int .i64 hi, .int .i64 v] 31)) g5 HO4.out (by simp; omega))
              rw [← cellsG_snoc rows (lo, hi, v)] at h5
              go_wp2
              go_roundw
              case rel => exact ⟨k + 1, _, by omega, by go_num, HN.out, by simpa using h5, hb5⟩
              case measure => simp [intOf]; omega
          · have HN := Lib.hid (HX.out.trans (show refS z rows (lo, hi, v) = rows ++ [(lo, hi, v)] by rw [hrows]; exact refS_new (s := (sx, sy, sv)) (r := (lo, hi, v)) h1 (fun e => hc1 e.1)))
            have k1 : (sy + 1 == lo) = false := by simp [hc1]
            subst hgbe
            clear h1 hc1 hrows
            go_wp2
            go_quiet (fail)
            have hbq := below_drewN hb nq
            have d1 : (wr.drewN nq).cell? (ad.add (k * 3)) = some (.int .i64 lo) := c1
            have d2 : (wr.drewN nq).cell? ⟨(ad.add (k * 3)).block, (ad.add (k * 3)).off + 1, none⟩ = some (.int .i64 hi) := c2
            have d3 : (wr.drewN nq).cell? ⟨(ad.add (k * 3)).block, (ad.add (k * 3)).off + 2, none⟩ = some (.int .i64 v) := c3
            have HOq : Hid ((wr.drewN nq).ownsRow w.heap.size 31 3 (.slice (some ⟨gb, 0, none⟩) rows.length cv) rows.length (cellsG rows)) := Lib.hid HO.out
            generalize wr.drewN nq = wq at *
            have HBQ := Lib.hid hbq
            have hszq := hbq.size
            have HNW := Lib.hid (HNEW.out wq)
            have HO4 := Lib.hid (HOq.out.alloc (.cells #[.int .i64 lo, .int .i64 hi, .int .i64 v] 31))
            clear hbq HOq
            go_wp2_with (at_builtin; refine wpList_app rfl _ _ 22 rfl rangeSliceT (by decide) (.slice (some ⟨gb, 0, none⟩) rows.length cv) rows.length (cellsG rows) rfl HO4.out ⟨wq.heap.size, 0, none⟩ 1 1 [.int .i64 lo, .int .i64 hi, .int .i64 v] rfl rfl HNW.out (oneInt3 _ _ _ _) (by omega) (by unfold maxLen; omega) (by simp; omega) ?_; intro v' w5 h5 g5 _; have hb5 := below_app (HBQ.out.alloc HBQ.out.size (.cells #[.int .i64 lo, .int .i64 hi, .int .i64 v] 31)) g5 HO4.out (by simp; omega))
            rw [← cellsG_snoc rows (lo, hi, v)] at h5
            go_wp2
            go_roundw
            case rel => exact ⟨k + 1, _, by omega, by go_num, HN.out, by simpa using h5, hb5⟩
            case measure => simp [intOf]; omega
    · have HN := Lib.hid (HFIN.out k rows hlt HST.out)
      go_wp2
      go_ret
      exact ⟨⟨_, rfl, by rw [← HN.out]; exact HO.out⟩, hb⟩
end Go.Proofs.Ytfobhnpmaooalaa
