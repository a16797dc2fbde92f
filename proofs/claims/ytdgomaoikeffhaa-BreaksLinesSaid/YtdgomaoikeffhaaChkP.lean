/- The project's Check of clusters. -/
import Derived.Test.YtdgomaoikeffhaaOutsP
import Derived.Test.YtdgomaoikeffhaaPartsP
namespace Go.Proofs.Ytdgomaoikeffhaa
open Go.RowKit

set_option maxRecDepth 100000 in
set_option maxHeartbeats 2000000 in
theorem prCheckC_any (A : Option Addr) (n c : Nat) (l : List Cl) (m p : Int) (w : World) (hr : Rd w 4 A n (cellsC l)) (hn : n ≤ 1000000) :
    Calls Try.prog 35 #[.slice A n c, .int .i64 m, .int .i64 p] w fun e w' => e = .returned (.bool (checkC l m p)) ∧ Below w.heap.size w w' := by
  have hlen : l.length = n := by have := hr.1; rw [cellsC_len] at this; omega
  have hlm : (l.map Prod.fst).length = n := by simpa using hlen
  have HL := Lib.hid hlen
  have HM := Lib.hid hlm
  have HR := Lib.hid hr
  clear hlen hlm
  go_enter Try.func35, Try.ntmps35
  go_wp2_with (at_make; refine wpList_mkZ rfl _ _ _ rfl Try.underlying29 spanInfo (z0 := .int .i64 0) (by decide) (by intro j hj; match j, hj with | 0, _ => rfl | 1, _ => rfl) (base := w.heap.size) (kl := .i64) (kc := .i64) n n n rfl rfl rfl rfl (by omega) (by unfold maxLen; omega) (Nat.le_refl _) ?_; intro w1 hown hg1)
  have hb1 := below_make (w := w) (w' := w1) hg1
  have HO := Lib.hid (show w1.ownsRow w.heap.size 24 2 (.slice (some ⟨w.heap.size, 0, none⟩) n n) n (fillS (l.map Prod.fst) 0) by rw [fillS_start, HM.out]; exact hown)
  clear hown hg1
  go_loopw [15] (fun i wr => ∃ k : Nat, k ≤ n ∧ i = .int .i64 k ∧ wr.ownsRow w.heap.size 24 2 (.slice (some ⟨w.heap.size, 0, none⟩) n n) n (fillS (l.map Prod.fst) k) ∧ Below w.heap.size w wr) (fun i _ => n - (intOf i).toNat)
  case atStart => exact ⟨0, Nat.zero_le _, rfl, HO.out, hb1⟩
  case round =>
    obtain ⟨k, hk, rfl, hown, hbr⟩ := hrel
    clear HO hb1
    by_cases hlt : k < n
    · obtain ⟨s, hsk⟩ : ∃ s, l[k]? = some s := ⟨_, List.getElem?_eq_getElem (by rw [HL.out]; exact hlt)⟩
      obtain ⟨ad, rfl, hab, c1, c2, c3, c4⟩ := (hr.below hbr).clus hsk
      have HF := Lib.hid (fillS_step (l := l.map Prod.fst) (k := k) (s := s.1) (by rw [List.getElem?_map, hsk]; rfl))
      clear hsk
      obtain ⟨⟨s1, s2⟩, s3, s4⟩ := s
      simp only at c1 c2 c3 c4
      have ha := hown.alloc (.cells #[.int .i64 s1, .int .i64 s2, .int .i64 s3, .int .i64 s4] 63)
      obtain ⟨⟨u0, x0⟩, z0⟩ := own_slot ha (j := k * 2) (by omega)
      obtain ⟨⟨u1, x1⟩, z1⟩ := own_slot ha (j := k * 2 + 1) (by omega)
      have HS := Lib.hid (own_store2 ha (k * 2) (.int .i64 s1) (.int .i64 s2))
      have hbb := ((hbr.alloc hbr.size (.cells #[.int .i64 s1, .int .i64 s2, .int .i64 s3, .int .i64 s4] 63)).setCell (p := ⟨w.heap.size, k * 2, none⟩) (Nat.le_refl _) (.int .i64 s1)).setCell (p := ⟨w.heap.size, k * 2 + 1, none⟩) (Nat.le_refl _) (.int .i64 s2)
      go_wp2
      go_roundw
      case rel => exact ⟨k + 1, by omega, by go_num, by rw [← HF.out]; exact HS.out, hbb⟩
      case measure => simp [intOf]; omega
    · have HK := Lib.hid (show fillS (l.map Prod.fst) k = cellsS (l.map Prod.fst) by rw [show k = (l.map Prod.fst).length by rw [HM.out]; omega, fillS_end])
      rw [HK.out] at hown
      have hr1 := Rd.of_own hown
      have HNM := Lib.hid (show n ≤ maxLen by unfold maxLen; omega)
      clear hown
      cases hp1 : partsS (l.map Prod.fst) m with
      | false =>
        have HC := Lib.hid (show checkC l m p = false by unfold checkC; rw [hp1]; rfl)
        have C := Lib.hid (prParts_any _ n n (l.map Prod.fst) m _ hr1 HNM.out)
        rw [hp1] at C
        clear hp1
        go_wp2_with fail
        refine C.out.mono ?_
        rintro e w1 ⟨rfl, hb1⟩
        have hb2 := hbr.trans (hb1.mono hbr.size)
        go_wp2
        go_ret
        exact ⟨retB (by simp [HC.out]), hb2⟩
      | true =>
        have HC := Lib.hid (show checkC l m p = partsS (sortR (l.map Prod.snd)) p by unfold checkC; rw [hp1]; rfl)
        have C := Lib.hid (prParts_any _ n n (l.map Prod.fst) m _ hr1 HNM.out)
        rw [hp1] at C
        clear hp1
        go_wp2_with fail
        refine C.out.mono ?_
        rintro e w1 ⟨rfl, hb1⟩
        have hb2 := hbr.trans (hb1.mono hbr.size)
        clear hr1 C hb1
        go_wp2_with fail
        refine (prOuts_any A n c l _ (HR.out.below hb2) hn).mono ?_
        rintro e w2 ⟨v, l', rfl, hpm, hso, hv, hb1⟩
        have hb3 := hb2.trans (hb1.mono hb2.size)
        obtain ⟨A3, c3, rfl, hc3⟩ := own_form hv
        have hr4 := Rd.of_own hv
        have HPP := Lib.hid (show partsS l' p = checkC l m p by rw [HC.out]; exact parts_perm (hpm.trans (sortR_perm _).symm) (sortR_sorted _) hso p)
        clear hv hb1 hb2 hpm hso
        go_wp2_with fail
        refine (prParts_any A3 n c3 l' p _ hr4 HNM.out).mono ?_
        rintro e w3 ⟨rfl, hb1⟩
        rw [HPP.out]
        have hb4 := hb3.trans (hb1.mono hb3.size)
        go_wp2
        go_ret
        exact ⟨rfl, hb4⟩
end Go.Proofs.Ytdgomaoikeffhaa
