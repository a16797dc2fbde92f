/- naskhlaw06: TrieRanges. -/
import Derived.Test.YtfobhnpmaooalaaTrC3
import Derived.Test.YtfobhnpmaooalaaTrL1
import Derived.Test.YtfobhnpmaooalaaTrR2
import Derived.Test.YtfobhnpmaooalaaEqG
namespace Go.Proofs.Ytfobhnpmaooalaa
open Go.RowKit

theorem rise_of_err' {l : List Rg} (h : errG l = 0) : riseB (-1) l = true := by
  unfold errG at h
  split at h
  · cases h
  · split at h
    · assumption
    · cases h
theorem own_rd {w : World} {base : Nat} {e : TypeId} {v : Value} {n : Nat} {xs : List Value} {size : Nat} (h : w.ownsRow base e size v n xs) : ∃ A c, v = .slice A n c ∧ Rd w size A n xs ∧ n ≤ c := by
  obtain ⟨A, c, rfl, hc⟩ := own_form h
  exact ⟨A, c, rfl, Rd.of_own h, hc⟩
set_option maxRecDepth 100000 in
set_option maxHeartbeats 4000000 in
theorem trieRanges_any (A : Option Addr) (n c : Nat) (l : List Rg) (z v : Int) (w : World) (hr : Rd w 3 A n (cellsG l)) (hn : n ≤ maxLen) (hnc : n ≤ c) (hfz : FitI z) (hfl : ∀ s ∈ l, FitI s.2.2) :
    Calls Try.prog 3 #[.slice A n c, .int .i64 z, .int .i64 v] w fun e w' => e = .returned (.bool true) ∧ Below w.heap.size w w' := by
  have HR := Lib.hid hr
  have HL := Lib.hid hr.lenG
  have HN := Lib.hid hn
  have HFL := Lib.hid hfl
  have HFZ := Lib.hid hfz
  clear hr hfl hfz
  unfold maxLen at hn
  by_cases h3 : 300 < n
  · go_enter Try.func3, Try.ntmps3
    go_wp2_with fail
    refine (awakeT_any _).mono ?_
    rintro e w1 ⟨rfl, hb⟩
    go_wp2
    go_ret
    exact ⟨rfl, hb⟩
  · go_enter Try.func3, Try.ntmps3
    go_wp2_with fail
    refine (prBuild_any A n c z l w HR.out HN.out hnc HFZ.out HFL.out).mono ?_
    rintro e w1 ⟨hp, hb1⟩
    rcases hp with ⟨he, b, nb, rfl, hT⟩ | ⟨he, rfl⟩
    · have HT := Lib.hid hT
      have HRI := Lib.hid (rise_of_err' he)
      have hlen := (refRows_again (z := z) HRI.out).2.2.1
      rw [HL.out] at hlen
      obtain ⟨R, hR⟩ : ∃ R, refRows l z = R := ⟨_, rfl⟩
      obtain ⟨rn, hrn⟩ : ∃ rn, R.length = rn := ⟨_, rfl⟩
      have HP1 := Lib.hid (prRanges_any b nb l z w1 HT.out HRI.out)
      have HP2 := Lib.hid (fun w' hb => refRanges_any A n c l z w' (HR.out.below (show Below w.heap.size w w' from hb)) (by omega) HRI.out)
      rw [hR, hrn] at HP1 hlen
      simp only [hR, hrn] at HP2
      clear hT he hR hrn
      go_wp2_with fail
      refine HP1.out.mono ?_
      rintro e w2 ⟨⟨v1, rfl, ho1⟩, hb⟩
      replace hb1 := below_self hb1 hb
      have HT2 := Lib.hid (HT.out.below hb)
      obtain ⟨A1, c1, rfl, hr1, hc1⟩ := own_rd ho1
      have HR1 := Lib.hid hr1
      clear hb hr1 ho1 HP1 HT
      go_wp2_with fail
      refine (HP2.out _ hb1).mono ?_
      rintro e w3 ⟨⟨v2, rfl, ho2⟩, hb⟩
      replace hb1 := below_self hb1 hb
      have HT3 := Lib.hid (HT2.out.below hb)
      have HR13 := Lib.hid (HR1.out.below hb)
      obtain ⟨A2, c2, rfl, hr2, hc2⟩ := own_rd ho2
      have HR2 := Lib.hid hr2
      have hbz := Below.refl w3.heap.size w3
      clear hb hr2 ho2 HP2 HT2 HR1
      go_wp2_with (first
        | (go_at_call 13; with_reducible refine (equalG_b A1 A2 rn rn c1 c2 R R _ (HR13.out.below hbz) (HR2.out.below hbz) (by unfold maxLen; omega) (by unfold maxLen; omega)).mono ?_; rintro e w7 ⟨rfl, h9⟩; replace hbz := below_self hbz h9; clear h9; rw [show decide (R = R) = true by simp])
        | (go_at_call 16; with_reducible refine (prCount_any b nb l z v _ (HT3.out.below hbz) HRI.out).mono ?_; rintro e w7 ⟨rfl, h9⟩; replace hbz := below_self hbz h9; clear h9)
        | (go_at_call 17; with_reducible refine (refCount_any A n c l z v _ (HR.out.below (below_self hb1 hbz)) (by omega) HRI.out).mono ?_; rintro e w7 ⟨rfl, h9⟩; replace hbz := below_self hbz h9; clear h9)
        | (go_at_call 10; with_reducible refine (awakeT_any _).mono ?_; rintro e w7 ⟨rfl, h9⟩; replace hbz := below_self hbz h9; clear h9)
        | fail)
      go_ret
      have hfin := hbz
      exact ⟨rfl, below_self hb1 hfin⟩
    · obtain ⟨er, her⟩ : ∃ er, errG l = er := ⟨_, rfl⟩
      rw [her] at he ⊢
      have HE := Lib.hid her
      have g2 : (er != 0) = true := by simp [he]
      have g3 : ¬ er = 0 := he
      have hbz := Below.refl w1.heap.size w1
      clear her he
      go_wp2_with (first
        | (go_at_call 12; with_reducible refine (refCheckG_any A n c l _ (HR.out.below (below_self hb1 hbz)) HN.out).mono ?_; rintro e w3 ⟨rfl, h9⟩; replace hbz := below_self hbz h9; clear h9; rw [HE.out])
        | (go_at_call 10; with_reducible refine (awakeT_any _).mono ?_; rintro e w3 ⟨rfl, h9⟩; replace hbz := below_self hbz h9; clear h9)
        | fail)
      go_ret
      have hfin := hbz
      exact ⟨rfl, below_self hb1 hfin⟩
end Go.Proofs.Ytfobhnpmaooalaa
