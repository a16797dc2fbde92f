/- naskhlaw06: TrieAgain. -/
import Derived.Test.YtfobhnpmaooalaaTrL3
namespace Go.Proofs.Ytfobhnpmaooalaa
open Go.RowKit

theorem tab_same {w w' : World} {b b' nb nb' : Nat} {l l' : List Rg} {z : Int} (h : TabAt w b l z nb) (h' : TabAt w' b' l' z nb') (hv : ∀ c, getG l z c = getG l' z c) : nb = nb' := by
  obtain ⟨_, bl, _, _, _, _, _, _, _, _, i1, _, _, rfl⟩ := h
  obtain ⟨_, bl', _, _, _, _, _, _, _, _, i2, _, _, rfl⟩ := h'
  exact i1.same i2 hv
theorem err_of {l : List Rg} (h : riseB (-1) l = true) (hl : l.length ≤ 4096) : errG l = 0 := by
  unfold errG
  rw [if_neg (by omega), if_pos h]
set_option maxRecDepth 100000 in
set_option maxHeartbeats 4000000 in
theorem trieAgain_any (A : Option Addr) (n c : Nat) (l : List Rg) (z : Int) (B : Option Addr) (m d : Nat) (codes : List Int) (w : World) (hr : Rd w 3 A n (cellsG l)) (hn : n ≤ maxLen) (hnc : n ≤ c)
    (hs : Rd w 1 B m (codes.map (Value.int .i64))) (hfz : FitI z) (hfl : ∀ s ∈ l, FitI s.2.2) :
    Calls Try.prog 5 #[.slice A n c, .int .i64 z, .slice B m d] w fun e w' => e = .returned (.bool true) ∧ Below w.heap.size w w' := by
  have HR := Lib.hid hr
  have HL := Lib.hid hr.lenG
  have HN := Lib.hid hn
  have HFL := Lib.hid hfl
  have HFZ := Lib.hid hfz
  have HS := Lib.hid hs
  have hcl : codes.length = m := by simpa using hs.len1
  have HCL := Lib.hid hcl
  clear hr hfl hfz hs hcl
  unfold maxLen at hn
  have hcase : 300 < n ∨ (n ≤ 300 ∧ 500 < m) ∨ (n ≤ 300 ∧ m ≤ 500) := by omega
  rcases hcase with h3 | ⟨h3, h5⟩ | ⟨h3, h5⟩
  · go_enter Try.func5, Try.ntmps5
    go_wp2_with fail
    refine (awakeT_any _).mono ?_
    rintro e w1 ⟨rfl, hb⟩
    go_wp2
    go_ret
    exact ⟨rfl, hb⟩
  · go_enter Try.func5, Try.ntmps5
    go_wp2_with fail
    refine (awakeT_any _).mono ?_
    rintro e w1 ⟨rfl, hb⟩
    go_wp2
    go_ret
    exact ⟨rfl, hb⟩
  · go_enter Try.func5, Try.ntmps5
    go_wp2_with fail
    refine (prBuild_any A n c z l w HR.out HN.out hnc HFZ.out HFL.out).mono ?_
    rintro e w1 ⟨hp, hb1⟩
    rcases hp with ⟨he, b, nb, rfl, hT⟩ | ⟨he, rfl⟩
    · have HT := Lib.hid hT
      have HRI := Lib.hid (rise_of_err' he)
      obtain ⟨q1, q2, q3, q4⟩ := refRows_again (z := z) HRI.out
      rw [HL.out] at q3
      have HP1 := Lib.hid (prRanges_any b nb l z w1 HT.out HRI.out)
      obtain ⟨R, hR⟩ : ∃ R, refRows l z = R := ⟨_, rfl⟩
      obtain ⟨rn, hrn⟩ : ∃ rn, R.length = rn := ⟨_, rfl⟩
      rw [hR] at q1 q2 q3 q4 HP1
      have HFR := Lib.hid (show ∀ s ∈ R, FitI s.2.2 from fun s hs => by
        obtain ⟨t, ht, e⟩ := q4 s hs
        rw [← e]
        exact HFL.out t ht)
      have HQ1 := Lib.hid (fun c => (q1 c).symm)
      have HQ2 := Lib.hid q2
      have HER := Lib.hid (err_of q2 (by omega))
      rw [hrn] at HP1 q3
      clear hT he hR hrn q1 q2 q4
      go_wp2_with fail
      refine HP1.out.mono ?_
      rintro e w2 ⟨⟨v1, rfl, ho1⟩, hb⟩
      replace hb1 := below_self hb1 hb
      have HT2 := Lib.hid (HT.out.below hb)
      obtain ⟨A1, c1, rfl, hr1, hc1⟩ := own_rd ho1
      have HR1 := Lib.hid hr1
      clear hb hr1 ho1 HP1 HT
      go_wp2_with fail
      refine (prBuild_any A1 rn c1 z R w2 HR1.out (by unfold maxLen; omega) hc1 HFZ.out HFR.out).mono ?_
      rintro e w3 ⟨hp, hb⟩
      rcases hp with ⟨_, b2, nb2, rfl, hT2⟩ | ⟨he, rfl⟩
      · have HT3 := Lib.hid (HT2.out.below hb)
        have HU3 := Lib.hid hT2
        obtain rfl := tab_same HT3.out HU3.out HQ1.out
        replace hb1 := below_self hb1 hb
        have hbz := Below.refl w3.heap.size w3
        clear hb hT2 HT2 HR1
        go_wp2_with (first
          | (go_at_call 18; with_reducible refine (prBlocks_any b2 nb R z _ (HU3.out.below hbz)).mono ?_; rintro e w7 ⟨rfl, h9⟩; replace hbz := below_self hbz h9; clear h9)
          | (go_at_call 18; with_reducible refine (prBlocks_any b nb l z _ (HT3.out.below hbz)).mono ?_; rintro e w7 ⟨rfl, h9⟩; replace hbz := below_self hbz h9; clear h9)
          | fail)
        go_loopw [49] (fun i wr => ∃ k : Nat, k ≤ m ∧ i = .int .i64 k ∧ Below w3.heap.size w3 wr) (fun i _ => m - (intOf i).toNat)
        case atStart => exact ⟨0, Nat.zero_le _, rfl, hbz⟩
        case round =>
          clear hbz
          obtain ⟨k, hk, rfl, hbz⟩ := hrel
          by_cases hlt : k < m
          · obtain ⟨x, hxk⟩ : ∃ x, codes[k]? = some x := ⟨_, List.getElem?_eq_getElem (by rw [HCL.out]; exact hlt)⟩
            obtain ⟨ad, rfl, _, hcx⟩ := (HS.out.below (below_self hb1 hbz)).at_ hlt
            have cx : wr.cell? (ad.add k) = some (.int .i64 x) := hcx _ (by rw [List.getElem?_map, hxk]; rfl)
            obtain ⟨y, hy⟩ : ∃ y, getG l z x = y := ⟨_, rfl⟩
            have HY := Lib.hid hy
            have HY2 := Lib.hid ((HQ1.out x).symm.trans hy)
            clear hxk hcx hy
            go_wp2_with (first
              | (go_at_call 20; with_reducible refine (prGet_any b nb l z x _ (HT3.out.below hbz) HRI.out).mono ?_; rintro e w7 ⟨rfl, h9⟩; replace hbz := below_self hbz h9; clear h9; rw [HY.out])
              | (go_at_call 20; with_reducible refine (prGet_any b2 nb R z x _ (HU3.out.below hbz) HQ2.out).mono ?_; rintro e w7 ⟨rfl, h9⟩; replace hbz := below_self hbz h9; clear h9; rw [HY2.out])
              | fail)
            go_roundw
            case rel => exact ⟨k + 1, by omega, by go_num, hbz⟩
            case measure => simp [intOf]; omega
          · go_wp2_with (first
              | (go_at_call 10; with_reducible refine (awakeT_any _).mono ?_; rintro e w7 ⟨rfl, h9⟩; replace hbz := below_self hbz h9; clear h9)
              | fail)
            go_ret
            exact ⟨rfl, below_self hb1 hbz⟩
      · exact absurd HER.out he
    · obtain ⟨er, her⟩ : ∃ er, errG l = er := ⟨_, rfl⟩
      rw [her] at he ⊢
      have HE := Lib.hid her
      have g2 : (er != 0) = true := by simp [he]
      have g3 : ¬ er = 0 := he
      clear her he
      go_wp2_with fail
      refine (awakeT_any _).mono ?_
      rintro e w2 ⟨rfl, hb⟩
      have hb2 := below_self hb1 hb
      go_wp2
      go_ret
      exact ⟨rfl, hb2⟩
end Go.Proofs.Ytfobhnpmaooalaa
