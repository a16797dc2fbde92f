/- naskhlaw06: TrieBlocks. -/
import Derived.Test.YtfobhnpmaooalaaTrB2
namespace Go.Proofs.Ytfobhnpmaooalaa
open Go.RowKit

theorem tab_seen {w : World} {b nb : Nat} {l : List Rg} {z : Int} (h : TabAt w b l z nb) : ∀ seen, SeenInv l z 8704 seen → seen.length = nb := by
  obtain ⟨_, bl, _, _, _, _, _, _, _, _, i1, _, _, rfl⟩ := h
  exact fun seen hs => hs.count rfl i1
set_option maxRecDepth 100000 in
set_option maxHeartbeats 4000000 in
theorem trieBlocks_any (A : Option Addr) (n c : Nat) (l : List Rg) (z : Int) (w : World) (hr : Rd w 3 A n (cellsG l)) (hn : n ≤ maxLen) (hnc : n ≤ c) (hfz : FitI z) (hfl : ∀ s ∈ l, FitI s.2.2) :
    Calls Try.prog 4 #[.slice A n c, .int .i64 z] w fun e w' => e = .returned (.bool true) ∧ Below w.heap.size w w' := by
  have HR := Lib.hid hr
  have HN := Lib.hid hn
  have HFL := Lib.hid hfl
  have HFZ := Lib.hid hfz
  clear hr hfl hfz
  unfold maxLen at hn
  by_cases h3 : 6 < n
  · go_enter Try.func4, Try.ntmps4
    go_wp2_with fail
    refine (awakeT_any _).mono ?_
    rintro e w1 ⟨rfl, hb⟩
    go_wp2
    go_ret
    exact ⟨rfl, hb⟩
  · go_enter Try.func4, Try.ntmps4
    go_wp2_with fail
    refine (prBuild_any A n c z l w HR.out HN.out hnc HFZ.out HFL.out).mono ?_
    rintro e w1 ⟨hp, hb1⟩
    rcases hp with ⟨he, b, nb, rfl, hT⟩ | ⟨he, rfl⟩
    · have HT := Lib.hid hT
      have HSN := Lib.hid (tab_seen hT)
      have hbz := Below.refl w1.heap.size w1
      clear hT he
      go_wp2_with (first
        | (go_at_call 18; with_reducible refine (prBlocks_any b nb l z _ (HT.out.below hbz)).mono ?_; rintro e w7 ⟨rfl, h9⟩; replace hbz := below_self hbz h9; clear h9)
        | (go_at_call 19; with_reducible refine (refBlocks_any A n c nb l z _ (HR.out.below (below_self hb1 hbz)) (by omega) HSN.out).mono ?_; rintro e w7 ⟨rfl, h9⟩; replace hbz := below_self hbz h9; clear h9)
        | (go_at_call 10; with_reducible refine (awakeT_any _).mono ?_; rintro e w7 ⟨rfl, h9⟩; replace hbz := below_self hbz h9; clear h9)
        | fail)
      go_ret
      have hfin := hbz
      exact ⟨rfl, below_self hb1 hfin⟩
    · obtain ⟨er, her⟩ : ∃ er, errG l = er := ⟨_, rfl⟩
      rw [her] at he ⊢
      have HE := Lib.hid her
      have g2 : (er != 0) = true := by simp [he]
      have g3 : ¬ er = 0 := he
      have hbz := Below.refl w1.heap.size w1
      clear her he
      go_wp2_with (first
        | (go_at_call 12; with_reducible refine (refCheckG_any A n c l _ (HR.out.below (below_self hb1 hbz)) HN.out).mono ?_; rintro e w3 ⟨rfl, h9⟩; replace hbz := below_self hbz h9; clear h9; rw [HE.out])
        | (go_at_call 10; with_reducible refine (awakeT_any _).mono ?_; rintro e w3 ⟨rfl, h9⟩; replace hbz := below_self hbz h9; clear h9)
        | fail)
      go_ret
      have hfin := hbz
      exact ⟨rfl, below_self hb1 hfin⟩
end Go.Proofs.Ytfobhnpmaooalaa
