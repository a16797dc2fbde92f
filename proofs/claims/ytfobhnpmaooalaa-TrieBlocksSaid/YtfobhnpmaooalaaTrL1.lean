/- naskhlaw06: tables that no call made; awake; TrieNobody. -/
import Derived.Test.YtfobhnpmaooalaaTrT
namespace Go.Proofs.Ytfobhnpmaooalaa
open Go.RowKit

set_option maxRecDepth 100000 in
theorem prBlocks_any (b nb : Nat) (l : List Rg) (z : Int) (w : World) (hT : TabAt w b l z nb) :
    Calls Try.prog 18 #[.pointer (some ⟨b, 0, none⟩)] w fun e w' => e = .returned (.int .i64 (nb : Nat)) ∧ Below w.heap.size w w' := by
  have HT := Lib.hid hT
  obtain ⟨cs, bl, wh, g, cap, h1, h2, h3, h4, h5, h6, h7, h8, rfl⟩ := hT
  have e1 := h1.cell h3
  clear h1 h2 h3 h4 h5 h6 h7
  go_enter Try.func18, Try.ntmps18
  go_wp2_with fail
  refine (prMade_any b bl.length l z w HT.out).mono ?_
  rintro e w1 ⟨rfl, rfl⟩
  go_wp2
  go_ret
  exact ⟨rfl, Below.refl _ _⟩
/-- What no call made: a pointer that is nil, or leads to a table's zero. -/
def NoTab (w : World) (p : Value) : Prop := p = .pointer none ∨ ∃ b, p = .pointer (some ⟨b, 0, none⟩) ∧ w.cell? ⟨b, 8704, none⟩ = some (.slice none 0 0)
theorem prMade_no {w : World} {p : Value} (h : NoTab w p) : Calls Try.prog 42 #[p] w fun e w' => e = .returned (.bool false) ∧ w = w' := by
  rcases h with rfl | ⟨b, rfl, h⟩
  · exact prMade_nil w
  · exact prMade_zero b w h
theorem prGet_no {w : World} {p : Value} (h : NoTab w p) (c : Int) : Calls Try.prog 20 #[p, .int .i64 c] w fun e w' => e = .returned (.int .i64 0) ∧ w = w' := by
  have H := Lib.hid h
  clear h
  go_enter Try.func20, Try.ntmps20
  go_wp2_with fail
  refine (prMade_no H.out).mono ?_
  rintro e w1 ⟨rfl, rfl⟩
  go_wp2
  go_ret
  exact ⟨rfl, rfl⟩
theorem prBlocks_no {w : World} {p : Value} (h : NoTab w p) : Calls Try.prog 18 #[p] w fun e w' => e = .returned (.int .i64 0) ∧ w = w' := by
  have H := Lib.hid h
  clear h
  go_enter Try.func18, Try.ntmps18
  go_wp2_with fail
  refine (prMade_no H.out).mono ?_
  rintro e w1 ⟨rfl, rfl⟩
  go_wp2
  go_ret
  exact ⟨rfl, rfl⟩
theorem prRanges_no {w : World} {p : Value} (h : NoTab w p) : Calls Try.prog 14 #[p] w fun e w' => e = .returned (.slice none 0 0) ∧ w = w' := by
  have H := Lib.hid h
  clear h
  go_enter Try.func14, Try.ntmps14
  go_wp2_with fail
  refine (prMade_no H.out).mono ?_
  rintro e w1 ⟨rfl, rfl⟩
  go_wp2
  go_ret
  exact ⟨rfl, rfl⟩
theorem prCount_no {w : World} {p : Value} (h : NoTab w p) (c : Int) : Calls Try.prog 16 #[p, .int .i64 c] w fun e w' => e = .returned (.int .i64 0) ∧ w = w' := by
  have H := Lib.hid h
  clear h
  go_enter Try.func16, Try.ntmps16
  go_wp2_with fail
  refine (prMade_no H.out).mono ?_
  rintro e w1 ⟨rfl, rfl⟩
  go_wp2
  go_ret
  exact ⟨rfl, rfl⟩

/-- The one range that awake lays. -/
def lA : List Rg := [(5, 6, 9)]
theorem blkA (j : Nat) (hj : 1 ≤ j) : blkAt lA 1 j = blkAt lA 1 1 := by
  apply List.ext_getElem?
  intro t
  by_cases ht : t < 128
  · rw [blkAt_at _ _ _ _ ht, blkAt_at _ _ _ _ ht]
    simp only [lA, getG]
    rw [if_neg (by omega), if_neg (by omega)]
  · rw [List.getElem?_eq_none (by rw [blkAt_len]; omega), List.getElem?_eq_none (by rw [blkAt_len]; omega)]
theorem blkA_ne : blkAt lA 1 0 ≠ blkAt lA 1 1 := by
  intro h
  have := congrArg (fun l => l[5]?) h
  simp only [blkAt_at _ _ _ 5 (by omega)] at this
  revert this
  decide
theorem twoA {bl : List (List Int)} {wh : List Nat} (h : StInv lA 1 8704 bl wh) : bl.length = 2 := by
  obtain ⟨q0, _, h0⟩ := h.at_ 0 (by omega)
  obtain ⟨q1, _, h1⟩ := h.at_ 1 (by omega)
  have hq : q0 ≠ q1 := fun e => blkA_ne (by subst e; exact Option.some.inj (h0.symm.trans h1))
  have l0 := (List.getElem?_eq_some_iff.1 h0).1
  have l1 := (List.getElem?_eq_some_iff.1 h1).1
  have hr : ∀ b ∈ bl, b = blkAt lA 1 0 ∨ b = blkAt lA 1 1 := fun b hb => by
    obtain ⟨j, _, rfl⟩ := h.real b hb
    rcases Nat.eq_zero_or_pos j with rfl | hj
    · exact .inl rfl
    · exact .inr (blkA j hj)
  have hn := h.nodup
  rcases bl with _ | ⟨a, _ | ⟨b, _ | ⟨c, r⟩⟩⟩
  · simp at l0
  · simp at l0 l1; omega
  · rfl
  · exfalso
    simp only [List.nodup_cons, List.mem_cons, not_or] at hn
    have ha := hr a (by simp)
    have hb := hr b (by simp)
    have hc := hr c (by simp)
    rcases ha with rfl | rfl <;> rcases hb with rfl | rfl <;> rcases hc with rfl | rfl <;> simp at hn
set_option maxRecDepth 100000 in
set_option maxHeartbeats 1000000 in
theorem awakeT_any (w : World) : Calls Try.prog 10 #[] w fun e w' => e = .returned (.bool true) ∧ Below w.heap.size w w' := by
  have hr := rd_blk (w := w.alloc (.cells #[.int .i64 5, .int .i64 6, .int .i64 9] 31)) (m := 1) (cs := cellsG lA) 3 (heap_alloc_new w _) rfl
  have HR := Lib.hid hr
  have hb0 := below_new w (.cells #[.int .i64 5, .int .i64 6, .int .i64 9] 31)
  have HRI := Lib.hid (show riseB (-1) lA = true by decide)
  have HG6 := Lib.hid (show getG lA 1 6 = 9 by decide)
  have HG7 := Lib.hid (show getG lA 1 7 = 1 by decide)
  clear hr
  go_enter Try.func10, Try.ntmps10
  go_wp2_with fail
  refine (prBuild_any (some ⟨w.heap.size, 0, none⟩) 1 1 1 lA _ HR.out (by unfold maxLen; omega) (Nat.le_refl _) (by unfold FitI; omega) (by intro s hs; simp [lA] at hs; subst hs; unfold FitI; simp only; omega)).mono ?_
  rintro e w1 ⟨⟨_, b, nb, rfl, hT⟩ | ⟨h, _⟩, hb⟩
  · have hnb : nb = 2 := by
      obtain ⟨cs, bl, wh, g, cap, h1, h2, h3, h4, h5, h6, h7, h8, rfl⟩ := hT
      exact twoA h6
    subst hnb
    have HT := Lib.hid hT
    have hb1 := below_self hb0 hb
    clear hT hb hb0
    have hbz := Below.refl w1.heap.size w1
    go_wp2_with (first
      | (go_at_call 20; with_reducible refine (prGet_any b 2 lA 1 6 _ (HT.out.below hbz) HRI.out).mono ?_; rintro e w3 ⟨rfl, h9⟩; replace hbz := below_self hbz h9; clear h9; rw [HG6.out])
      | (go_at_call 20; with_reducible refine (prGet_any b 2 lA 1 7 _ (HT.out.below hbz) HRI.out).mono ?_; rintro e w3 ⟨rfl, h9⟩; replace hbz := below_self hbz h9; clear h9; rw [HG7.out])
      | (go_at_call 18; with_reducible refine (prBlocks_any b 2 lA 1 _ (HT.out.below hbz)).mono ?_; rintro e w3 ⟨rfl, h9⟩; replace hbz := below_self hbz h9; clear h9)
      | fail)
    go_ret
    exact ⟨rfl, below_self hb1 hbz⟩
  · exact absurd (by decide) h

set_option maxRecDepth 100000 in
theorem tabZero : ∃ Z : Array Value, Z[8704]? = some (.slice none 0 0) ∧ ∀ w, (zeroValue 63).run Try.prog w = .ok (.agg Z) w := by
  have h : (((Try.t63.zero.getD (.bool false)).cells)[8704]?) = some (.slice none 0 0) := by kernel_rfl
  have hi : (Try.prog.info? 63).map (fun i => (i.zero, i.size)) = some (some (.agg ((Try.t63.zero.getD (.bool false)).cells)), 8706) := by kernel_rfl
  exact ⟨_, h, (zero_of_info hi).1⟩
end Go.Proofs.Ytfobhnpmaooalaa
