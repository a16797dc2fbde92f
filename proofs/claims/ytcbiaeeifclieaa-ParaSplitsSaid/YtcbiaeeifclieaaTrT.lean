/- A table in memory: Build, made, value, Get. -/
import Derived.Test.YtcbiaeeifclieaaTrN
namespace Go.Proofs.Ytcbiaeeifclieaa
open Go.RowKit

/-- Block b is a table of the ranges l, with z for all else; it keeps nb blocks. -/
def TabAt (w : World) (b : Nat) (l : List Rg) (z : Int) (nb : Nat) : Prop := ∃ (cs : Array Value) (bl : List (List Int)) (wh : List Nat) (g cap : Nat),
  CellBlk w b cs ∧ cs.size = 8706 ∧ cs[8704]? = some (.slice (some ⟨g, 0, none⟩) bl.length cap) ∧ cs[8705]? = some (.int .i64 z) ∧ (∀ j q : Nat, wh[j]? = some q → cs[j]? = some (.int .u16 q)) ∧ StInv l z 8704 bl wh ∧
  Rd w 128 (some ⟨g, 0, none⟩) bl.length (cellsK bl) ∧ bl.length ≤ cap ∧ nb = bl.length
theorem TabAt.below {w w' : World} {b nb : Nat} {l : List Rg} {z : Int} (h : TabAt w b l z nb) (hb : Below w.heap.size w w') : TabAt w' b l z nb := by
  obtain ⟨cs, bl, wh, g, cap, h1, h2, h3, h4, h5, h6, h7, h8, h9⟩ := h
  exact ⟨cs, bl, wh, g, cap, h1.below hb, h2, h3, h4, h5, h6, h7.below hb, h8, h9⟩
theorem StInv.some_ {l : List Rg} {z : Int} {bl : List (List Int)} {wh : List Nat} (h : StInv l z 8704 bl wh) : 0 < bl.length := by
  obtain ⟨q, _, hq⟩ := h.at_ 0 (by omega)
  have := (List.getElem?_eq_some_iff.1 hq).1
  omega
def BuildPost (w : World) (l : List Rg) (z : Int) (e : Ending) (w' : World) : Prop :=
  ((errG l = 0 ∧ ∃ b nb, e = .returned (.tuple #[.pointer (some ⟨b, 0, none⟩), .int .i64 0]) ∧ TabAt w' b l z nb) ∨ (errG l ≠ 0 ∧ e = .returned (.tuple #[.pointer none, .int .i64 (errG l)]))) ∧ Below w.heap.size w w'
set_option maxRecDepth 100000 in
set_option maxHeartbeats 1000000 in
theorem prBuild_any (A : Option Addr) (n c : Nat) (z : Int) (l : List Rg) (w : World) (hr : Rd w 3 A n (cellsG l)) (hn : n ≤ maxLen) (hnc : n ≤ c) (hfz : FitI z) (hfl : ∀ s ∈ l, FitI s.2.2) :
    Calls Try.prog 77 #[.slice A n c, .int .i64 z] w (BuildPost w l z) := by
  have HL := Lib.hid hr.lenG
  have HR := Lib.hid hr
  have HN := Lib.hid hn
  have HFL := Lib.hid hfl
  clear hr hfl
  unfold maxLen at hn
  by_cases hbig : 4096 < n
  · have HF := Lib.hid (show errG l = 6 by unfold errG; rw [HL.out]; exact if_pos hbig)
    go_enter Try.func77, Try.ntmps77
    go_wp2
    go_ret2
    exact ⟨.inr ⟨by rw [HF.out]; decide, by rw [HF.out]; rfl⟩, Below.refl _ _⟩
  · have HE := Lib.hid (show errG l = if riseB (-1) l = true then 0 else 10 by unfold errG; rw [HL.out]; exact if_neg hbig)
    have hsm : n ≤ 4096 := by omega
    clear hbig
    go_enter Try.func77, Try.ntmps77
    go_wp2_with fail
    refine (prRise_any A n c l w HR.out HN.out).mono ?_
    rintro e w1 ⟨rfl, hb1⟩
    cases hrise : riseB (-1) l with
    | false =>
      have HF := Lib.hid (show errG l = 10 by rw [HE.out, hrise]; rfl)
      clear hrise
      go_wp2
      go_ret2
      exact ⟨.inr ⟨by rw [HF.out]; decide, by rw [HF.out]; rfl⟩, hb1⟩
    | true =>
      have HF := Lib.hid (show errG l = 0 by rw [HE.out, hrise]; rfl)
      have HRI := Lib.hid hrise
      clear hrise
      go_wp2_with fail
      refine (prStages_any A n c z l w1 (HR.out.below hb1) HN.out hnc HRI.out hfz HFL.out).mono ?_
      rintro e w2 ⟨cs, bl, wh, rfl, hinv, hb2, v, hsc, hown⟩
      obtain ⟨g, cap, rfl, hcap⟩ := own_some hown hinv.some_
      have HBT := Lib.hid (tabBuilt cs hsc.size)
      have hb3 := below_self hb1 hb2
      have hb4 := hb3.alloc hb3.size (.cells cs 140)
      have HT : Hid (TabAt (w2.alloc (.cells cs 140)) w2.heap.size l z bl.length) := Lib.hid ⟨cs, bl, wh, g, cap, ⟨_, heap_alloc_new w2 _⟩, hsc.size, hsc.blocks, hsc.none_, hsc.which, hinv, (Rd.of_own hown).alloc _, hcap, rfl⟩
      clear hinv hb2 hsc hown hb3
      go_wp2_with (first
        | ((with_reducible refine wpList_buildTo rfl 140 #[(0, .tmp 16)] rfl (some 17) rfl cs ?_ ?_); (rw [Array.toList_map]; exact HBT.out))
        | fail)
      go_ret2
      exact ⟨.inl ⟨HF.out, _, _, rfl, HT.out⟩, hb4⟩

set_option maxRecDepth 100000 in
theorem prMade_any (b nb : Nat) (l : List Rg) (z : Int) (w : World) (hT : TabAt w b l z nb) :
    Calls Try.prog 111 #[.pointer (some ⟨b, 0, none⟩)] w fun e w' => e = .returned (.bool true) ∧ w = w' := by
  obtain ⟨cs, bl, wh, g, cap, h1, h2, h3, h4, h5, h6, h7, h8, h9⟩ := hT
  have e1 := h1.cell h3
  have hp := h6.some_
  clear h1 h2 h3 h4 h5 h6 h7 h9
  go_enter Try.func111, Try.ntmps111
  go_wp2
  go_ret
  exact ⟨rfl, rfl⟩
theorem prMade_nil (w : World) : Calls Try.prog 111 #[.pointer none] w fun e w' => e = .returned (.bool false) ∧ w = w' := by
  go_enter Try.func111, Try.ntmps111
  go_wp2
  go_ret
  exact ⟨rfl, rfl⟩
theorem prMade_zero (b : Nat) (w : World) (h : w.cell? ⟨b, 8704, none⟩ = some (.slice none 0 0)) : Calls Try.prog 111 #[.pointer (some ⟨b, 0, none⟩)] w fun e w' => e = .returned (.bool false) ∧ w = w' := by
  go_enter Try.func111, Try.ntmps111
  go_wp2
  go_ret
  exact ⟨rfl, rfl⟩
/-- Where a code's value stands. -/
theorem TabAt.place {w : World} {b nb : Nat} {l : List Rg} {z c : Int} (h : TabAt w b l z nb) (h0 : 0 ≤ c) (h1 : c ≤ 1114111) : ∃ (j t q g cap n : Nat), c.tdiv 128 = (j : Int) ∧ c.tmod 128 = (t : Int) ∧ j < 8704 ∧ t < 128 ∧ q < n ∧ n ≤ cap ∧
    w.cell? ⟨b, 8704, none⟩ = some (.slice (some ⟨g, 0, none⟩) n cap) ∧ w.cell? ⟨b, j, none⟩ = some (.int .u16 q) ∧ w.cell? ⟨g, q * 128 + t, none⟩ = some (.int .i64 (getG l z c)) := by
  obtain ⟨cs, bl, wh, g, cap, h1', h2, h3, h4, h5, h6, h7, h8, h9⟩ := h
  have hd : c.tdiv 128 = c / 128 := Int.tdiv_eq_ediv_of_nonneg h0
  have hm : c.tmod 128 = c % 128 := Int.tmod_eq_emod_of_nonneg h0
  obtain ⟨j, hj⟩ : ∃ j : Nat, c / 128 = j := ⟨(c / 128).toNat, by omega⟩
  obtain ⟨t, ht⟩ : ∃ t : Nat, c % 128 = t := ⟨(c % 128).toNat, by omega⟩
  obtain ⟨q, hq1, hq2⟩ := h6.at_ j (by omega)
  have hlens : ∀ x ∈ bl, x.length = 128 := fun x hx => by
    obtain ⟨j, _, rfl⟩ := h6.real x hx
    exact blkAt_len _ _ _
  refine ⟨j, t, q, g, cap, bl.length, hd.trans hj, hm.trans ht, by omega, by omega, (List.getElem?_eq_some_iff.1 hq2).1, h8, h1'.cell h3, h1'.cell (h5 j q hq1), ?_⟩
  obtain ⟨ad, e, _, hc⟩ := h7.2 h6.some_
  injection e with e
  subst e
  have := hc (q * 128 + t) (.int .i64 (getG l z c)) (by
    rw [cellsK_at hlens hq2 (by omega), blkAt_at _ _ _ _ (by omega)]
    simp only [Option.map_some]
    congr 3
    omega)
  rwa [addNew] at this
set_option maxRecDepth 100000 in
set_option maxHeartbeats 1000000 in
theorem prValue_any (b nb : Nat) (l : List Rg) (z c : Int) (w : World) (hT : TabAt w b l z nb) (h0 : 0 ≤ c) (h1 : c ≤ 1114111) :
    Calls Try.prog 112 #[.pointer (some ⟨b, 0, none⟩), .int .i64 c] w fun e w' => e = .returned (.int .i64 (getG l z c)) ∧ Below w.heap.size w w' := by
  obtain ⟨j, t, q, g, cap, n, hd, hm, hj, ht, hq, hn, e1, e2, e3⟩ := hT.place h0 h1
  obtain ⟨v, hv⟩ : ∃ v, getG l z c = v := ⟨_, rfl⟩
  rw [hv] at e3 ⊢
  clear hv hT
  go_enter Try.func112, Try.ntmps112
  go_wp2
  go_quiet (fail)
  go_wp2
  go_ret
  exact ⟨rfl, drewBelow _⟩
theorem getG_none {l : List Rg} {z c : Int} (hl : ∀ s ∈ l, -1 < s.1 ∧ s.2.1 ≤ 1114111) (h : c < 0 ∨ 1114111 < c) : getG l z c = z := by
  induction l with
  | nil => rfl
  | cons s l ih =>
    have := hl s (by simp)
    rw [getG, if_neg (by omega)]
    exact ih fun t ht => hl t (by simp [ht])
set_option maxRecDepth 100000 in
set_option maxHeartbeats 1000000 in
theorem prGet_any (b nb : Nat) (l : List Rg) (z c : Int) (w : World) (hT : TabAt w b l z nb) (hl : riseB (-1) l = true) :
    Calls Try.prog 105 #[.pointer (some ⟨b, 0, none⟩), .int .i64 c] w fun e w' => e = .returned (.int .i64 (getG l z c)) ∧ Below w.heap.size w w' := by
  have HT := Lib.hid hT
  have hz : w.cell? ⟨b, 8705, none⟩ = some (.int .i64 z) := by
    obtain ⟨cs, bl, wh, g, cap, h1, h2, h3, h4, _⟩ := hT
    exact h1.cell h4
  have HG := Lib.hid (fun h => getG_none (z := z) (c := c) (srt_of_rise hl).2 h)
  clear hT hl
  have hc : c < 0 ∨ (0 ≤ c ∧ 1114111 < c) ∨ (0 ≤ c ∧ c ≤ 1114111) := by omega
  go_enter Try.func105, Try.ntmps105
  go_wp2_with fail
  refine (prMade_any b nb l z w HT.out).mono ?_
  rintro e w1 ⟨rfl, rfl⟩
  rcases hc with h | ⟨h, h'⟩ | ⟨h, h'⟩
  · have HF := Lib.hid (HG.out (.inl h))
    go_wp2
    go_ret
    exact ⟨retI HF.out.symm, Below.refl _ _⟩
  · have HF := Lib.hid (HG.out (.inr h'))
    go_wp2
    go_ret
    exact ⟨retI HF.out.symm, Below.refl _ _⟩
  · go_wp2_with fail
    refine (prValue_any b nb l z c _ HT.out h h').mono ?_
    rintro e w2 ⟨rfl, hb⟩
    go_wp2
    go_ret
    exact ⟨rfl, hb⟩
end Go.Proofs.Ytcbiaeeifclieaa
