/- Texts of one claim, one behind the other. -/
import Derived.Shelf.Abstract
import Derived.Test.YtdgomaoikeffhaaGreatMgAp1
import Derived.Test.YtdgomaoikeffhaaGreatMgAp2
import Derived.Test.YtdgomaoikeffhaaGreatMgAp7
import Derived.Test.YtdgomaoikeffhaaGreatMgAp8
/- What codes are, as data: class, joining, digit, mark, strong, control; a Props in memory. -/
namespace Go.Proofs.YtdgomaoikeffhaaGreat
open Go.RowKit

def digF (c : Int) : Int × Int := if 48 ≤ c ∧ c ≤ 57 then (c - 48, 1) else if 1632 ≤ c ∧ c ≤ 1641 then (c - 1632, 2) else if 1776 ≤ c ∧ c ≤ 1785 then (c - 1776, 3) else (0, 0)
theorem apart1 (c : Int) : (markF c && strongF c) = false := by
  unfold markF strongF ofF
  rw [Bool.eq_false_iff]
  intro h
  simp only [Bool.and_eq_true, decide_eq_true_eq, List.mem_cons, List.not_mem_nil, or_false] at h
  omega
def digL : List Int := [48, 49, 50, 51, 52, 53, 54, 55, 56, 57, 1632, 1633, 1634, 1635, 1636, 1637, 1638, 1639, 1640, 1641, 1776, 1777, 1778, 1779, 1780, 1781, 1782, 1783, 1784, 1785]
theorem digL_ctl : (digL.all fun c => !ctlF c) = true := by decide +kernel
theorem apart2 (c : Int) (h : 0 < (digF c).2) : ctlF c = false := by
  have hm : c ∈ digL := by
    unfold digF at h
    simp only [digL, List.mem_cons, List.not_mem_nil, or_false]
    split at h
    · omega
    · split at h
      · omega
      · split at h
        · omega
        · simp at h
  have := List.all_eq_true.1 digL_ctl c hm
  simpa using this
theorem bidi_rise : riseB (-1) bidiL = true := by decide +kernel
theorem join_rise : riseB (-1) joinL = true := by decide +kernel
theorem bidi_err : errG bidiL = 0 := by decide +kernel
theorem join_err : errG joinL = 0 := by decide +kernel
def fitPB (x : Int) : Bool := decide (-9223372036854775808 ≤ x ∧ x ≤ 9223372036854775807)
theorem bidi_fit : ∀ s ∈ bidiL, FitI s.2.2 := fun s hs => by
  have h := List.all_eq_true.1 (show (bidiL.all fun s => fitPB s.2.2) = true by decide +kernel) s hs
  unfold fitPB at h
  unfold FitI
  exact of_decide_eq_true h
theorem join_fit : ∀ s ∈ joinL, FitI s.2.2 := fun s hs => by
  have h := List.all_eq_true.1 (show (joinL.all fun s => fitPB s.2.2) = true by decide +kernel) s hs
  unfold fitPB at h
  unfold FitI
  exact of_decide_eq_true h

theorem TabAt.far {w : World} {b nb b0 : Nat} {l : List Rg} {z : Int} (h : TabAt w b l z nb) {p : Option Addr} (hp : w.cell? ⟨b0, 0, none⟩ = some (.pointer p)) (j : Nat) (u : Value) : TabAt (w.setCell ⟨b0, j, none⟩ u) b l z nb := by
  obtain ⟨cs, bl, wh, g, cap, h1, h2, h3, h4, h5, h6, h7, h8, h9⟩ := h
  obtain ⟨q, hq1, hq2⟩ := h6.at_ 0 (by omega)
  have hb : b ≠ b0 := by
    rintro rfl
    have := (h1.cell (h5 0 q hq1)).symm.trans hp
    cases this
  have hlens : ∀ x ∈ bl, x.length = 128 := fun x hx => by
    obtain ⟨j, _, rfl⟩ := h6.real x hx
    exact blkAt_len _ _ _
  have hg : g ≠ b0 := by
    rintro rfl
    obtain ⟨ad, e, _, hc⟩ := h7.2 h6.some_
    injection e with e
    subst e
    obtain ⟨b', hb'⟩ : ∃ b', bl[0]? = some b' := ⟨_, List.getElem?_eq_getElem h6.some_⟩
    have hl := hlens b' (List.mem_of_getElem? hb')
    obtain ⟨x, hx⟩ : ∃ x, b'[0]? = some x := ⟨_, List.getElem?_eq_getElem (by omega)⟩
    have := hc 0 (.int .i64 x) (by have := cellsK_at hlens hb' (j := 0) (by omega); rw [hx] at this; exact this)
    rw [addNew] at this
    have := this.symm.trans hp
    cases this
  refine ⟨cs, bl, wh, g, cap, h1.far hb j u, h2, h3, h4, h5, h6, ⟨h7.1, fun hn => ?_⟩, h8, h9⟩
  obtain ⟨ad, e, hlt, hc⟩ := h7.2 hn
  injection e with e
  subst e
  refine ⟨_, rfl, by simpa [World.setCell] using hlt, fun k v hk => ?_⟩
  rw [World.cell?_setCell_other (h := by rw [addNew]; simp [hg])]
  exact hc k v hk
/-- Block b is a Props that New made. -/
def PropAt (w : World) (b : Nat) : Prop := ∃ b1 b2 n1 n2 : Nat, w.cell? ⟨b, 0, none⟩ = some (.pointer (some ⟨b1, 0, none⟩)) ∧ w.cell? ⟨b, 1, none⟩ = some (.pointer (some ⟨b2, 0, none⟩)) ∧ TabAt w b1 bidiL 0 n1 ∧ TabAt w b2 joinL 0 n2
theorem PropAt.below {w w' : World} {b : Nat} (h : PropAt w b) (hb : Below w.heap.size w w') : PropAt w' b := by
  obtain ⟨b1, b2, n1, n2, h1, h2, h3, h4⟩ := h
  exact ⟨b1, b2, n1, n2, cell_below hb h1, cell_below hb h2, h3.below hb, h4.below hb⟩
set_option maxRecDepth 100000 in
set_option maxHeartbeats 1000000 in
theorem prKnown_of (lB lJ : List Rg) (nB nJ : Nat) (cB : ∀ w : World, Calls Tryz.prog 18 #[] w fun e w' => e = .returned (.slice (some ⟨w.heap.size, 0, none⟩) nB nB) ∧ w' = w.alloc (.cells (cellsG lB).toArray 77))
    (cJ : ∀ w : World, Calls Tryz.prog 19 #[] w fun e w' => e = .returned (.slice (some ⟨w.heap.size, 0, none⟩) nJ nJ) ∧ w' = w.alloc (.cells (cellsG lJ).toArray 77)) (hnB : lB.length = nB) (hnJ : lJ.length = nJ) (hB4 : nB ≤ 4096) (hJ4 : nJ ≤ 4096) (eB : errG lB = 0) (eJ : errG lJ = 0) (fB : ∀ s ∈ lB, FitI s.2.2) (fJ : ∀ s ∈ lJ, FitI s.2.2) (w : World) : Calls Tryz.prog 10 #[] w fun e w' => ∃ b1 b2 n1 n2 : Nat, e = .returned (.agg #[.pointer (some ⟨b1, 0, none⟩), .pointer (some ⟨b2, 0, none⟩)]) ∧ TabAt w' b1 lB 0 n1 ∧ TabAt w' b2 lJ 0 n2 ∧ Below w.heap.size w w' := by
  have hf0 : FitI 0 := by unfold FitI; omega
  have HB := Lib.hid eB
  have HJ := Lib.hid eJ
  have CB := Lib.hid cB
  have CJ := Lib.hid cJ
  have FB := Lib.hid fB
  have FJ := Lib.hid fJ
  have NB := Lib.hid hnB
  have NJ := Lib.hid hnJ
  clear cB cJ fB fJ hnB hnJ eB eJ
  go_enter Tryz.func10, Tryz.ntmps10
  go_wp2_with fail
  have hb0 := below_new w (.cells #[.pointer none, .pointer none] 36)
  have d0 : (w.alloc (.cells #[.pointer none, .pointer none] 36)).cell? ⟨w.heap.size, 0, none⟩ = some (.pointer none) := by rw [World.cell?_alloc_at _ _ _ _ rfl]; rfl
  have d1 : (w.alloc (.cells #[.pointer none, .pointer none] 36)).cell? ⟨w.heap.size, 1, none⟩ = some (.pointer none) := by rw [World.cell?_alloc_at _ _ _ _ rfl]; rfl
  have hnf : ∀ i, (w.alloc (.cells #[.pointer none, .pointer none] 36)).frozen? ⟨w.heap.size, i, none⟩ = false := fun i => by simp [go_sem]
  obtain ⟨W0, hW0⟩ : ∃ W0, (w.alloc (.cells #[.pointer none, .pointer none] 36)) = W0 := ⟨_, rfl⟩
  rw [hW0] at hb0 d0 d1 hnf ⊢
  clear hW0
  refine (CB.out _).mono ?_
  rintro e w1 ⟨rfl, hw1⟩
  have hr1 := rd_blk (w := w1) (b := W0.heap.size) (t := 77) 3 (cs := cellsG lB) (m := nB) (by rw [hw1]; exact heap_alloc_new _ _) (by rw [cellsG_len, NB.out])
  have hb1 : Below W0.heap.size W0 w1 := by rw [hw1]; exact below_new _ _
  clear hw1
  go_wp2_with fail
  refine (prBuild_any (some ⟨W0.heap.size, 0, none⟩) nB nB 0 lB w1 hr1 (by unfold maxLen; omega) (Nat.le_refl _) hf0 FB.out).mono ?_
  rintro e w2 ⟨⟨_, b1, n1, rfl, hT1⟩ | ⟨h, _⟩, hb2⟩
  · have hbb := below_self hb1 hb2
    clear hr1 hb1 hb2
    go_wp2_with fail
    refine (CJ.out _).mono ?_
    rintro e w3 ⟨rfl, hw3⟩
    have hr3 := rd_blk (w := w3) (b := w2.heap.size) (t := 77) 3 (cs := cellsG lJ) (m := nJ) (by rw [hw3]; exact heap_alloc_new _ _) (by rw [cellsG_len, NJ.out])
    have hb3 : Below w2.heap.size w2 w3 := by rw [hw3]; exact below_new _ _
    clear hw3
    go_wp2_with fail
    refine (prBuild_any (some ⟨w2.heap.size, 0, none⟩) nJ nJ 0 lJ w3 hr3 (by unfold maxLen; omega) (Nat.le_refl _) hf0 FJ.out).mono ?_
    rintro e w4 ⟨⟨_, b2, n2, rfl, hT2⟩ | ⟨h, _⟩, hb4⟩
    · have hbc := below_self hbb (below_self hb3 hb4)
      have HT1 := Lib.hid (hT1.below (below_self hb3 hb4))
      have HT2 := Lib.hid hT2
      clear hbb hr3 hb3 hb4 hT1 hT2
      have c0 := cell_below hbc d0
      have c1 := cell_below hbc d1
      have f0 := (hbc.frozen (cell_lt d0)).trans (hnf 0)
      have f1 := (hbc.frozen (cell_lt d1)).trans (hnf 1)
      have hbw := below_self hb0 hbc
      have HBW := Lib.hid hbw
      have hlt : w.heap.size < w4.heap.size := cell_lt c0
      clear d0 d1 hnf hb0 hbc hbw
      go_wp2
      (try simp only [Exit.inBlock, Exit.then])
      have T1 := (HT1.out.far c0 0 (.pointer (some ⟨b1, 0, none⟩))).far (World.cell?_setCell_same (h := c0) ..) 1 (.pointer (some ⟨b2, 0, none⟩))
      have T2 := (HT2.out.far c0 0 (.pointer (some ⟨b1, 0, none⟩))).far (World.cell?_setCell_same (h := c0) ..) 1 (.pointer (some ⟨b2, 0, none⟩))
      have BB := below_set (below_set HBW.out (Nat.le_refl _) 0 (.pointer (some ⟨b1, 0, none⟩))) (Nat.le_refl _) 1 (.pointer (some ⟨b2, 0, none⟩))
      refine bodyPost_ret (v := .agg #[.pointer (some ⟨b1, 0, none⟩), .pointer (some ⟨b2, 0, none⟩)]) ?_ rfl ⟨b1, b2, n1, n2, rfl, T1, T2, BB⟩
      have e0 := World.cell?_setCell_same (w := w4) (a := ⟨w.heap.size, 0, none⟩) (v := .pointer (some ⟨b1, 0, none⟩)) (h := c0)
      have e1 := World.cell?_setCell_same (w := w4.setCell ⟨w.heap.size, 0, none⟩ (.pointer (some ⟨b1, 0, none⟩))) (a := ⟨w.heap.size, 1, none⟩) (v := .pointer (some ⟨b2, 0, none⟩)) (h := (World.cell?_setCell_other (h := by simp) ..).trans c1)
      simp [results, Tryz.results10, go_sem, e0, e1]
    · exact absurd HJ.out h
  · exact absurd HB.out h
set_option maxRecDepth 100000 in
theorem prNew_of (lB lJ : List Rg) (hk : ∀ w : World, Calls Tryz.prog 10 #[] w fun e w' => ∃ b1 b2 n1 n2 : Nat, e = .returned (.agg #[.pointer (some ⟨b1, 0, none⟩), .pointer (some ⟨b2, 0, none⟩)]) ∧ TabAt w' b1 lB 0 n1 ∧ TabAt w' b2 lJ 0 n2 ∧ Below w.heap.size w w') (w : World) :
    Calls Tryz.prog 5 #[] w fun e w' => (∃ b b1 b2 n1 n2 : Nat, e = .returned (.pointer (some ⟨b, 0, none⟩)) ∧ w'.cell? ⟨b, 0, none⟩ = some (.pointer (some ⟨b1, 0, none⟩)) ∧ w'.cell? ⟨b, 1, none⟩ = some (.pointer (some ⟨b2, 0, none⟩)) ∧ TabAt w' b1 lB 0 n1 ∧ TabAt w' b2 lJ 0 n2) ∧ Below w.heap.size w w' := by
  go_enter Tryz.func5, Tryz.ntmps5
  go_wp2_with fail
  refine (hk _).mono ?_
  rintro e w1 ⟨b1, b2, n1, n2, rfl, h1, h2, hb⟩
  have H1 := Lib.hid (h1.below (below_new w1 (.cells #[.pointer (some ⟨b1, 0, none⟩), .pointer (some ⟨b2, 0, none⟩)] 39)))
  have H2 := Lib.hid (h2.below (below_new w1 (.cells #[.pointer (some ⟨b1, 0, none⟩), .pointer (some ⟨b2, 0, none⟩)] 39)))
  have hb2 := hb.alloc hb.size (.cells #[.pointer (some ⟨b1, 0, none⟩), .pointer (some ⟨b2, 0, none⟩)] 39)
  clear h1 h2
  go_wp2
  go_ret
  exact ⟨⟨_, b1, b2, n1, n2, rfl, by rw [World.cell?_alloc_at _ _ _ _ rfl]; rfl, by rw [World.cell?_alloc_at _ _ _ _ rfl]; rfl, H1.out, H2.out⟩, hb2⟩
theorem prNew_any (w : World) : Calls Tryz.prog 5 #[] w fun e w' => (∃ b, e = .returned (.pointer (some ⟨b, 0, none⟩)) ∧ PropAt w' b) ∧ Below w.heap.size w w' :=
  (prNew_of bidiL joinL (prKnown_of bidiL joinL 230 68 bidiRanges_any joinRanges_any rfl rfl (by decide) (by decide) bidi_err join_err bidi_fit join_fit) w).mono fun _ _ ⟨⟨b, b1, b2, n1, n2, he, c0, c1, h1, h2⟩, hb⟩ => ⟨⟨b, he, b1, b2, n1, n2, c0, c1, h1, h2⟩, hb⟩
end Go.Proofs.YtdgomaoikeffhaaGreat
/- What New made is made. -/
namespace Go.Proofs.YtdgomaoikeffhaaGreat
open Go.RowKit
theorem ppMade_any (b : Nat) (w : World) (h : PropAt w b) : Calls Tryz.prog 33 #[.pointer (some ⟨b, 0, none⟩)] w fun e w' => e = .returned (.bool true) ∧ w = w' := by
  obtain ⟨b1, b2, n1, n2, h1, _, _, _⟩ := h
  go_enter Tryz.func33, Tryz.ntmps33
  go_wp2
  go_ret
  exact ⟨rfl, rfl⟩
end Go.Proofs.YtdgomaoikeffhaaGreat
/- Class of a Props. -/
namespace Go.Proofs.YtdgomaoikeffhaaGreat
open Go.RowKit
/-- What no call made. -/
def NoProp (w : World) (p : Value) : Prop := p = .pointer none ∨ ∃ b, p = .pointer (some ⟨b, 0, none⟩) ∧ w.cell? ⟨b, 0, none⟩ = some (.pointer none)
theorem ppMade_no {w : World} {p : Value} (h : NoProp w p) : Calls Tryz.prog 33 #[p] w fun e w' => e = .returned (.bool false) ∧ w = w' := by
  rcases h with rfl | ⟨b, rfl, h⟩
  · go_enter Tryz.func33, Tryz.ntmps33
    go_wp2
    go_ret
    exact ⟨rfl, rfl⟩
  · go_enter Tryz.func33, Tryz.ntmps33
    go_wp2
    go_ret
    exact ⟨rfl, rfl⟩
set_option maxRecDepth 100000 in
theorem ppClass_of (lB : List Rg) (b b1 n1 : Nat) (c : Int) (w : World) (h1 : w.cell? ⟨b, 0, none⟩ = some (.pointer (some ⟨b1, 0, none⟩))) (hT : TabAt w b1 lB 0 n1) (hr : riseB (-1) lB = true) :
    Calls Tryz.prog 34 #[.pointer (some ⟨b, 0, none⟩), .int .i64 c] w fun e w' => e = .returned (.int .i64 (if 0 ≤ c ∧ c ≤ 1114111 then getG lB 0 c else 13)) ∧ Below w.heap.size w w' := by
  have HT := Lib.hid hT
  have HR := Lib.hid hr
  clear hT hr
  have hc : c < 0 ∨ (0 ≤ c ∧ 1114111 < c) ∨ (0 ≤ c ∧ c ≤ 1114111) := by omega
  rcases hc with h | ⟨h, h'⟩ | ⟨h, h'⟩
  · have HV := Lib.hid (show (if 0 ≤ c ∧ c ≤ 1114111 then getG lB 0 c else 13) = 13 from if_neg (by omega))
    go_enter Tryz.func34, Tryz.ntmps34
    go_wp2
    go_ret
    exact ⟨by first | rfl | exact retI HV.out.symm, Below.refl _ _⟩
  · have HV := Lib.hid (show (if 0 ≤ c ∧ c ≤ 1114111 then getG lB 0 c else 13) = 13 from if_neg (by omega))
    go_enter Tryz.func34, Tryz.ntmps34
    go_wp2
    go_ret
    exact ⟨by first | rfl | exact retI HV.out.symm, Below.refl _ _⟩
  · have HV := Lib.hid (show (if 0 ≤ c ∧ c ≤ 1114111 then getG lB 0 c else 13) = getG lB 0 c from if_pos ⟨h, h'⟩)
    go_enter Tryz.func34, Tryz.ntmps34
    go_wp2_with fail
    refine (prGet_any b1 n1 lB 0 c w HT.out HR.out).mono ?_
    rintro e w1 ⟨rfl, hb⟩
    go_wp2
    go_ret
    exact ⟨by first | rfl | exact retI HV.out.symm, hb⟩
/-- The inner calls, with what they tell as a letter. -/
theorem ppClass_gen (b : Nat) (c v : Int) (w : World) (hP : PropAt w b) (hk : ∀ w' : World, w' = w → Calls Tryz.prog 34 #[.pointer (some ⟨b, 0, none⟩), .int .i64 c] w' fun e w'' => e = .returned (.int .i64 v) ∧ Below w'.heap.size w' w'') :
    Calls Tryz.prog 21 #[.pointer (some ⟨b, 0, none⟩), .int .i64 c] w fun e w' => e = .returned (.int .i64 v) ∧ Below w.heap.size w w' := by
  have HP := Lib.hid hP
  have HK := Lib.hid hk
  clear hP hk
  go_enter Tryz.func21, Tryz.ntmps21
  go_wp2_with fail
  refine (ppMade_any b w HP.out).mono ?_
  rintro e w1 ⟨rfl, rfl⟩
  go_wp2_with fail
  refine (HK.out _ rfl).mono ?_
  rintro e w2 ⟨rfl, hb⟩
  go_wp2
  go_ret
  exact ⟨rfl, hb⟩
theorem ppClass_any (b : Nat) (c v : Int) (hv : classF c = v) (w : World) (hP : PropAt w b) :
    Calls Tryz.prog 21 #[.pointer (some ⟨b, 0, none⟩), .int .i64 c] w fun e w' => e = .returned (.int .i64 v) ∧ Below w.heap.size w w' :=
  ppClass_gen b c v w hP fun w' e => by
    subst e
    obtain ⟨b1, b2, n1, n2, h1, h2, h3, h4⟩ := hP
    have := ppClass_of bidiL b b1 n1 c w' h1 h3 bidi_rise
    rw [← hv]
    exact this
theorem ppClass_no {w : World} {p : Value} (h : NoProp w p) (c : Int) : Calls Tryz.prog 21 #[p, .int .i64 c] w fun e w' => e = .returned (.int .i64 13) ∧ w = w' := by
  have H := Lib.hid h
  clear h
  go_enter Tryz.func21, Tryz.ntmps21
  go_wp2_with fail
  refine (ppMade_no H.out).mono ?_
  rintro e w1 ⟨rfl, rfl⟩
  go_wp2
  go_ret
  exact ⟨rfl, rfl⟩
end Go.Proofs.YtdgomaoikeffhaaGreat
/- props.each at Class, and Classes, walked. -/
namespace Go.Proofs.YtdgomaoikeffhaaGreat
open Go.RowKit Go.Shelf

/-- A row as it is filled. -/
def fillI (ys : List Int) (k : Nat) : List Int := ys.take k ++ List.replicate (ys.length - k) 0
theorem fillI_set {ys : List Int} {k : Nat} {y : Int} (h : ys[k]? = some y) : (fillI ys k).set k y = fillI ys (k + 1) := by
  have hk := (List.getElem?_eq_some_iff.1 h).1
  unfold fillI
  obtain ⟨m, hm⟩ : ∃ m, ys.length - k = m + 1 := ⟨ys.length - k - 1, by omega⟩
  have hl : (ys.take k).length = k := by rw [List.length_take]; omega
  rw [hm, show ys.length - (k + 1) = m by omega, List.set_append, if_neg (by omega), hl, Nat.sub_self, List.replicate_succ, List.set_cons_zero, List.take_add_one, h]
  simp
theorem fillI_all (ys : List Int) : fillI ys ys.length = ys := by simp [fillI]
theorem egClass : ∀ args w, (callFunc 21 args).run Tryz.prog w = .ok (.enter 21 args) w := enters_of Tryz.func21 (by kernel_rfl) rfl
set_option maxRecDepth 100000 in
set_option maxHeartbeats 2000000 in
theorem pcEach_any (g : FuncId) (eg : ∀ args w, (callFunc g args).run Tryz.prog w = .ok (.enter g args) w) (b : Nat) (A : Option Addr) (n c : Nat) (xs : List Int) (w : World) (hP : PropAt w b) (hr : Rd w 1 A n (xs.map (Value.int .i64))) (hn : n ≤ 100000)
    (hcl : ∀ x W, PropAt W b → Calls Tryz.prog g #[.pointer (some ⟨b, 0, none⟩), .int .i64 x] W fun e W' => e = .returned (.int .i64 (classF x)) ∧ Below W.heap.size W W') :
    Calls Tryz.prog 20 #[.slice A n c, .func (.func g) #[.pointer (some ⟨b, 0, none⟩)] #[]] w fun e w' => e = .returned (.slice (some ⟨w.heap.size, 0, none⟩) n n) ∧ w'.ownsRow w.heap.size 3 1 (.slice (some ⟨w.heap.size, 0, none⟩) n n) n ((xs.map classF).map (Value.int .i64)) ∧ Below w.heap.size w w' := by
  have hlen : xs.length = n := by simpa using hr.len1
  have HL := Lib.hid hlen
  have HR := Lib.hid hr
  have HP := Lib.hid hP
  have HC := Lib.hid hcl
  obtain ⟨ys, hys⟩ : ∃ ys, xs.map classF = ys := ⟨_, rfl⟩
  have hyl : ys.length = n := by rw [← hys, List.length_map]; exact hlen
  have HYL := Lib.hid hyl
  have HYS := Lib.hid hys
  rw [hys]
  clear hlen hr hP hcl hys hyl
  obtain ⟨g0, hg0⟩ : ∃ g0, w.heap.size = g0 := ⟨_, rfl⟩
  go_enter Tryz.func20, Tryz.ntmps20
  go_wp2_with (first
    | (refine wpList_mkFull rfl _ _ _ rfl (base := w.heap.size) (e := 3) (bytes := 8) (z := .int .i64 0) Tryz.underlying22 (by kernel_rfl) rfl (n : Int) (n : Int) n rfl rfl rfl rfl (by omega) (by unfold maxLen; omega) (Nat.le_refl _) ?_; intro w1 hown1 hg1)
    | fail)
  have hb1 := below_make hg1
  rw [hg0] at hown1 hb1
  go_loopw [13] (fun i wr => ∃ k : Nat, k ≤ n ∧ i = .int .i64 (k : Int) ∧ wr.ownsRow g0 3 1 (.slice (some ⟨g0, 0, none⟩) n n) n ((fillI ys k).map (Value.int .i64)) ∧ Below g0 w wr) (fun i _ => n - (intOf i).toNat)
  case atStart => exact ⟨0, Nat.zero_le _, rfl, by simpa [fillI, HYL.out] using hown1, hb1⟩
  case round =>
    obtain ⟨k, hk, rfl, hown, hb⟩ := hrel
    have HO := Lib.hid hown
    have HB := Lib.hid hb
    clear hown hb hown1 hg1 hb1
    by_cases hlt : k < n
    · obtain ⟨x, hx⟩ : ∃ x, xs[k]? = some x := ⟨_, List.getElem?_eq_getElem (by rw [HL.out]; exact hlt)⟩
      have hbw : Below w.heap.size w wr := by rw [hg0]; exact HB.out
      obtain ⟨ad, rfl, _, hc⟩ := (HR.out.below hbw).at_ hlt
      have cx := hc (.int .i64 x) (by rw [List.getElem?_map, hx]; rfl)
      obtain ⟨y, hy⟩ : ∃ y, classF x = y := ⟨_, rfl⟩
      have HY : Hid (ys[k]? = some y) := Lib.hid (by rw [← HYS.out, List.getElem?_map, hx, ← hy]; rfl)
      have hcall := HC.out x wr (HP.out.below hbw)
      rw [hy] at hcall
      have hki : (k : Int) < (n : Int) := by omega
      have HSZ := Lib.hid (show g0 ≤ wr.heap.size by have := HB.out.size; omega)
      clear hx hy hc hbw
      go_wp2_with (go_at_fn g; refine hcall.mono ?_; rintro e w2 ⟨rfl, hb2⟩; have HO2 := Lib.hid (own_below HO.out hb2); have HB2 := Lib.hid (HB.out.trans (hb2.mono HSZ.out)); obtain ⟨⟨u, hu⟩, hfu⟩ := own_slot HO2.out (j := k) (by omega))
      have HS := Lib.hid (HO2.out.stored k (.int .i64 y)).1
      have HBS := Lib.hid (HB2.out.setCell (p := ⟨g0, k, none⟩) (Nat.le_refl _) (.int .i64 y))
      go_roundw
      case rel => exact ⟨k + 1, by omega, by go_num, by rw [← fillI_set HY.out, List.map_set]; exact HS.out, HBS.out⟩
      case measure => simp [intOf]; omega
    · obtain rfl : k = n := by omega
      go_wp2_with fail
      go_ret
      rw [hg0]
      exact ⟨rfl, by have := HO.out; rwa [show fillI ys k = ys by rw [← HYL.out]; exact fillI_all ys] at this, HB.out⟩
set_option maxRecDepth 100000 in
theorem pcClasses_any (b : Nat) (A : Option Addr) (n c : Nat) (xs : List Int) (w : World) (hP : PropAt w b) (hr : Rd w 1 A n (xs.map (Value.int .i64))) (hn : n ≤ 100000) :
    Calls Tryz.prog 11 #[.pointer (some ⟨b, 0, none⟩), .slice A n c] w fun e w' => e = .returned (.slice (some ⟨w.heap.size, 0, none⟩) n n) ∧ w'.ownsRow w.heap.size 3 1 (.slice (some ⟨w.heap.size, 0, none⟩) n n) n ((xs.map classF).map (Value.int .i64)) ∧ Below w.heap.size w w' := by
  have HE := Lib.hid (pcEach_any _ egClass b A n c xs w hP hr hn (fun x W h => ppClass_any b x _ rfl W h))
  clear hP hr
  go_enter Tryz.func11, Tryz.ntmps11
  go_wp2_with (first
    | (go_at_call 20; refine HE.out.mono ?_; rintro e w1 ⟨rfl, h1, h2⟩)
    | fail)
  go_ret
  exact ⟨rfl, h1, h2⟩
end Go.Proofs.YtdgomaoikeffhaaGreat
/- para's ends and Split, walked. -/
namespace Go.Proofs.YtdgomaoikeffhaaGreat
open Go.RowKit

theorem endB_val {xs : List Int} {k : Nat} {x : Int} (h : xs[k]? = some x) : endB xs k = (decide (classF x = 10) && !(decide (x = 13) && decide (xs[k + 1]? = some 10))) := by
  unfold endB
  rw [h]
  simp
set_option maxRecDepth 100000 in
set_option maxHeartbeats 1000000 in
theorem prEnds_any (b : Nat) (A : Option Addr) (n c k : Nat) (xs : List Int) (v : Bool) (hv : endB xs k = v) (w : World) (hP : PropAt w b) (hr : Rd w 1 A n (xs.map (Value.int .i64))) (hk : k < n) (hn : n ≤ 1000000) :
    Calls Tryz.prog 22 #[.pointer (some ⟨b, 0, none⟩), .slice A n c, .int .i64 (k : Int)] w fun e w' => e = .returned (.bool v) ∧ Below w.heap.size w w' := by
  have hlen : xs.length = n := by simpa using hr.len1
  obtain ⟨x, hx⟩ : ∃ x, xs[k]? = some x := ⟨_, List.getElem?_eq_getElem (by omega)⟩
  rw [endB_val hx] at hv
  obtain ⟨t, ht⟩ : ∃ t, classF x = t := ⟨_, rfl⟩
  rw [ht] at hv
  have HCL := Lib.hid (ppClass_any b x t ht w hP)
  obtain ⟨ad, rfl, hab, hcell⟩ := hr.at_ hk
  have c0 : w.cell? (ad.add k) = some (.int .i64 x) := hcell _ (by rw [List.getElem?_map, hx]; rfl)
  have hkn : (k : Int) < (n : Int) := by omega
  have hk0 : (0 : Int) ≤ (k : Int) := by omega
  by_cases h10 : t = 10
  · subst h10
    rw [show decide ((10 : Int) = 10) = true from rfl, Bool.true_and] at hv
    by_cases h13 : x = 13
    · subst h13
      rw [show decide ((13 : Int) = 13) = true from rfl, Bool.true_and] at hv
      by_cases hk1 : k + 1 < n
      · obtain ⟨y, hy⟩ : ∃ y, xs[k + 1]? = some y := ⟨_, List.getElem?_eq_getElem (by omega)⟩
        rw [hy] at hv
        obtain ⟨ad', e', _, hcell'⟩ := hr.at_ hk1
        obtain rfl := Option.some.inj e'
        have c1 : w.cell? (ad.add (k + 1)) = some (.int .i64 y) := hcell' _ (by rw [List.getElem?_map, hy]; rfl)
        have c1' := c1
        rw [show k + 1 = 0 + (k + 1) by omega, addNext ad 0 k] at c1'
        have c2 : w.cell? ⟨ad.block, ad.off + (k + 1), none⟩ = some (.int .i64 y) := by
          have : ad.add 0 = ad := by unfold Addr.add; simp
          rwa [this] at c1'
        have d0 := fun W (hb : Below w.heap.size w W) => cell_below hb c0
        have d1 := fun W (hb : Below w.heap.size w W) => cell_below hb c1
        have d2 := fun W (hb : Below w.heap.size w W) => cell_below hb c2
        have HD := Lib.hid (And.intro d0 (And.intro d1 d2))
        have hlt1 : (k : Int) + 1 < (n : Int) := by omega
        have hv' : v = !(y == 10) := by rw [← hv]; by_cases h : y = 10 <;> simp [h]
        have HV := Lib.hid hv'
        clear hv hv' hr hcell hcell' c1 c1' c2 hx hy hlen ht d0 d1 d2 hP
        cases hy10 : (y == 10) with
        | true =>
          rw [hy10] at HV
          go_enter Tryz.func22, Tryz.ntmps22
          go_wp2_with fail
          refine HCL.out.mono ?_
          rintro e w1 ⟨rfl, hb1⟩
          have e0 := HD.out.1 _ hb1
          have e1 := HD.out.2.1 _ hb1
          have e2 := HD.out.2.2 _ hb1
          clear c0
          go_wp2
          go_ret
          exact ⟨retB (by simp [HV.out]), hb1⟩
        | false =>
          rw [hy10] at HV
          go_enter Tryz.func22, Tryz.ntmps22
          go_wp2_with fail
          refine HCL.out.mono ?_
          rintro e w1 ⟨rfl, hb1⟩
          have e0 := HD.out.1 _ hb1
          have e1 := HD.out.2.1 _ hb1
          have e2 := HD.out.2.2 _ hb1
          clear c0
          go_wp2
          go_ret
          exact ⟨retB (by simp [HV.out]), hb1⟩
      · have hno : xs[k + 1]? = none := List.getElem?_eq_none (by omega)
        rw [hno] at hv
        have HV := Lib.hid (show v = true by rw [← hv]; rfl)
        have d0 := fun W (hb : Below w.heap.size w W) => cell_below hb c0
        have HD := Lib.hid d0
        have hge : ¬ (k : Int) + 1 < (n : Int) := by omega
        clear hv hr hcell hx hlen ht d0 hno hP
        go_enter Tryz.func22, Tryz.ntmps22
        go_wp2_with fail
        refine HCL.out.mono ?_
        rintro e w1 ⟨rfl, hb1⟩
        have e0 := HD.out _ hb1
        clear c0
        go_wp2
        go_ret
        exact ⟨retB (by simp [HV.out]), hb1⟩
    · rw [show decide (x = 13) = false from decide_eq_false h13, Bool.false_and] at hv
      have HV := Lib.hid (show v = true by rw [← hv]; rfl)
      have HD := Lib.hid (fun W (hb : Below w.heap.size w W) => cell_below hb c0)
      have g13 : (x == 13) = false := by simp [h13]
      clear hv hr hcell hx hlen ht hP h13
      go_enter Tryz.func22, Tryz.ntmps22
      go_wp2_with fail
      refine HCL.out.mono ?_
      rintro e w1 ⟨rfl, hb1⟩
      have e0 := HD.out _ hb1
      clear c0
      go_wp2
      go_ret
      exact ⟨retB (by simp [HV.out]), hb1⟩
  · have g10 : (t != 10) = true := by simp [h10]
    rw [show decide (t = 10) = false from decide_eq_false h10, Bool.false_and] at hv
    have HV := Lib.hid hv
    clear hv hr hcell hx hlen ht hP h10
    go_enter Tryz.func22, Tryz.ntmps22
    go_wp2_with fail
    refine HCL.out.mono ?_
    rintro e w1 ⟨rfl, hb1⟩
    go_wp2
    go_ret
    exact ⟨retB (by simp [← HV.out]), hb1⟩
end Go.Proofs.YtdgomaoikeffhaaGreat
/- para's Split, walked. -/
namespace Go.Proofs.YtdgomaoikeffhaaGreat
open Go.RowKit

theorem parA_yes {xs : List Int} {k : Nat} (h : k + 1 = xs.length ∨ endB xs k = true) : parA xs (k + 1) = ((parA xs k).1 ++ [((parA xs k).2, (k : Int) + 1)], (k : Int) + 1) := by rw [parA, if_pos h]
theorem parA_no {xs : List Int} {k : Nat} (h : ¬ (k + 1 = xs.length ∨ endB xs k = true)) : parA xs (k + 1) = parA xs k := by rw [parA, if_neg h]
set_option maxRecDepth 100000 in
set_option maxHeartbeats 2000000 in
theorem prSplit_any (b : Nat) (A : Option Addr) (n c : Nat) (xs : List Int) (w : World) (hP : PropAt w b) (hr : Rd w 1 A n (xs.map (Value.int .i64))) (hn : n ≤ 100000) :
    Calls Tryz.prog 12 #[.pointer (some ⟨b, 0, none⟩), .slice A n c] w fun e w' => ∃ v, e = .returned v ∧ w'.ownsRow w.heap.size 33 2 v (parL xs).length (cellsS (parL xs)) ∧ Below w.heap.size w w' := by
  have hlen : xs.length = n := by simpa using hr.len1
  have HL := Lib.hid hlen
  have HP := Lib.hid hP
  have HR := Lib.hid hr
  clear hlen hP hr
  go_enter Tryz.func12, Tryz.ntmps12
  go_wp2_with fail
  go_loopw [5, 6, 11] (fun v x i wr => ∃ k : Nat, k ≤ n ∧ i = .int .i64 (k : Int) ∧ x = .int .i64 (parA xs k).2 ∧ wr.ownsRow w.heap.size 33 2 v (parA xs k).1.length (cellsS (parA xs k).1) ∧ Below w.heap.size w wr) (fun _ _ i _ => n - (intOf i).toNat)
  case atStart => exact ⟨0, Nat.zero_le _, rfl, rfl, ⟨rfl, .inl ⟨rfl, rfl⟩⟩, Below.refl _ _⟩
  case round =>
    obtain ⟨k, hk, rfl, rfl, hown, hb⟩ := hrel
    have hal := (parA_len xs k).1
    obtain ⟨acc, y, hacc⟩ : ∃ acc y, parA xs k = (acc, y) := ⟨_, _, rfl⟩
    have HA := Lib.hid hacc
    rw [hacc] at hal hown ⊢
    simp only at hal hown ⊢
    have HO := Lib.hid hown
    have HB := Lib.hid hb
    clear hown hb hacc
    by_cases hlt : k < n
    · by_cases he : k + 1 = n
      · have HS := Lib.hid (parA_yes (xs := xs) (k := k) (.inl (by rw [HL.out]; exact he)))
        rw [HA.out] at HS
        have ge : ((k : Int) + 1 == (n : Int)) = true := by simp; omega
        have hz := HB.out.size
        clear he
        go_wp2_with (at_builtin; refine wpList_app rfl _ _ _ rfl spanSlice (by decide) u5 acc.length _ rfl (HO.out.alloc _) ⟨wr.heap.size, 0, none⟩ 1 1 [.int .i64 y, .int .i64 ((k : Int) + 1)] rfl rfl (cells_new wr [_, _] _) (oneInt2 _ _ _) (by omega) (by unfold maxLen; omega) (Nat.le_trans hz (by simp)) ?_; intro v1 w1 hown1 hg1 hat1)
        have hgr := below_app (HB.out.alloc hz _) hg1 (HO.out.alloc _) (Nat.le_trans hz (by simp))
        go_roundw
        case rel => exact ⟨k + 1, by omega, by go_num, by rw [HS.out], by rw [HS.out]; simp only; rw [cellsS_snoc, List.length_append]; exact hown1, hgr⟩
        case measure => simp [intOf]; omega
      · have ge : ((k : Int) + 1 == (n : Int)) = false := by simp; omega
        obtain ⟨v, hv⟩ : ∃ v, endB xs k = v := ⟨_, rfl⟩
        have HE := Lib.hid (prEnds_any b A n c k xs v hv wr (HP.out.below HB.out) (HR.out.below HB.out) hlt (by omega))
        have hz := HB.out.size
        cases v with
        | true =>
          have HS := Lib.hid (parA_yes (xs := xs) (k := k) (.inr hv))
          rw [HA.out] at HS
          clear hv he
          go_wp2_with (first
            | (go_at_call 22; with_reducible refine HE.out.mono ?_; rintro e w2 ⟨rfl, hb2⟩; have HO2 := Lib.hid (own_below HO.out hb2); have HB2 := Lib.hid (HB.out.trans (hb2.mono hz)); have hz2 := HB2.out.size)
            | (at_builtin; refine wpList_app rfl _ _ _ rfl spanSlice (by decide) u5 acc.length _ rfl (HO2.out.alloc _) ⟨w2.heap.size, 0, none⟩ 1 1 [.int .i64 y, .int .i64 ((k : Int) + 1)] rfl rfl (cells_new w2 [_, _] _) (oneInt2 _ _ _) (by omega) (by unfold maxLen; omega) (Nat.le_trans hz2 (by simp)) ?_; intro v1 w1 hown1 hg1 hat1)
            | fail)
          have hgr := below_app (HB2.out.alloc hz2 _) hg1 (HO2.out.alloc _) (Nat.le_trans hz2 (by simp))
          go_roundw
          case rel => exact ⟨k + 1, by omega, by go_num, by rw [HS.out], by rw [HS.out]; simp only; rw [cellsS_snoc, List.length_append]; exact hown1, hgr⟩
          case measure => simp [intOf]; omega
        | false =>
          have HS := Lib.hid (parA_no (xs := xs) (k := k) (by rw [HL.out, hv]; simp; exact he))
          rw [HA.out] at HS
          clear hv he
          go_wp2_with (first
            | (go_at_call 22; with_reducible refine HE.out.mono ?_; rintro e w2 ⟨rfl, hb2⟩; have HO2 := Lib.hid (own_below HO.out hb2); have HB2 := Lib.hid (HB.out.trans (hb2.mono hz)))
            | fail)
          go_roundw
          case rel => exact ⟨k + 1, by omega, by go_num, by rw [HS.out], by rw [HS.out]; exact HO2.out, HB2.out⟩
          case measure => simp [intOf]; omega
    · obtain rfl : k = n := by omega
      have HZ := Lib.hid (show parL xs = acc by unfold parL; rw [HL.out, HA.out])
      go_wp2
      go_ret
      exact ⟨u5, rfl, by rw [HZ.out]; exact HO.out, HB.out⟩
end Go.Proofs.YtdgomaoikeffhaaGreat
