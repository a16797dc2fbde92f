/- Texts of one claim, one behind the other. -/
import Derived.Test.YtcbiaeeifclieaaGreatDoorMgM4
import Derived.Test.YtcbiaeeifclieaaGreatDoorMgM6
import Derived.Test.YtcbiaeeifclieaaGreatDoorMgM17
/- What codes are, as data: class, joining, digit, mark, strong, control; a Props in memory. -/
namespace Go.Proofs.YtcbiaeeifclieaaGreatDoor
open Go.RowKit

def digF (c : Int) : Int × Int := if 48 ≤ c ∧ c ≤ 57 then (c - 48, 1) else if 1632 ≤ c ∧ c ≤ 1641 then (c - 1632, 2) else if 1776 ≤ c ∧ c ≤ 1785 then (c - 1776, 3) else (0, 0)
def ofF (c : Int) (ks : List Int) : Bool := decide (classF c ∈ ks)
def ctlL : List Int := [9, 14, 15, 16, 17, 18, 19, 20, 21, 22]
def markF (c : Int) : Bool := ofF c [8]
def strongF (c : Int) : Bool := ofF c [0, 1, 2]
def ctlF (c : Int) : Bool := decide (c = 8206) || decide (c = 8207) || decide (c = 1564) || ofF c ctlL
theorem apart1 (c : Int) : (markF c && strongF c) = false := by
  unfold markF strongF ofF
  rw [Bool.eq_false_iff]
  intro h
  simp only [Bool.and_eq_true, decide_eq_true_eq, List.mem_cons, List.not_mem_nil, or_false] at h
  omega
def digL : List Int := [48, 49, 50, 51, 52, 53, 54, 55, 56, 57, 1632, 1633, 1634, 1635, 1636, 1637, 1638, 1639, 1640, 1641, 1776, 1777, 1778, 1779, 1780, 1781, 1782, 1783, 1784, 1785]
theorem digL_ctl : (digL.all fun c => !ctlF c) = true := by decide +kernel
theorem apart2 (c : Int) (h : 0 < (digF c).2) : ctlF c = false := by
  have hm : c ∈ digL := by
    unfold digF at h
    simp only [digL, List.mem_cons, List.not_mem_nil, or_false]
    split at h
    · omega
    · split at h
      · omega
      · split at h
        · omega
        · simp at h
  have := List.all_eq_true.1 digL_ctl c hm
  simpa using this
theorem bidi_rise : riseB (-1) bidiL = true := by decide +kernel
theorem join_rise : riseB (-1) joinL = true := by decide +kernel
theorem bidi_err : errG bidiL = 0 := by decide +kernel
theorem join_err : errG joinL = 0 := by decide +kernel
def fitPB (x : Int) : Bool := decide (-9223372036854775808 ≤ x ∧ x ≤ 9223372036854775807)
theorem bidi_fit : ∀ s ∈ bidiL, FitI s.2.2 := fun s hs => by
  have h := List.all_eq_true.1 (show (bidiL.all fun s => fitPB s.2.2) = true by decide +kernel) s hs
  unfold fitPB at h
  unfold FitI
  exact of_decide_eq_true h
theorem join_fit : ∀ s ∈ joinL, FitI s.2.2 := fun s hs => by
  have h := List.all_eq_true.1 (show (joinL.all fun s => fitPB s.2.2) = true by decide +kernel) s hs
  unfold fitPB at h
  unfold FitI
  exact of_decide_eq_true h

theorem TabAt.far {w : World} {b nb b0 : Nat} {l : List Rg} {z : Int} (h : TabAt w b l z nb) {p : Option Addr} (hp : w.cell? ⟨b0, 0, none⟩ = some (.pointer p)) (j : Nat) (u : Value) : TabAt (w.setCell ⟨b0, j, none⟩ u) b l z nb := by
  obtain ⟨cs, bl, wh, g, cap, h1, h2, h3, h4, h5, h6, h7, h8, h9⟩ := h
  obtain ⟨q, hq1, hq2⟩ := h6.at_ 0 (by omega)
  have hb : b ≠ b0 := by
    rintro rfl
    have := (h1.cell (h5 0 q hq1)).symm.trans hp
    cases this
  have hlens : ∀ x ∈ bl, x.length = 128 := fun x hx => by
    obtain ⟨j, _, rfl⟩ := h6.real x hx
    exact blkAt_len _ _ _
  have hg : g ≠ b0 := by
    rintro rfl
    obtain ⟨ad, e, _, hc⟩ := h7.2 h6.some_
    injection e with e
    subst e
    obtain ⟨b', hb'⟩ : ∃ b', bl[0]? = some b' := ⟨_, List.getElem?_eq_getElem h6.some_⟩
    have hl := hlens b' (List.mem_of_getElem? hb')
    obtain ⟨x, hx⟩ : ∃ x, b'[0]? = some x := ⟨_, List.getElem?_eq_getElem (by omega)⟩
    have := hc 0 (.int .i64 x) (by have := cellsK_at hlens hb' (j := 0) (by omega); rw [hx] at this; exact this)
    rw [addNew] at this
    have := this.symm.trans hp
    cases this
  refine ⟨cs, bl, wh, g, cap, h1.far hb j u, h2, h3, h4, h5, h6, ⟨h7.1, fun hn => ?_⟩, h8, h9⟩
  obtain ⟨ad, e, hlt, hc⟩ := h7.2 hn
  injection e with e
  subst e
  refine ⟨_, rfl, by simpa [World.setCell] using hlt, fun k v hk => ?_⟩
  rw [World.cell?_setCell_other (h := by rw [addNew]; simp [hg])]
  exact hc k v hk
/-- Block b is a Props that New made. -/
def PropAt (w : World) (b : Nat) : Prop := ∃ b1 b2 n1 n2 : Nat, w.cell? ⟨b, 0, none⟩ = some (.pointer (some ⟨b1, 0, none⟩)) ∧ w.cell? ⟨b, 1, none⟩ = some (.pointer (some ⟨b2, 0, none⟩)) ∧ TabAt w b1 bidiL 0 n1 ∧ TabAt w b2 joinL 0 n2
theorem PropAt.below {w w' : World} {b : Nat} (h : PropAt w b) (hb : Below w.heap.size w w') : PropAt w' b := by
  obtain ⟨b1, b2, n1, n2, h1, h2, h3, h4⟩ := h
  exact ⟨b1, b2, n1, n2, cell_below hb h1, cell_below hb h2, h3.below hb, h4.below hb⟩
set_option maxRecDepth 100000 in
set_option maxHeartbeats 1000000 in
theorem prKnown_of (lB lJ : List Rg) (nB nJ : Nat) (cB : ∀ w : World, Calls Tryz.prog 26 #[] w fun e w' => e = .returned (.slice (some ⟨w.heap.size, 0, none⟩) nB nB) ∧ w' = w.alloc (.cells (cellsG lB).toArray 118))
    (cJ : ∀ w : World, Calls Tryz.prog 27 #[] w fun e w' => e = .returned (.slice (some ⟨w.heap.size, 0, none⟩) nJ nJ) ∧ w' = w.alloc (.cells (cellsG lJ).toArray 118)) (hnB : lB.length = nB) (hnJ : lJ.length = nJ) (hB4 : nB ≤ 4096) (hJ4 : nJ ≤ 4096) (eB : errG lB = 0) (eJ : errG lJ = 0) (fB : ∀ s ∈ lB, FitI s.2.2) (fJ : ∀ s ∈ lJ, FitI s.2.2) (w : World) : Calls Tryz.prog 12 #[] w fun e w' => ∃ b1 b2 n1 n2 : Nat, e = .returned (.agg #[.pointer (some ⟨b1, 0, none⟩), .pointer (some ⟨b2, 0, none⟩)]) ∧ TabAt w' b1 lB 0 n1 ∧ TabAt w' b2 lJ 0 n2 ∧ Below w.heap.size w w' := by
  have hf0 : FitI 0 := by unfold FitI; omega
  have HB := Lib.hid eB
  have HJ := Lib.hid eJ
  have CB := Lib.hid cB
  have CJ := Lib.hid cJ
  have FB := Lib.hid fB
  have FJ := Lib.hid fJ
  have NB := Lib.hid hnB
  have NJ := Lib.hid hnJ
  clear cB cJ fB fJ hnB hnJ eB eJ
  go_enter Tryz.func12, Tryz.ntmps12
  go_wp2_with fail
  have hb0 := below_new w (.cells #[.pointer none, .pointer none] 45)
  have d0 : (w.alloc (.cells #[.pointer none, .pointer none] 45)).cell? ⟨w.heap.size, 0, none⟩ = some (.pointer none) := by rw [World.cell?_alloc_at _ _ _ _ rfl]; rfl
  have d1 : (w.alloc (.cells #[.pointer none, .pointer none] 45)).cell? ⟨w.heap.size, 1, none⟩ = some (.pointer none) := by rw [World.cell?_alloc_at _ _ _ _ rfl]; rfl
  have hnf : ∀ i, (w.alloc (.cells #[.pointer none, .pointer none] 45)).frozen? ⟨w.heap.size, i, none⟩ = false := fun i => by simp [go_sem]
  obtain ⟨W0, hW0⟩ : ∃ W0, (w.alloc (.cells #[.pointer none, .pointer none] 45)) = W0 := ⟨_, rfl⟩
  rw [hW0] at hb0 d0 d1 hnf ⊢
  clear hW0
  refine (CB.out _).mono ?_
  rintro e w1 ⟨rfl, hw1⟩
  have hr1 := rd_blk (w := w1) (b := W0.heap.size) (t := 118) 3 (cs := cellsG lB) (m := nB) (by rw [hw1]; exact heap_alloc_new _ _) (by rw [cellsG_len, NB.out])
  have hb1 : Below W0.heap.size W0 w1 := by rw [hw1]; exact below_new _ _
  clear hw1
  go_wp2_with fail
  refine (prBuild_any (some ⟨W0.heap.size, 0, none⟩) nB nB 0 lB w1 hr1 (by unfold maxLen; omega) (Nat.le_refl _) hf0 FB.out).mono ?_
  rintro e w2 ⟨⟨_, b1, n1, rfl, hT1⟩ | ⟨h, _⟩, hb2⟩
  · have hbb := below_self hb1 hb2
    clear hr1 hb1 hb2
    go_wp2_with fail
    refine (CJ.out _).mono ?_
    rintro e w3 ⟨rfl, hw3⟩
    have hr3 := rd_blk (w := w3) (b := w2.heap.size) (t := 118) 3 (cs := cellsG lJ) (m := nJ) (by rw [hw3]; exact heap_alloc_new _ _) (by rw [cellsG_len, NJ.out])
    have hb3 : Below w2.heap.size w2 w3 := by rw [hw3]; exact below_new _ _
    clear hw3
    go_wp2_with fail
    refine (prBuild_any (some ⟨w2.heap.size, 0, none⟩) nJ nJ 0 lJ w3 hr3 (by unfold maxLen; omega) (Nat.le_refl _) hf0 FJ.out).mono ?_
    rintro e w4 ⟨⟨_, b2, n2, rfl, hT2⟩ | ⟨h, _⟩, hb4⟩
    · have hbc := below_self hbb (below_self hb3 hb4)
      have HT1 := Lib.hid (hT1.below (below_self hb3 hb4))
      have HT2 := Lib.hid hT2
      clear hbb hr3 hb3 hb4 hT1 hT2
      have c0 := cell_below hbc d0
      have c1 := cell_below hbc d1
      have f0 := (hbc.frozen (cell_lt d0)).trans (hnf 0)
      have f1 := (hbc.frozen (cell_lt d1)).trans (hnf 1)
      have hbw := below_self hb0 hbc
      have HBW := Lib.hid hbw
      have hlt : w.heap.size < w4.heap.size := cell_lt c0
      clear d0 d1 hnf hb0 hbc hbw
      go_wp2
      (try simp only [Exit.inBlock, Exit.then])
      have T1 := (HT1.out.far c0 0 (.pointer (some ⟨b1, 0, none⟩))).far (World.cell?_setCell_same (h := c0) ..) 1 (.pointer (some ⟨b2, 0, none⟩))
      have T2 := (HT2.out.far c0 0 (.pointer (some ⟨b1, 0, none⟩))).far (World.cell?_setCell_same (h := c0) ..) 1 (.pointer (some ⟨b2, 0, none⟩))
      have BB := below_set (below_set HBW.out (Nat.le_refl _) 0 (.pointer (some ⟨b1, 0, none⟩))) (Nat.le_refl _) 1 (.pointer (some ⟨b2, 0, none⟩))
      refine bodyPost_ret (v := .agg #[.pointer (some ⟨b1, 0, none⟩), .pointer (some ⟨b2, 0, none⟩)]) ?_ rfl ⟨b1, b2, n1, n2, rfl, T1, T2, BB⟩
      have e0 := World.cell?_setCell_same (w := w4) (a := ⟨w.heap.size, 0, none⟩) (v := .pointer (some ⟨b1, 0, none⟩)) (h := c0)
      have e1 := World.cell?_setCell_same (w := w4.setCell ⟨w.heap.size, 0, none⟩ (.pointer (some ⟨b1, 0, none⟩))) (a := ⟨w.heap.size, 1, none⟩) (v := .pointer (some ⟨b2, 0, none⟩)) (h := (World.cell?_setCell_other (h := by simp) ..).trans c1)
      simp [results, Tryz.results12, go_sem, e0, e1]
    · exact absurd HJ.out h
  · exact absurd HB.out h
set_option maxRecDepth 100000 in
theorem prNew_of (lB lJ : List Rg) (hk : ∀ w : World, Calls Tryz.prog 12 #[] w fun e w' => ∃ b1 b2 n1 n2 : Nat, e = .returned (.agg #[.pointer (some ⟨b1, 0, none⟩), .pointer (some ⟨b2, 0, none⟩)]) ∧ TabAt w' b1 lB 0 n1 ∧ TabAt w' b2 lJ 0 n2 ∧ Below w.heap.size w w') (w : World) :
    Calls Tryz.prog 5 #[] w fun e w' => (∃ b b1 b2 n1 n2 : Nat, e = .returned (.pointer (some ⟨b, 0, none⟩)) ∧ w'.cell? ⟨b, 0, none⟩ = some (.pointer (some ⟨b1, 0, none⟩)) ∧ w'.cell? ⟨b, 1, none⟩ = some (.pointer (some ⟨b2, 0, none⟩)) ∧ TabAt w' b1 lB 0 n1 ∧ TabAt w' b2 lJ 0 n2) ∧ Below w.heap.size w w' := by
  go_enter Tryz.func5, Tryz.ntmps5
  go_wp2_with fail
  refine (hk _).mono ?_
  rintro e w1 ⟨b1, b2, n1, n2, rfl, h1, h2, hb⟩
  have H1 := Lib.hid (h1.below (below_new w1 (.cells #[.pointer (some ⟨b1, 0, none⟩), .pointer (some ⟨b2, 0, none⟩)] 48)))
  have H2 := Lib.hid (h2.below (below_new w1 (.cells #[.pointer (some ⟨b1, 0, none⟩), .pointer (some ⟨b2, 0, none⟩)] 48)))
  have hb2 := hb.alloc hb.size (.cells #[.pointer (some ⟨b1, 0, none⟩), .pointer (some ⟨b2, 0, none⟩)] 48)
  clear h1 h2
  go_wp2
  go_ret
  exact ⟨⟨_, b1, b2, n1, n2, rfl, by rw [World.cell?_alloc_at _ _ _ _ rfl]; rfl, by rw [World.cell?_alloc_at _ _ _ _ rfl]; rfl, H1.out, H2.out⟩, hb2⟩
theorem prNew_any (w : World) : Calls Tryz.prog 5 #[] w fun e w' => (∃ b, e = .returned (.pointer (some ⟨b, 0, none⟩)) ∧ PropAt w' b) ∧ Below w.heap.size w w' :=
  (prNew_of bidiL joinL (prKnown_of bidiL joinL 230 68 bidiRanges_any joinRanges_any rfl rfl (by decide) (by decide) bidi_err join_err bidi_fit join_fit) w).mono fun _ _ ⟨⟨b, b1, b2, n1, n2, he, c0, c1, h1, h2⟩, hb⟩ => ⟨⟨b, he, b1, b2, n1, n2, c0, c1, h1, h2⟩, hb⟩
end Go.Proofs.YtcbiaeeifclieaaGreatDoor
/- What New made is made. -/
namespace Go.Proofs.YtcbiaeeifclieaaGreatDoor
open Go.RowKit
theorem ppMade_any (b : Nat) (w : World) (h : PropAt w b) : Calls Tryz.prog 99 #[.pointer (some ⟨b, 0, none⟩)] w fun e w' => e = .returned (.bool true) ∧ w = w' := by
  obtain ⟨b1, b2, n1, n2, h1, _, _, _⟩ := h
  go_enter Tryz.func99, Tryz.ntmps99
  go_wp2
  go_ret
  exact ⟨rfl, rfl⟩
end Go.Proofs.YtcbiaeeifclieaaGreatDoor
/- A Props that New made: Join. -/
namespace Go.Proofs.YtcbiaeeifclieaaGreatDoor
open Go.RowKit
set_option maxRecDepth 100000 in
theorem ppJoin_of (lJ : List Rg) (b b2 n2 : Nat) (c : Int) (w : World) (h1 : w.cell? ⟨b, 1, none⟩ = some (.pointer (some ⟨b2, 0, none⟩))) (hT : TabAt w b2 lJ 0 n2) (hr : riseB (-1) lJ = true) :
    Calls Tryz.prog 100 #[.pointer (some ⟨b, 0, none⟩), .int .i64 c] w fun e w' => e = .returned (.int .i64 (getG lJ 0 c)) ∧ Below w.heap.size w w' := by
  have HT := Lib.hid hT
  have HR := Lib.hid hr
  clear hT hr
  go_enter Tryz.func100, Tryz.ntmps100
  go_wp2_with fail
  refine (prGet_any b2 n2 lJ 0 c w HT.out HR.out).mono ?_
  rintro e w1 ⟨rfl, hb⟩
  go_wp2
  go_ret
  exact ⟨rfl, hb⟩
theorem ppJoin_gen (b : Nat) (c v : Int) (w : World) (hP : PropAt w b) (hk : ∀ w' : World, w' = w → Calls Tryz.prog 100 #[.pointer (some ⟨b, 0, none⟩), .int .i64 c] w' fun e w'' => e = .returned (.int .i64 v) ∧ Below w'.heap.size w' w'') :
    Calls Tryz.prog 68 #[.pointer (some ⟨b, 0, none⟩), .int .i64 c] w fun e w' => e = .returned (.int .i64 v) ∧ Below w.heap.size w w' := by
  have HP := Lib.hid hP
  have HK := Lib.hid hk
  clear hP hk
  go_enter Tryz.func68, Tryz.ntmps68
  go_wp2_with fail
  refine (ppMade_any b w HP.out).mono ?_
  rintro e w1 ⟨rfl, rfl⟩
  go_wp2_with fail
  refine (HK.out _ rfl).mono ?_
  rintro e w2 ⟨rfl, hb⟩
  go_wp2
  go_ret
  exact ⟨rfl, hb⟩
theorem ppJoin_any (b : Nat) (c v : Int) (hv : joinF c = v) (w : World) (hP : PropAt w b) :
    Calls Tryz.prog 68 #[.pointer (some ⟨b, 0, none⟩), .int .i64 c] w fun e w' => e = .returned (.int .i64 v) ∧ Below w.heap.size w w' :=
  ppJoin_gen b c v w hP fun w' e => by
    subst e
    obtain ⟨b1, b2, n1, n2, h1, h2, h3, h4⟩ := hP
    have := ppJoin_of joinL b b2 n2 c w' h2 h4 join_rise
    rw [← hv]
    exact this
end Go.Proofs.YtcbiaeeifclieaaGreatDoor
