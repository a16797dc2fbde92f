/- Texts of one claim, one behind the other. -/
import Derived.Deep.RegionHeld3
import Derived.Deep.LoopGhost
import Derived.Deep.DeepCutAuto
import Derived.Deep.CutRange
import Derived.BigQuiet
import Derived.Test.YtcbiaeeifclieaaGreatDoorMgM2
import Derived.Test.YtcbiaeeifclieaaGreatDoorMgM4
import Derived.Test.YtcbiaeeifclieaaGreatDoorMgM20
import Derived.Test.YtcbiaeeifclieaaGreatDoorMgM31
import Derived.Test.YtcbiaeeifclieaaGreatDoorMgM32
/- The reference's turn, walked: labels of both sides in memory. -/
namespace Go.Proofs.YtcbiaeeifclieaaGreatDoor
open Go.RowKit

/-- Both sides' labels, each in a row of its own. -/
structure LabM (w : World) (gi go ci co n m : Nat) (lab : Bool → List Int) : Prop where
  hi : w.ownsRow 0 3 1 (.slice (some ⟨gi, 0, none⟩) n ci) n ((lab false).map (Value.int .i64))
  ho : w.ownsRow 0 3 1 (.slice (some ⟨go, 0, none⟩) m co) m ((lab true).map (Value.int .i64))
  ne : gi ≠ go
section
variable {w w' : World} {gi go ci co n m : Nat} {lab : Bool → List Int}
theorem LabM.below (h : LabM w gi go ci co n m lab) (hb : Below w.heap.size w w') : LabM w' gi go ci co n m lab := ⟨own_below h.hi hb, own_below h.ho hb, h.ne⟩
theorem LabM.alloc (h : LabM w gi go ci co n m lab) (o : Obj) : LabM (w.alloc o) gi go ci co n m lab := h.below (below_new w o)
theorem LabM.lt (h : LabM w gi go ci co n m lab) : gi < w.heap.size ∧ go < w.heap.size := ⟨(h.hi.lt _ rfl).2, (h.ho.lt _ rfl).2⟩
theorem LabM.out (h : LabM w gi go ci co n m lab) {zs : List Int} (ho : w'.ownsRow 0 3 1 (.slice (some ⟨go, 0, none⟩) m co) m (zs.map (Value.int .i64))) (hg : w.grownBy w' (some go)) : LabM w' gi go ci co n m (put lab true zs) :=
  ⟨h.hi.kept hg (.inr (fun e => h.ne (Option.some.inj e))), by rw [put_at]; exact ho, h.ne⟩
theorem LabM.in_ (h : LabM w gi go ci co n m lab) {zs : List Int} (ho : w'.ownsRow 0 3 1 (.slice (some ⟨gi, 0, none⟩) n ci) n (zs.map (Value.int .i64))) (hg : w.grownBy w' (some gi)) : LabM w' gi go ci co n m (put lab false zs) :=
  ⟨by rw [put_at]; exact ho, h.ho.kept hg (.inr (fun e => h.ne (Option.some.inj e).symm)), h.ne⟩
end
theorem Rd.kept {w w' : World} {size n : Nat} {A : Option Addr} {xs : List Value} {S : List Nat} (h : Rd w size A n xs) (hA : ∀ ad, A = some ad → ad.block ∉ S) (hk : Kept w w' S) : Rd w' size A n xs :=
  ⟨h.1, fun hn => by
    obtain ⟨ad, e, hlt, hc⟩ := h.2 hn
    refine ⟨ad, e, Nat.lt_of_lt_of_le hlt hk.size, fun j u hu => ?_⟩
    have := hc j u hu
    unfold World.cell? at this ⊢
    have hb : (ad.add j).block = ad.block := blockAdd ad j
    rw [hb] at this ⊢
    rw [hk.block _ hlt (hA ad e)]
    exact this⟩
theorem in_two {gi go b : Nat} (h1 : gi < b) (h2 : go < b) : b ∉ [gi, go] := by simp; omega
set_option maxRecDepth 100000 in
set_option maxHeartbeats 4000000 in
theorem refTurn_any (gi go ci co n m q c : Nat) (A : Option Addr) (l : List Cl) (lab : Bool → List Int) (w : World) (hM : LabM w gi go ci co n m lab) (hr : Rd w 4 A q (cellsC l)) (hA : ∀ ad, A = some ad → ad.block ∉ [gi, go]) (hl : ∀ x ∈ l, LinkC n m x)
    (hs : SoundLab (l.map ncOf) lab) (hp : PosLab lab) (hlx : (lab false).length = n) (hly : (lab true).length = m) (hn : n ≤ 16777216) (hm : m ≤ 16777216) (hq : q ≤ 100000000) :
    Calls Tryz.prog 89 #[.slice (some ⟨gi, 0, none⟩) n ci, .slice (some ⟨go, 0, none⟩) m co, .slice A q c] w fun e w' => ∃ lab' ch, e = .returned (.bool ch) ∧ LabM w' gi go ci co n m lab' ∧ TurnOk (l.map ncOf) n m lab lab' ch ∧ Kept w w' [gi, go] := by
  have hlen : l.length = q := by have := hr.1; rw [cellsC_len] at this; omega
  have HL := Lib.hid hlen
  have HR := Lib.hid hr
  have HS0 := Lib.hid (show LinkSt (l.map ncOf) n m 0 lab lab false from ⟨hlx, hly, hs, hp, Went.refl _, fun _ j x hj => absurd hj (Nat.not_lt_zero _)⟩)
  have HM := Lib.hid hM
  obtain ⟨g1, g2⟩ := hM.lt
  clear hlen hr hs hp hlx hly hM
  go_enter Tryz.func89, Tryz.ntmps89
  go_wp2_with fail
  go_loopw [7, 8] (fun b i wr => ∃ (k : Nat) (lab' : Bool → List Int) (ch : Bool), k ≤ q ∧ i = .int .i64 (k : Int) ∧ b = .bool ch ∧ LabM wr gi go ci co n m lab' ∧ LinkSt (l.map ncOf) n m k lab lab' ch ∧ Kept w wr [gi, go]) (fun _ i _ => q - (intOf i).toNat)
  case atStart => exact ⟨0, lab, false, Nat.zero_le _, rfl, rfl, HM.out, HS0.out, Kept.refl _ _⟩
  case round =>
    obtain ⟨k, lab1, ch, hk, rfl, rfl, hM1, hS1, hK1⟩ := hrel
    by_cases hlt : k < q
    · obtain ⟨x, hx⟩ : ∃ x, l[k]? = some x := ⟨_, List.getElem?_eq_getElem (by rw [HL.out]; exact hlt)⟩
      obtain ⟨hxe, ha, hbn, hcd⟩ := hl x (List.mem_of_getElem? hx)
      have hN : (l.map ncOf)[k]? = some (ncOf x) := by rw [List.getElem?_map, hx]; rfl
      obtain ⟨ad, rfl, hab, c0, c1, c2, c3⟩ := (HR.out.kept hA hK1).clus hx
      obtain ⟨y, hy⟩ : ∃ y, ncOf x = y := ⟨_, rfl⟩
      rw [hy] at hxe ha hbn hcd hN
      rw [hxe] at c0 c1 c2 c3
      obtain ⟨a, b, cc, d⟩ := y
      simp only [NC.cl] at c0 c1 c2 c3 ha hbn hcd
      clear hxe hy hx
      have hLx := hS1.lx
      have hLy := hS1.ly
      have l1 := hM1.lt
      have HS1 := Lib.hid hS1
      have HN := Lib.hid hN
      have HLX := Lib.hid hLx
      have HLY := Lib.hid hLy
      have HK1 := Lib.hid hK1
      clear hS1 hN hLx hLy hK1
      have hM2 := hM1.alloc (.cells #[.int .i64 (a : Int), .int .i64 (b : Int), .int .i64 (cc : Int), .int .i64 (d : Int)] 41)
      have hnw := cells_new wr [.int .i64 (a : Int), .int .i64 (b : Int), .int .i64 (cc : Int), .int .i64 (d : Int)] 41
      have d0 := hnw 0 _ rfl
      have d1 := hnw 1 _ rfl
      have d2 := hnw 2 _ rfl
      have d3 := hnw 3 _ rfl
      rw [addNew] at d0 d1 d2 d3
      have HK2 := Lib.hid (HK1.out.trans (Kept.of_below (below_new wr (.cells #[.int .i64 (a : Int), .int .i64 (b : Int), .int .i64 (cc : Int), .int .i64 (d : Int)] 41)) [gi, go]))
      have HLE := Lib.hid (fun (w : World) (h : LabM w gi go ci co n m lab1) => refLeast_any (some ⟨gi, 0, none⟩) n ci a b (lab1 false) w (Rd.of_own h.hi) (by omega) hbn (by omega))
      have HM2 := Lib.hid hM2
      clear hnw hM1 hM2
      obtain ⟨v0, hv0⟩ : ∃ v0, leastS (lab1 false) a b = v0 := ⟨_, rfl⟩
      rw [hv0] at HLE
      have HV0 := Lib.hid hv0
      clear hv0
      go_wp2_with fail
      refine (HLE.out _ HM2.out).mono ?_
      rintro e w1 ⟨rfl, hb1⟩
      have HM3 := Lib.hid (HM2.out.below hb1)
      have HK3 := Lib.hid (HK2.out.trans (Kept.of_below hb1 [gi, go]))
      have e0 := cell_below hb1 d0
      have e1 := cell_below hb1 d1
      have e2 := cell_below hb1 d2
      have e3 := cell_below hb1 d3
      clear hb1 d0 d1 d2 d3 c0 c1 c2 c3
      obtain ⟨bk, hbk⟩ : ∃ bk, wr.heap.size = bk := ⟨_, rfl⟩
      simp only [hbk] at e0 e1 e2 e3 l1
      go_wp2_with fail
      try simp only [hbk]
      refine (refRight_any (cc : Int) (d : Int) _).mono ?_
      rintro e w2 ⟨rfl, hb2⟩
      have HM4 := Lib.hid (HM3.out.below hb2)
      have HK4 := Lib.hid (HK3.out.trans (Kept.of_below hb2 [gi, go]))
      have f0 := cell_below hb2 e0
      have f1 := cell_below hb2 e1
      have f2 := cell_below hb2 e2
      have f3 := cell_below hb2 e3
      clear hb2 e0 e1 e2 e3
      obtain ⟨hcd, hdm⟩ | ⟨rfl, rfl⟩ := hcd
      · rw [show rightB ((cc : Int), (d : Int)) = true by unfold rightB; exact decide_eq_true (by omega)]
        have HL2 := Lib.hid (fun (w : World) (h : LabM w gi go ci co n m lab1) => refLeast_any (some ⟨go, 0, none⟩) m co cc d (lab1 true) w (Rd.of_own h.ho) (by omega) hdm (by omega))
        obtain ⟨v1, hv1⟩ : ∃ v1, leastS (lab1 true) cc d = v1 := ⟨_, rfl⟩
        rw [hv1] at HL2
        have HV1 := Lib.hid hv1
        clear hv1
        go_wp2_with fail
        refine (HL2.out _ HM4.out).mono ?_
        rintro e w3 ⟨rfl, hb3⟩
        have HM5 := Lib.hid (HM4.out.below hb3)
        have HK5 := Lib.hid (HK4.out.trans (Kept.of_below hb3 [gi, go]))
        have g0 := cell_below hb3 f0
        have g1 := cell_below hb3 f1
        have g2 := cell_below hb3 f2
        have g3 := cell_below hb3 f3
        clear hb3 f0 f1 f2 f3
        have hstep : ∀ v, v = minI v0 v1 → LinkSt (l.map ncOf) n m (k + 1) lab (put (put lab1 true (setTo (lab1 true) cc d v)) false (setTo (lab1 false) a b v)) (changedB (lab1 false) a b v || (changedB (lab1 true) cc d v || ch)) := fun v hv => link_both HS1.out HN.out ha hbn hcd hdm v (by rw [hv, HV0.out, HV1.out])
        have HST := Lib.hid hstep
        clear hstep
        obtain ⟨v, hv⟩ : ∃ v, min v0 v1 = v := ⟨_, rfl⟩
        have HST2 := Lib.hid (HST.out v (by rw [← hv]; unfold minI; omega))
        have HSM := Lib.hid (fun (w : World) (h : LabM w gi go ci co n m lab1) => refSame_any 0 go co m cc d (lab1 true) v w HLY.out h.ho (Nat.zero_le _) (by omega) hdm (by omega))
        have HSI := Lib.hid (fun (w : World) (h : LabM w gi go ci co n m (put lab1 true (setTo (lab1 true) cc d v))) => refSame_any 0 gi ci n a b (lab1 false) v w HLX.out h.hi (Nat.zero_le _) (by omega) hbn (by omega))
        obtain ⟨p1, hp1⟩ : ∃ p1, changedB (lab1 true) cc d v = p1 := ⟨_, rfl⟩
        obtain ⟨p2, hp2⟩ : ∃ p2, changedB (lab1 false) a b v = p2 := ⟨_, rfl⟩
        rw [hp1] at HST2 HSM
        rw [hp2] at HST2 HSI
        have HVE := Lib.hid hv
        clear hp1 hp2 HST hv
        go_wp2_with fail
        simp only [HVE.out]
        refine (HSM.out _ HM5.out).mono ?_
        rintro e w4 ⟨rfl, ho4, hg4⟩
        have hM6 := HM5.out.out ho4 hg4
        have HM6 := Lib.hid hM6
        have HK6 := Lib.hid (HK5.out.trans (Kept.of_grown hg4 (show go ∈ [gi, go] by simp)))
        have i0 := (hg4.cell_far ⟨bk, 0, none⟩ (cell_lt g0) (by simp; omega)).trans g0
        have i1 := (hg4.cell_far ⟨bk, 1, none⟩ (cell_lt g1) (by simp; omega)).trans g1
        clear g0 g1 g2 g3 ho4 hg4 hM6
        cases p1 <;> cases p2
        all_goals
          go_wp2_with fail
          refine (HSI.out _ HM6.out).mono ?_
          rintro e w5 ⟨rfl, ho5, hg5⟩
          have HM7 := Lib.hid (HM6.out.in_ ho5 hg5)
          have HK7 := Lib.hid (HK6.out.trans (Kept.of_grown hg5 (show gi ∈ [gi, go] by simp)))
          clear i0 i1 ho5 hg5
          go_wp2_with fail
          go_roundw
          case rel => exact ⟨k + 1, _, _, by omega, by go_num, rfl, HM7.out, HST2.out, HK7.out⟩
          case measure => simp [intOf]; omega
      · rw [show rightB (((0 : Nat) : Int), ((0 : Nat) : Int)) = false by decide]
        have HST2 := Lib.hid (link_in HS1.out HN.out ha hbn (Nat.le_refl 0) v0 HV0.out.symm)
        have HSI := Lib.hid (fun (w : World) (h : LabM w gi go ci co n m lab1) => refSame_any 0 gi ci n a b (lab1 false) v0 w HLX.out h.hi (Nat.zero_le _) (by omega) hbn (by omega))
        simp only at HST2
        obtain ⟨p2, hp2⟩ : ∃ p2, changedB (lab1 false) a b v0 = p2 := ⟨_, rfl⟩
        rw [hp2] at HST2 HSI
        clear hp2 f2 f3
        cases p2
        all_goals
          go_wp2_with fail
          refine (HSI.out _ HM4.out).mono ?_
          rintro e w5 ⟨rfl, ho5, hg5⟩
          have HM7 := Lib.hid (HM4.out.in_ ho5 hg5)
          have HK7 := Lib.hid (HK4.out.trans (Kept.of_grown hg5 (show gi ∈ [gi, go] by simp)))
          clear ho5 hg5
          go_wp2_with fail
          go_roundw
          case rel => exact ⟨k + 1, _, _, by omega, by go_num, rfl, HM7.out, HST2.out, HK7.out⟩
          case measure => simp [intOf]; omega
    · have hkq : k = q := by omega
      have HE := Lib.hid (turn_end (show LinkSt (l.map ncOf) n m (l.map ncOf).length lab lab1 ch by rw [List.length_map, HL.out, ← hkq]; exact hS1))
      obtain ⟨p1, p2, h1, h2, h3⟩ := HE.out
      have HW1 := Lib.hid (fun (w : World) (h : LabM w gi go ci co n m lab1) => refWhole_any 0 gi ci n (lab1 false) w hS1.lx h.hi (Nat.zero_le _) (by omega))
      have HW2 := Lib.hid (fun (w : World) (h : LabM w gi go ci co n m (put lab1 false (wholeFrom n 0 (lab1 false, false)).1)) => refWhole_any 0 go co m (lab1 true) w hS1.ly h.ho (Nat.zero_le _) (by omega))
      have HT := Lib.hid h3
      rw [h1] at HW1
      rw [h2] at HW2
      have HM1 := Lib.hid hM1
      have HK1 := Lib.hid hK1
      clear h1 h2 h3 HE hkq hS1 hM1 hK1
      have e2 : put (put lab1 false (wholeFrom n 0 (lab1 false, false)).1) true (wholeFrom m 0 (lab1 true, false)).1 = labs (wholeFrom n 0 (lab1 false, false)).1 (wholeFrom m 0 (lab1 true, false)).1 := by
        funext t; cases t <;> rfl
      have HE2 := Lib.hid e2
      clear e2
      cases ch <;> cases p1 <;> cases p2
      all_goals
        go_wp2_with fail
        refine (HW1.out _ HM1.out).mono ?_
        rintro e w4 ⟨rfl, ho4, hg4⟩
        have HM6 := Lib.hid (HM1.out.in_ ho4 hg4)
        have HK6 := Lib.hid (HK1.out.trans (Kept.of_grown hg4 (show gi ∈ [gi, go] by simp)))
        clear ho4 hg4
        go_wp2_with fail
        refine (HW2.out _ HM6.out).mono ?_
        rintro e w5 ⟨rfl, ho5, hg5⟩
        have HM7 := Lib.hid (HM6.out.out ho5 hg5)
        have HK7 := Lib.hid (HK6.out.trans (Kept.of_grown hg5 (show go ∈ [gi, go] by simp)))
        rw [HE2.out] at HM7
        clear ho5 hg5
        go_wp2_with fail
        go_ret
        exact ⟨_, _, rfl, HM7.out, HT.out, HK7.out⟩
end Go.Proofs.YtcbiaeeifclieaaGreatDoor
/- The reference's wrong: what is wrong with links. -/
namespace Go.Proofs.YtcbiaeeifclieaaGreatDoor
open Go.RowKit

def outStep (xs : List Bool) (c : Cl) : List Bool := fillB xs c.2.1.toNat c.2.2.toNat
def outedS (m : Nat) (l : List Cl) : List Bool := l.foldl outStep (List.replicate m false)
/-- What is wrong with links, as a number. -/
def wrongS (n m : Nat) (l : List Cl) : Int := if fitB (n : Int) (m : Int) l = false then 1 else if m = 0 ∧ 0 < n then 8 else if n = 0 ∧ 0 < m then 13 else if (outedS m l).all id = true then 0 else 13
theorem boolSliceB : SliceOf Tryz.prog 119 4 1 1 := .mk_ (z := .bool false) Tryz.underlying119 (by kernel_rfl) rfl
theorem all_take {xs : List Bool} {k : Nat} (h : xs[k]? = some true) (ht : (xs.take k).all id = true) : (xs.take (k + 1)).all id = true := by
  rw [List.take_add_one, h, List.all_append, ht]
  rfl
theorem all_not {xs : List Bool} {k : Nat} (h : xs[k]? = some false) : xs.all id = false := by
  rw [List.all_eq_false]
  exact ⟨false, List.mem_of_getElem? h, by simp⟩
set_option maxRecDepth 100000 in
set_option maxHeartbeats 4000000 in
theorem refWrong_any (n m q c : Nat) (A : Option Addr) (l : List Cl) (w : World) (hr : Rd w 4 A q (cellsC l)) (hq : q ≤ 1000000) (hn : n ≤ 16777216) (hm : m ≤ 16777216) :
    Calls Tryz.prog 86 #[.int .i64 (n : Int), .int .i64 (m : Int), .slice A q c] w fun e w' => e = .returned (.int .i64 (wrongS n m l)) ∧ Below w.heap.size w w' := by
  have hlen : l.length = q := by have := hr.1; rw [cellsC_len] at this; omega
  have HL := Lib.hid hlen
  have HR := Lib.hid hr
  have HN := Lib.hid (show fitN (n : Int) (m : Int) = true by unfold fitN; exact decide_eq_true (by omega))
  have HW : Hid (wrongS n m l = if fitB (n : Int) (m : Int) l = false then 1 else if m = 0 ∧ 0 < n then 8 else if n = 0 ∧ 0 < m then 13 else if (outedS m l).all id = true then 0 else 13) := Lib.hid rfl
  clear hlen hr
  generalize wrongS n m l = W at *
  go_enter Tryz.func86, Tryz.ntmps86
  go_wp2_with (at_make; refine wpList_mkFull rfl _ _ _ rfl (base := w.heap.size) (z := .bool false) (bytes := 1) Tryz.underlying119 (by kernel_rfl) rfl _ _ m rfl rfl rfl rfl (by omega) (by unfold maxLen; omega) (Nat.le_refl _) ?_; intro w0 hown0 hg0)
  have hb0 : Below w.heap.size w w0 := (Below.refl _ _).grown hg0 (Nat.le_refl _) (fun k h => by cases h)
  go_loopw [8] (fun i wr => ∃ (k : Nat) (xs : List Bool), k ≤ q ∧ i = .int .i64 (k : Int) ∧ fitB (n : Int) (m : Int) l = (l.drop k).all (fitC n m) ∧ outedS m l = (l.drop k).foldl outStep xs ∧ xs.length = m ∧ wr.ownsRow w.heap.size 4 1 (.slice (some ⟨w.heap.size, 0, none⟩) m m) m (xs.map Value.bool) ∧ Below w.heap.size w wr ∧ w.heap.size < wr.heap.size) (fun i _ => q - (intOf i).toNat)
  case atStart =>
    exact ⟨0, List.replicate m false, Nat.zero_le _, rfl, by unfold fitB; rw [HN.out, List.drop_zero]; rfl, rfl, by simp, by rw [List.map_replicate]; exact hown0, hb0, (hown0.lt _ rfl).2⟩
  case round =>
    obtain ⟨k, xs, hk, rfl, hf, hh, hxl, hown, hb, hlt0⟩ := hrel
    have HF := Lib.hid hf
    have HH := Lib.hid hh
    have HX := Lib.hid hxl
    clear hf hh hxl hown0 hg0 hb0
    by_cases hlt : k < q
    · obtain ⟨x, hx⟩ : ∃ x, l[k]? = some x := ⟨_, List.getElem?_eq_getElem (by rw [HL.out]; exact hlt)⟩
      have HS := Lib.hid (all_split (fitC n m) hx)
      have HD := Lib.hid (dropCons hx)
      obtain ⟨ad, rfl, hab, c0, c1, c2, c3⟩ := (HR.out.below hb).clus hx
      obtain ⟨⟨x1, x2⟩, ⟨x3, x4⟩⟩ := x
      simp only at c0 c1 c2 c3
      clear hx
      have hb1 := hb.alloc hb.size (.cells #[.int .i64 x1, .int .i64 x2, .int .i64 x3, .int .i64 x4] 41)
      have hown1 := hown.alloc (.cells #[.int .i64 x1, .int .i64 x2, .int .i64 x3, .int .i64 x4] 41)
      have hnw := cells_new wr [.int .i64 x1, .int .i64 x2, .int .i64 x3, .int .i64 x4] 41
      have d1 := hnw 1 _ rfl
      have d2 := hnw 2 _ rfl
      have d3 := hnw 3 _ rfl
      rw [addNew] at d1 d2 d3
      have HO1 := Lib.hid hown1
      have HO := Lib.hid hown
      clear hnw hown1 hown
      have HFC := Lib.hid (show fitC n m ((x1, x2), (x3, x4)) = (rightB (x1, x2) && decide (x2 ≤ n) && (rightB (x3, x4) && decide (x4 ≤ m))) from rfl)
      go_wp2_with fail
      refine (refRight_any x1 x2 _).mono ?_
      rintro e w1 ⟨rfl, hw1⟩
      have g1 := cell_below hw1 d1
      have g2 := cell_below hw1 d2
      have g3 := cell_below hw1 d3
      have hb2 := hb1.trans (hw1.mono hb1.size)
      have HO2 := Lib.hid (own_below HO1.out hw1)
      clear d1 d2 d3
      rcases h1 : rightB (x1, x2) with _ | _
      · have HV := Lib.hid (show W = 1 by rw [HW.out, HF.out, HS.out, HFC.out, h1]; rfl)
        go_wp2_with fail
        go_ret
        exact ⟨by rw [HV.out]; rfl, hb2⟩
      · go_wp2_with fail
        refine (refRight_any x3 x4 _).mono ?_
        rintro e w2 ⟨rfl, hw2⟩
        have f1 := cell_below hw2 g1
        have f2 := cell_below hw2 g2
        have f3 := cell_below hw2 g3
        have hb3 := hb2.trans (hw2.mono hb2.size)
        have HO3 := Lib.hid (own_below HO2.out hw2)
        have hsz : wr.heap.size < w2.heap.size := cell_lt f1
        clear g1 g2 g3
        rcases h3 : rightB (x3, x4) with _ | _
        · have HV := Lib.hid (show W = 1 by rw [HW.out, HF.out, HS.out, HFC.out, h1, h3]; simp)
          go_wp2_with fail
          go_ret
          exact ⟨by rw [HV.out]; rfl, hb3⟩
        · by_cases h2 : x2 ≤ n
          · by_cases h4 : x4 ≤ m
            · have hx34 : 0 ≤ x3 ∧ x3 < x4 := by unfold rightB at h3; simpa using h3
              obtain ⟨lo, rfl⟩ : ∃ lo : Nat, x3 = lo := ⟨x3.toNat, by omega⟩
              obtain ⟨hi, rfl⟩ : ∃ hi : Nat, x4 = hi := ⟨x4.toNat, by omega⟩
              have hlh : lo < hi ∧ hi ≤ m := by omega
              obtain ⟨hlh, hhn⟩ := hlh
              have HFN := Lib.hid (show fitB (n : Int) (m : Int) l = (l.drop (k + 1)).all (fitC n m) by rw [HF.out, HS.out, HFC.out, h1, h3]; simp [h2, h4])
              have HHN := Lib.hid (show outedS m l = (l.drop (k + 1)).foldl outStep (fillB xs lo hi) by rw [HH.out, HD.out]; rfl)
              have HLE := Lib.hid (show (fillB xs lo hi).length = m by rw [fillB_len (by omega) (by rw [HX.out]; exact hhn), HX.out])
              clear hx34 h1 h3
              obtain ⟨b, hbb⟩ : ∃ b, wr.heap.size = b := ⟨_, rfl⟩
              simp only [hbb] at f1 f2 f3 hsz hlt0
              go_wp2_with fail
              try simp only [hbb]
              go_loopw [10] (fun i ws => ∃ j : Nat, lo ≤ j ∧ j ≤ hi ∧ i = .int .i64 (j : Int) ∧ ws.ownsRow w.heap.size 4 1 (.slice (some ⟨w.heap.size, 0, none⟩) m m) m ((fillB xs lo j).map Value.bool) ∧ Below w.heap.size w ws ∧ ws.cell? ⟨b, 3, none⟩ = some (.int .i64 (hi : Int)) ∧ b < ws.heap.size) (fun i _ => hi - (intOf i).toNat)
              case atStart => exact ⟨lo, Nat.le_refl _, Nat.le_of_lt hlh, rfl, by rw [fillB_start]; exact HO3.out, hb3, f3, hsz⟩
              case round =>
                obtain ⟨j, hlj, hjh, rfl, hownr, hbr, hc3, hbs⟩ := hrel
                clear f1 f2 f3
                by_cases hjt : j < hi
                · have HST0 := Lib.hid (fillB_step (xs := xs) hlj (by rw [HX.out]; omega))
                  have hfx := hownr.frozenAt j
                  obtain ⟨bj, hbj⟩ : ∃ bj, wr.cell? ⟨w.heap.size, j, none⟩ = some bj := ⟨_, by rw [hownr.cellAt j (by omega)]; exact List.getElem?_eq_getElem (by rw [List.length_map, fillB_len hlj (by rw [HX.out]; omega), HX.out]; omega)⟩
                  have hst := hownr.stored j (.bool true)
                  rw [← List.map_set] at hst
                  have HST := Lib.hid hst
                  have hbe := hbr.setCell (p := ⟨w.heap.size, j, none⟩) (Nat.le_refl _) (.bool true)
                  have hc4 : (wr.setCell ⟨w.heap.size, j, none⟩ (.bool true)).cell? ⟨b, 3, none⟩ = some (.int .i64 (hi : Int)) := (World.cell?_setCell_other (h := by first | (simp; done) | (simp; omega)) ..).trans hc3
                  clear hst
                  go_wp2_with fail
                  go_roundw
                  case rel => exact ⟨j + 1, by omega, by omega, by go_num, by rw [← HST0.out]; exact HST.out.1, hbe, hc4, by simpa [World.setCell] using hbs⟩
                  case measure => simp [intOf]; omega
                · have HJ := Lib.hid (show j = hi by omega)
                  go_wp2_with fail
                  go_roundw
                  case rel => exact ⟨k + 1, fillB xs lo hi, by omega, by go_num, HFN.out, HHN.out, HLE.out, by rw [← HJ.out]; exact hownr, hbr, by omega⟩
                  case measure => simp [intOf]; omega
            · have HV := Lib.hid (show W = 1 by rw [HW.out, HF.out, HS.out, HFC.out, h1, h3, decide_eq_false h4]; simp)
              go_wp2_with fail
              go_ret
              exact ⟨by rw [HV.out]; rfl, hb3⟩
          · have HV := Lib.hid (show W = 1 by rw [HW.out, HF.out, HS.out, HFC.out, h1, h3, decide_eq_false h2]; simp)
            go_wp2_with fail
            go_ret
            exact ⟨by rw [HV.out]; rfl, hb3⟩
    · have hkq : k = q := by omega
      have HFT := Lib.hid (show fitB (n : Int) (m : Int) l = true by rw [HF.out, hkq, ← HL.out, List.drop_length]; rfl)
      have HXS := Lib.hid (show outedS m l = xs by rw [HH.out, hkq, ← HL.out, List.drop_length]; rfl)
      have HV : Hid (W = if m = 0 ∧ 0 < n then 8 else if n = 0 ∧ 0 < m then 13 else if xs.all id = true then 0 else 13) := Lib.hid (by rw [HW.out, HFT.out, HXS.out]; rfl)
      clear HFT HXS HW HF HH hkq
      have hc : (m = 0 ∧ 0 < n) ∨ (0 < m ∧ n = 0) ∨ ¬ ((m = 0 ∧ 0 < n) ∨ (n = 0 ∧ 0 < m)) := by omega
      rcases hc with h | h | h
      · have HZ := Lib.hid (show W = 8 by rw [HV.out, if_pos h])
        have g1 : ((m : Int) == 0) = true := by simp; omega
        have g2 : 0 < (n : Int) := by omega
        clear h HV
        go_wp2_with fail
        go_ret
        exact ⟨by rw [HZ.out]; rfl, hb⟩
      · have HZ := Lib.hid (show W = 13 by rw [HV.out, if_neg (by omega), if_pos ⟨h.2, h.1⟩])
        have g1 : ((m : Int) == 0) = false := by simp; omega
        have g2 : ((n : Int) == 0) = true := by simp; omega
        have g3 : 0 < (m : Int) := by omega
        clear h HV
        go_wp2_with fail
        go_ret
        exact ⟨by rw [HZ.out]; rfl, hb⟩
      · have HZ := Lib.hid (show W = if xs.all id = true then 0 else 13 by rw [HV.out, if_neg (fun e => h (.inl e)), if_neg (fun e => h (.inr e))])
        have h2 : (m = 0 ∧ n = 0) ∨ (0 < m ∧ 0 < n) := by omega
        clear h HV
        have hg : ∃ p, ((m : Int) == 0) = p ∧ ((n : Int) == 0) = p ∧ (p = true → ¬ 0 < (n : Int) ∧ ¬ 0 < (m : Int)) := by
          rcases h2 with h2 | h2
          · exact ⟨true, by simp; omega, by simp; omega, fun _ => by omega⟩
          · exact ⟨false, by simp; omega, by simp; omega, fun e => by cases e⟩
        clear h2
        obtain ⟨p, g1, g2, g3⟩ := hg
        have hdone : ∀ (k : Nat), ¬ k < m → k ≤ m → (xs.take k).all id = true → W = 0 := fun k h1 h2 h3 => by
          rw [HZ.out, if_pos]
          rwa [List.take_of_length_le (by rw [HX.out]; omega)] at h3
        have HDN := Lib.hid hdone
        have HBAD := Lib.hid (fun (k : Nat) (h : xs[k]? = some false) => show W = 13 by rw [HZ.out, all_not h]; rfl)
        clear hdone HZ
        cases p
        case' true => obtain ⟨g4, g5⟩ := g3 rfl
        all_goals
          clear g3
          go_wp2_with fail
          go_loopw [11] (fun i ws => ∃ j : Nat, j ≤ m ∧ i = .int .i64 (j : Int) ∧ (xs.take j).all id = true ∧ ws.ownsRow w.heap.size 4 1 (.slice (some ⟨w.heap.size, 0, none⟩) m m) m (xs.map Value.bool) ∧ Below w.heap.size w ws) (fun i _ => m - (intOf i).toNat)
          case atStart => exact ⟨0, Nat.zero_le _, rfl, rfl, hown, hb⟩
          case round =>
            clear hown hb
            obtain ⟨j, hj, rfl, ha, hown, hb⟩ := hrel
            have HA := Lib.hid ha
            clear ha
            by_cases hjm : j < m
            · obtain ⟨y, hy⟩ : ∃ y, xs[j]? = some y := ⟨_, List.getElem?_eq_getElem (by rw [HX.out]; exact hjm)⟩
              have cj : wr.cell? ⟨w.heap.size, j, none⟩ = some (.bool y) := by rw [hown.cellAt j (by omega), List.getElem?_map, hy]; rfl
              have HY := Lib.hid hy
              clear hy
              cases y with
              | true =>
                go_wp2_with fail
                go_roundw
                case rel => exact ⟨j + 1, by omega, by go_num, all_take HY.out HA.out, hown, hb⟩
                case measure => simp [intOf]; omega
              | false =>
                go_wp2_with fail
                go_ret
                exact ⟨by rw [HBAD.out j HY.out]; rfl, hb⟩
            · have HE := Lib.hid (HDN.out j hjm hj HA.out)
              go_wp2_with fail
              go_ret
              exact ⟨by rw [HE.out]; rfl, hb⟩
end Go.Proofs.YtcbiaeeifclieaaGreatDoor
/- The reference's Finest, walked: labels, turns till nothing changes, the clusters that they tell. -/
namespace Go.Proofs.YtcbiaeeifclieaaGreatDoor
open Go.RowKit

def upI (off : Int) (n k : Nat) : List Int := (List.range n).map fun j => if j < k then off + (j : Int) else 0
theorem upI_len (off : Int) (n k : Nat) : (upI off n k).length = n := by simp [upI]
theorem upI_zero (off : Int) (n : Nat) : upI off n 0 = List.replicate n 0 := by
  apply List.ext_getElem <;> simp [upI]
theorem upI_succ {off : Int} {n k : Nat} : (upI off n k).set k (off + (k : Int)) = upI off n (k + 1) := by
  apply List.ext_getElem
  · simp [upI]
  · intro j h1 h2
    simp only [upI, List.getElem_set, List.getElem_map, List.getElem_range]
    split <;> split <;> (try split) <;> omega
theorem upI_at {off : Int} {n i : Nat} {v : Int} (h : (upI off n n)[i]? = some v) : i < n ∧ v = off + (i : Int) := by
  have hi := (List.getElem?_eq_some_iff.1 h).1
  rw [upI_len] at hi
  unfold upI at h
  rw [List.getElem?_map, List.getElem?_range hi] at h
  simp only [Option.map_some, Option.some.injEq] at h
  rw [if_pos hi] at h
  exact ⟨hi, h.symm⟩
/-- The labels that the reference begins with. -/
def lab0 (n m : Nat) : Bool → List Int := labs (upI 0 n n) (upI (n : Int) m m)
theorem lab0_at {n m : Nat} {p : Pl} {v : Int} (h : lamOf (lab0 n m) p = some v) : (p.1 = false ∧ p.2 < n ∧ v = (p.2 : Int)) ∨ (p.1 = true ∧ v = (n : Int) + (p.2 : Int)) := by
  obtain ⟨s, i⟩ := p
  cases s with
  | false =>
    obtain ⟨h1, h2⟩ := upI_at (off := 0) (show (upI 0 n n)[i]? = some v from h)
    exact .inl ⟨rfl, h1, by omega⟩
  | true =>
    obtain ⟨h1, h2⟩ := upI_at (show (upI (n : Int) m m)[i]? = some v from h)
    exact .inr ⟨rfl, h2⟩
theorem lab0_sound (L : List NC) (n m : Nat) : SoundLab L (lab0 n m) := fun p q v h1 h2 => by
  have : p = q := by
    obtain ⟨s, i⟩ := p
    obtain ⟨t, j⟩ := q
    rcases lab0_at h1 with ⟨a1, a2, a3⟩ | ⟨a1, a2⟩ <;> rcases lab0_at h2 with ⟨b1, b2, b3⟩ | ⟨b1, b2⟩ <;> simp only at a1 b1 <;> subst a1 b1 <;> simp only [Prod.mk.injEq, true_and, reduceCtorEq, false_and]
    all_goals first | omega | (simp only at *; omega)
  rw [this]
  exact .refl _
theorem lab0_pos (n m : Nat) : PosLab (lab0 n m) := fun p v h => by
  rcases lab0_at h with ⟨_, _, h⟩ | ⟨_, h⟩ <;> omega
theorem sum_pos : ∀ (l : List Int), (∀ x ∈ l, 0 ≤ x) → 0 ≤ l.sum
  | [], _ => Int.le_refl _
  | x :: l, h => by
    rw [List.sum_cons]
    have h1 := h x (List.mem_cons_self ..)
    have h2 := sum_pos l (fun y hy => h y (List.mem_cons_of_mem _ hy))
    omega
theorem tot_pos {lab : Bool → List Int} (h : PosLab lab) : 0 ≤ totLab lab := by
  have key : ∀ s, 0 ≤ (lab s).sum := fun s => sum_pos _ fun x hx => by
    obtain ⟨i, hi⟩ := List.getElem?_of_mem hx
    exact h (s, i) x hi
  have h1 := key false
  have h2 := key true
  unfold totLab
  omega
theorem own_blkZ {W : World} {g n : Nat} {xs : List Int} (h : W.heap[g]? = some (.cells (intsZ xs).toArray 3 (0, 0))) (hl : xs.length = n) (hn : n ≤ 100000000) : W.ownsRow 0 3 1 (.slice (some ⟨g, 0, none⟩) n n) n (xs.map (Value.int .i64)) := by
  refine ⟨by simp [hl], .inr ⟨g, n, _, rfl, Nat.zero_le _, h, Nat.le_refl _, by unfold maxLen; omega, ?_, ?_⟩⟩
  · simp [intsZ, hl]
  · simp only [intsZ, Nat.mul_one, List.drop_zero]
    exact List.take_of_length_le (by simp [hl])
theorem labM_new {w1 w2 : World} {n m gi go : Nat} {xs ys : List Int} (h1 : w2.heap[gi]? = some (.cells (intsZ xs).toArray 3 (0, 0))) (h2 : w2.heap[go]? = some (.cells (intsZ ys).toArray 3 (0, 0))) (l1 : xs.length = n) (l2 : ys.length = m) (b1 : n ≤ 100000000) (b2 : m ≤ 100000000) (hne : gi ≠ go) :
    LabM w2 gi go n m n m (labs xs ys) := ⟨own_blkZ h1 l1 b1, own_blkZ h2 l2 b2, hne⟩
theorem two_heap (w : World) (o0 o1 : Obj) : ((w.alloc o0).alloc o1).drew.heap[w.heap.size]? = some o0 ∧ ((w.alloc o0).alloc o1).drew.heap[w.heap.size + 1]? = some o1 ∧ Below w.heap.size w ((w.alloc o0).alloc o1).drew := by
  have h1 := heap_alloc_new (w.alloc o0) o1
  simp only [World.size_alloc] at h1
  refine ⟨?_, by simp only [heap_drew]; exact h1, (((Below.refl _ _).alloc (Nat.le_refl _) _).alloc (by simp) _).drew⟩
  simp only [heap_drew]
  rw [heap_alloc_old (h := by simp)]
  exact heap_alloc_new w _
end Go.Proofs.YtcbiaeeifclieaaGreatDoor
/- Labels in memory: one stored; the turns' measure; what the clusters are made of. -/
namespace Go.Proofs.YtcbiaeeifclieaaGreatDoor
open Go.RowKit

section
variable {w : World} {gi go ci co n m : Nat} {lab : Bool → List Int}
theorem LabM.set_in (h : LabM w gi go ci co n m lab) (k : Nat) (v : Int) : LabM (w.setCell ⟨gi, k, none⟩ (.int .i64 v)) gi go ci co n m (put lab false ((lab false).set k v)) := by
  refine ⟨?_, own_set_far (show w.ownsRow 0 3 1 (.slice (some ⟨go, 0, none⟩) m co) m (((put lab false ((lab false).set k v)) true).map (Value.int .i64)) by rw [put_other lab (by decide)]; exact h.ho) (fun e => h.ne (Option.some.inj e).symm), h.ne⟩
  have := h.hi.stored k (.int .i64 v)
  rw [put_at, List.map_set]
  exact this.1
theorem LabM.set_out (h : LabM w gi go ci co n m lab) (k : Nat) (v : Int) : LabM (w.setCell ⟨go, k, none⟩ (.int .i64 v)) gi go ci co n m (put lab true ((lab true).set k v)) := by
  refine ⟨own_set_far (show w.ownsRow 0 3 1 (.slice (some ⟨gi, 0, none⟩) n ci) n (((put lab true ((lab true).set k v)) false).map (Value.int .i64)) by rw [put_other lab (by decide)]; exact h.hi) (fun e => h.ne (Option.some.inj e)), ?_, h.ne⟩
  have := h.ho.stored k (.int .i64 v)
  rw [put_at, List.map_set]
  exact this.1
theorem LabM.grown {w' : World} {b : Option Nat} (h : LabM w gi go ci co n m lab) (hg : w.grownBy w' b) (h1 : b ≠ some gi) (h2 : b ≠ some go) : LabM w' gi go ci co n m lab :=
  ⟨h.hi.kept hg (.inr (fun e => h1 e.symm)), h.ho.kept hg (.inr (fun e => h2 e.symm)), h.ne⟩
end
theorem cellsC_one : ∀ (l : List Cl), ∀ u ∈ cellsC l, u.oneCell' = true
  | [], u, h => by simp [cellsC] at h
  | c :: l, u, h => by
    have h' : u ∈ encC c ++ cellsC l := h
    rcases List.mem_append.1 h' with h | h
    · simp [encC] at h
      rcases h with rfl | rfl | rfl | rfl <;> rfl
    · exact cellsC_one l u h
theorem cellsC_append (a b : List Cl) : cellsC (a ++ b) = cellsC a ++ cellsC b := by simp [cellsC]
theorem below_self' {w a b : World} (h : Below w.heap.size w a) (k : Below a.heap.size a b) : Below w.heap.size w b := h.trans (k.mono h.size)
/-- The state while the reference puts its links together. -/
structure L3 (w ws : World) (gi go n m : Nat) (lab : Bool → List Int) (H : Option Addr) (ch : Nat) (h : List Bool) (b0 : Nat) (v : Value) (L : List Cl) : Prop where
  lab : LabM ws gi go n m n m lab
  has : ws.ownsRow 0 4 1 (.slice H n ch) n (h.map Value.bool)
  all : ws.ownsRow b0 41 4 v L.length (cellsC L)
  far : gi < b0 ∧ go < b0 ∧ w.heap.size ≤ b0 ∧ b0 ≤ ws.heap.size
  ne : (Value.slice H n ch).ownBlock = none ∨ (Value.slice H n ch).ownBlock ≠ v.ownBlock
  below : Below w.heap.size w ws
theorem L3.low {w ws w' : World} {gi go n m : Nat} {lab : Bool → List Int} {H : Option Addr} {ch : Nat} {h : List Bool} {b0 : Nat} {v : Value} {L : List Cl} (s : L3 w ws gi go n m lab H ch h b0 v L) (hb : Below ws.heap.size ws w') : L3 w w' gi go n m lab H ch h b0 v L :=
  ⟨s.lab.below hb, own_below s.has hb, own_below s.all hb, ⟨s.far.1, s.far.2.1, s.far.2.2.1, Nat.le_trans s.far.2.2.2 hb.size⟩, s.ne, below_self' s.below hb⟩
theorem L3.app {w ws w' : World} {gi go n m : Nat} {lab : Bool → List Int} {H : Option Addr} {ch : Nat} {h : List Bool} {b0 k : Nat} {v v' : Value} {L M : List Cl} (s : L3 w ws gi go n m lab H ch h b0 v L) (hl : M.length = k) (hown : w'.ownsRow b0 41 4 v' (L.length + k) (cellsC L ++ cellsC M)) (hg : ws.grownBy w' v.ownBlock) (hat : v'.ownBlock = v.ownBlock ∨ v'.ownBlock = some ws.heap.size) : L3 w w' gi go n m lab H ch h b0 v' (L ++ M) := by
  have hv : ∀ b, v.ownBlock = some b → b0 ≤ b := fun b hb => (s.all.lt b hb).1
  refine ⟨s.lab.grown hg (fun e => by have := hv _ e; have := s.far.1; omega) (fun e => by have := hv _ e; have := s.far.2.1; omega), s.has.kept hg s.ne, by rw [List.length_append, cellsC_append, hl]; exact hown, ⟨s.far.1, s.far.2.1, s.far.2.2.1, Nat.le_trans s.far.2.2.2 hg.size⟩, ?_, s.below.grown hg (Nat.le_trans s.far.2.2.1 s.far.2.2.2) (fun b hb => Nat.le_trans s.far.2.2.1 (hv b hb))⟩
  rcases hat with e | e
  · rw [e]; exact s.ne
  · rcases hH : (Value.slice H n ch).ownBlock with _ | g
    · exact .inl rfl
    · refine .inr (fun e2 => ?_)
      rw [e] at e2
      have := (s.has.lt g hH).2
      have := Option.some.inj e2
      omega
end Go.Proofs.YtcbiaeeifclieaaGreatDoor
/- The reference's wrong, whatever comes in: it says the same as the program's errors. -/
namespace Go.Proofs.YtcbiaeeifclieaaGreatDoor
open Go.RowKit

theorem outed_fold {n m : Nat} (i : Nat) : ∀ (l : List Cl) (xs : List Bool), xs.length = m → (∀ x ∈ l, RealC n m x) → (l.foldl outStep xs).length = m ∧ ((l.foldl outStep xs)[i]? = some true ↔ xs[i]? = some true ∨ ∃ y ∈ l.map ncOf, y.c ≤ i ∧ i < y.d)
  | [], xs, hl, _ => ⟨hl, by simp⟩
  | c :: l, xs, hl, h => by
    obtain ⟨e, h1, h2, h3⟩ := h c (List.mem_cons_self ..)
    have e1 : outStep xs c = fillB xs (ncOf c).c (ncOf c).d := rfl
    have hb : (ncOf c).d ≤ xs.length := by omega
    have hle := Nat.le_of_lt h1.2
    obtain ⟨r1, r2⟩ := outed_fold i l (outStep xs c) (by rw [e1, fillB_len hle hb, hl]) (fun x hx => h x (List.mem_cons_of_mem _ hx))
    rw [List.foldl_cons]
    refine ⟨r1, r2.trans ?_⟩
    rw [e1, fillB_get hle hb]
    simp only [List.map_cons, List.mem_cons, exists_eq_or_imp]
    by_cases hc : (ncOf c).c ≤ i ∧ i < (ncOf c).d
    · simp [hc]
    · simp [hc]
theorem real_of {n m : Nat} {l : List Cl} (h : fitB (n : Int) (m : Int) l = true) : ∀ x ∈ l, RealC n m x := fun x hx => fitC_nat (fit_real h x hx)
theorem outed_cov {n m : Nat} {l : List Cl} (h : fitB (n : Int) (m : Int) l = true) : (outedS m l).all id = true ↔ CovP (m : Int) l := by
  have hf := fun i => outed_fold (n := n) (m := m) i l (List.replicate m false) (by simp) (real_of h)
  have hlen : (outedS m l).length = m := (hf 0).1
  have hi : ∀ i : Nat, i < m → ((outedS m l)[i]? = some true ↔ ∃ y ∈ l.map ncOf, y.c ≤ i ∧ i < y.d) := fun i hi => by
    refine (hf i).2.trans ?_
    rw [List.getElem?_replicate, if_pos hi]
    simp
  rw [List.all_eq_true]
  constructor
  · intro ha j h1 h2
    obtain ⟨v, hv⟩ : ∃ v, (outedS m l)[j.toNat]? = some v := ⟨_, List.getElem?_eq_getElem (by omega)⟩
    have hv1 : v = true := ha v (List.mem_of_getElem? hv)
    subst hv1
    obtain ⟨y, hy, h3, h4⟩ := (hi j.toNat (by omega)).1 hv
    obtain ⟨x, hx, rfl⟩ := List.mem_map.1 hy
    refine ⟨x.2, List.mem_map.2 ⟨x, hx, rfl⟩, ?_⟩
    rw [(real_of h x hx).1]
    simp only [NC.cl]
    omega
  · intro hc v hv
    obtain ⟨i, hiv⟩ := List.getElem?_of_mem hv
    have hlt := (List.getElem?_eq_some_iff.1 hiv).1
    obtain ⟨s, hs, h3, h4⟩ := hc (i : Int) (by omega) (by omega)
    obtain ⟨x, hx, rfl⟩ := List.mem_map.1 hs
    rw [(real_of h x hx).1] at h3 h4
    simp only [NC.cl] at h3 h4
    have := (hi i (by omega)).2 ⟨ncOf x, List.mem_map.2 ⟨x, hx, rfl⟩, by omega, by omega⟩
    rw [hiv] at this
    exact Option.some.inj this
theorem wrong_finE (n m : Nat) (l : List Cl) : wrongS n m l = finE (n : Int) (m : Int) l := by
  unfold wrongS finE
  cases hfit : fitB (n : Int) (m : Int) l with
  | false => simp
  | true =>
    rw [if_neg (show ¬ (true = false) by simp), if_neg (show ¬ (true = false) by simp)]
    by_cases h1 : m = 0 ∧ 0 < n
    · have k1 : (m : Int) = 0 ∧ (n : Int) ≠ 0 := ⟨by omega, by omega⟩
      rw [if_pos h1, if_pos k1]
    · have k1 : ¬ ((m : Int) = 0 ∧ (n : Int) ≠ 0) := fun h => h1 ⟨by omega, by omega⟩
      rw [if_neg h1, if_neg k1]
      by_cases h2 : n = 0 ∧ 0 < m
      · have k2 : (n : Int) = 0 ∧ (m : Int) ≠ 0 := ⟨by omega, by omega⟩
        rw [if_pos h2, if_pos k2]
      · have k2 : ¬ ((n : Int) = 0 ∧ (m : Int) ≠ 0) := fun h => h2 ⟨by omega, by omega⟩
        rw [if_neg h2, if_neg k2]
        by_cases h3 : CovP (m : Int) l
        · rw [if_pos h3, if_pos ((outed_cov hfit).2 h3)]
        · rw [if_neg h3, if_neg (fun h => h3 ((outed_cov hfit).1 h))]
set_option maxRecDepth 100000 in
set_option maxHeartbeats 1000000 in
theorem refWrong_out (n m : Int) (A : Option Addr) (q c : Nat) (w : World) (h : ¬ (0 ≤ n ∧ n ≤ 16777216 ∧ 0 ≤ m ∧ m ≤ 16777216)) :
    Calls Tryz.prog 86 #[.int .i64 n, .int .i64 m, .slice A q c] w fun e w' => e = .returned (.int .i64 1) ∧ Below w.heap.size w w' := by
  have hc : n < 0 ∨ (0 ≤ n ∧ 16777216 < n) ∨ (0 ≤ n ∧ n ≤ 16777216 ∧ m < 0) ∨ (0 ≤ n ∧ n ≤ 16777216 ∧ 0 ≤ m ∧ 16777216 < m) := by omega
  clear h
  have hb := Below.refl w.heap.size w
  go_enter Tryz.func86, Tryz.ntmps86
  rcases hc with h1 | ⟨h1, h2⟩ | ⟨h1, h2, h3⟩ | ⟨h1, h2, h3, h4⟩
  all_goals
    go_wp2_with fail
    go_ret
    exact ⟨rfl, hb⟩
theorem refWrong_all (n m : Int) (q c : Nat) (A : Option Addr) (l : List Cl) (w : World) (hr : Rd w 4 A q (cellsC l)) (hq : q ≤ 1000000) :
    Calls Tryz.prog 86 #[.int .i64 n, .int .i64 m, .slice A q c] w fun e w' => e = .returned (.int .i64 (finE n m l)) ∧ Below w.heap.size w w' := by
  by_cases h : 0 ≤ n ∧ n ≤ 16777216 ∧ 0 ≤ m ∧ m ≤ 16777216
  · obtain ⟨n1, n2, m1, m2⟩ := h
    obtain ⟨N, rfl⟩ := Int.eq_ofNat_of_zero_le n1
    obtain ⟨M, rfl⟩ := Int.eq_ofNat_of_zero_le m1
    rw [← wrong_finE]
    exact refWrong_any N M q c A l w hr hq (by omega) (by omega)
  · have hE : finE n m l = 1 := if_pos (by unfold fitB fitN; rw [decide_eq_false h]; rfl)
    rw [hE]
    exact refWrong_out n m A q c w h
end Go.Proofs.YtcbiaeeifclieaaGreatDoor
/- The reference's Finest where there is a map, walked. -/
namespace Go.Proofs.YtcbiaeeifclieaaGreatDoor
open Go.RowKit

theorem up0 {n k : Nat} (ys : List Int) : put (labs (upI 0 n k) ys) false ((labs (upI 0 n k) ys false).set k (k : Int)) = labs (upI 0 n (k + 1)) ys := by
  rw [put_false]
  congr 1
  have h := upI_succ (off := 0) (n := n) (k := k)
  rw [Int.zero_add] at h
  exact h
theorem up1 {n m k : Nat} (xs : List Int) : put (labs xs (upI (n : Int) m k)) true ((labs xs (upI (n : Int) m k) true).set k ((n : Int) + (k : Int))) = labs xs (upI (n : Int) m (k + 1)) := by
  rw [put_true]
  congr 1
  exact upI_succ (off := (n : Int)) (n := m) (k := k)
theorem labs_self (lab : Bool → List Int) : labs (lab false) (lab true) = lab := by funext t; cases t <;> rfl
set_option maxRecDepth 100000 in
set_option maxHeartbeats 4000000 in
theorem refFinest_ok (n m q c : Nat) (A : Option Addr) (l : List Cl) (l' : List NC) (w : World) (hr : Rd w 4 A q (cellsC l)) (hq : q ≤ 1000000) (hfit : fitB (n : Int) (m : Int) l = true) (hE : finE (n : Int) (m : Int) l = 0) (hn0 : n ≠ 0) (hne : l ≠ []) (hf : Finest (l.map ncOf ++ fillsOf n (l.map ncOf)) 0 n m l') :
    Calls Tryz.prog 55 #[.int .i64 (n : Int), .int .i64 (m : Int), .slice A q c] w fun e w' => ∃ v, e = .returned (.tuple #[v, .int .i64 0]) ∧ w'.ownsRow w.heap.size 41 4 v l'.length (cellsC (l'.map NC.cl)) ∧ Below w.heap.size w w' := by
  have hlen : l.length = q := by have := hr.1; rw [cellsC_len] at this; omega
  obtain ⟨n1, n2, m1, m2⟩ := fit_nums hfit
  have hnb : n ≤ 16777216 := by omega
  have hmb : m ≤ 16777216 := by omega
  have HREAL := Lib.hid (real_of hfit)
  have HF := Lib.hid (hf.same (all_fills HREAL.out hne))
  have HWR := Lib.hid (refWrong_all (n : Int) (m : Int) q c A l w hr hq)
  rw [hE] at HWR
  have HL := Lib.hid hlen
  have HR := Lib.hid hr
  have hmk1 := mk_intsZ n (by omega)
  have hmk2 := mk_intsZ m (by omega)
  clear hlen hr hf hne hE hfit n1 n2 m1 m2
  go_enter Tryz.func55, Tryz.ntmps55
  go_wp2_with fail
  refine HWR.out.mono ?_
  rintro e w1 ⟨rfl, hb1⟩
  go_upto_region 4 with fail
  go_cut [9, 10] (fun a b wx => ∃ gi go, a = .slice (some ⟨gi, 0, none⟩) n n ∧ b = .slice (some ⟨go, 0, none⟩) m m ∧ LabM wx gi go n m n m (labs (upI 0 n 0) (upI (n : Int) m 0)) ∧ Below w1.heap.size w1 wx ∧ w1.heap.size ≤ gi ∧ w1.heap.size ≤ go)
  case first =>
    go_wp2_with fail
    go_region
    all_goals (
      rename_i hJ hK
      refine hK _ _ (Met.intro (hJ _ _ ?_))
      (repeat apply Exists.intro)
      refine ⟨?_, rfl⟩)
    all_goals clear hJ hK
    all_goals rw [upI_zero, upI_zero]
    · exact ⟨w1.heap.size, w1.heap.size + 1, rfl, rfl, labM_new (w1 := w1) (two_heap w1 _ _).1 (two_heap w1 _ _).2.1 (by simp) (by simp) (by omega) (by omega) (by omega), (two_heap w1 _ _).2.2, by omega, by omega⟩
    · exact ⟨w1.heap.size + 1, w1.heap.size, rfl, rfl, labM_new (w1 := w1) (two_heap w1 _ _).2.1 (two_heap w1 _ _).1 (by simp) (by simp) (by omega) (by omega) (by omega), (two_heap w1 _ _).2.2, by omega, by omega⟩
  case rest =>
    clear hmk1 hmk2
    obtain ⟨gi, go, rfl, rfl, hM0, hbc, hgi, hgo⟩ := hcut
    have HM0 := Lib.hid hM0
    clear hM0
    go_wp2_with fail
    go_loopw [11] (fun i ws => ∃ k : Nat, i = .int .i64 (k : Int) ∧ k ≤ n ∧ LabM ws gi go n m n m (labs (upI 0 n k) (upI (n : Int) m 0)) ∧ Below w1.heap.size w1 ws) (fun i _ => n - (intOf i).toNat)
    case atStart => exact ⟨0, rfl, Nat.zero_le _, HM0.out, hbc⟩
    case round =>
      clear HM0 hbc
      obtain ⟨k, rfl, hk, hM, hb⟩ := hrel
      have HM := Lib.hid hM
      by_cases hlt : k < n
      · have hfx := hM.hi.frozenAt k
        obtain ⟨bj, hbj⟩ : ∃ bj, wr.cell? ⟨gi, k, none⟩ = some bj := ⟨_, by rw [hM.hi.cellAt k (by omega)]; exact List.getElem?_eq_getElem (by simp [labs, upI]; omega)⟩
        have HST := Lib.hid (by have h := hM.set_in k (k : Int); rw [up0] at h; exact h)
        have hbe := hb.setCell (p := ⟨gi, k, none⟩) hgi (.int .i64 (k : Int))
        clear hM hb
        go_wp2_with fail
        go_roundw
        case rel => exact ⟨k + 1, by go_num, by omega, HST.out, hbe⟩
        case measure => simp [intOf]; omega
      · have hkn : k = n := by omega
        subst hkn
        clear hM hlt
        go_wp2_with fail
        go_loopw [12] (fun i ws => ∃ j : Nat, i = .int .i64 (j : Int) ∧ j ≤ m ∧ LabM ws gi go k m k m (labs (upI 0 k k) (upI (k : Int) m j)) ∧ Below w1.heap.size w1 ws) (fun i _ => m - (intOf i).toNat)
        case atStart => exact ⟨0, rfl, Nat.zero_le _, HM.out, hb⟩
        case round =>
          clear HM hb
          obtain ⟨j, rfl, hj, hM, hb⟩ := hrel
          have HM := Lib.hid hM
          by_cases hlt : j < m
          · have hfx := hM.ho.frozenAt j
            obtain ⟨bj, hbj⟩ : ∃ bj, wr.cell? ⟨go, j, none⟩ = some bj := ⟨_, by rw [hM.ho.cellAt j (by omega)]; exact List.getElem?_eq_getElem (by simp [labs, upI]; omega)⟩
            have HST := Lib.hid (by have h := hM.set_out j ((k : Int) + (j : Int)); rw [up1] at h; exact h)
            have hbe := hb.setCell (p := ⟨go, j, none⟩) hgo (.int .i64 ((k : Int) + (j : Int)))
            clear hM hb
            go_wp2_with fail
            go_roundw
            case rel => exact ⟨j + 1, by go_num, by omega, HST.out, hbe⟩
            case measure => simp [intOf]; omega
          · have hjm : j = m := by omega
            subst hjm
            clear hlt
            have HBW := Lib.hid (below_self hb1 hb)
            have HRR := Lib.hid (HR.out.below HBW.out)
            have hg1 : gi < wr.heap.size := HM.out.lt.1
            have hg2 : go < wr.heap.size := HM.out.lt.2
            have HIN := Lib.hid (show ∀ x ∈ l, ∃ lo hi : Nat, x.1 = ((lo : Int), (hi : Int)) ∧ lo ≤ hi ∧ hi ≤ k from fun x hx => ⟨(ncOf x).a, (ncOf x).b, congrArg Prod.fst (HREAL.out x hx).1, Nat.le_of_lt (HREAL.out x hx).2.1.1, (HREAL.out x hx).2.2.1⟩)
            have HLEN := Lib.hid (show (linkedS k l).length = k from linked_len HREAL.out)
            clear hM hb
            go_wp2_with (at_builtin; refine wpList_appR rfl _ _ _ rfl clusSlice (by decide) (.slice none 0 0) 0 [] rfl (World.ownsRow_nil wr wr.heap.size _ _) A q c (cellsC l) rfl HRR.out (cellsC_one _) (by omega) (by unfold maxLen; omega) (Nat.le_refl _) ?_; intro v1 w2 hown1 hgr1 hat1; simp only [Nat.zero_add, List.nil_append] at hown1)
            have hb2 : Below wr.heap.size wr w2 := below_make (show wr.grownBy w2 none from hgr1)
            have HRR2 := Lib.hid (HRR.out.below hb2)
            refine (refLinked_any A k q c l w2 HRR2.out (by omega) (by omega) HIN.out).mono ?_
            rintro e w3 ⟨v2, rfl, hown2, hb3⟩
            obtain ⟨H, ch, rfl, _⟩ := own_form hown2
            obtain ⟨b0, hb0⟩ : ∃ b0, wr.heap.size = b0 := ⟨_, rfl⟩
            have HS0 := Lib.hid (show L3 w w3 gi go k j (lab0 k j) H ch (linkedS k l) b0 v1 (l ++ backTo (linkedS k l) 1) from
              ⟨(HM.out.below hb2).below hb3, own_base hown2 (Nat.zero_le _), by
                rw [backTo_one, List.append_nil, HL.out, ← hb0]; exact own_below hown1 hb3, by
                have h1 := HBW.out.size
                have h2 := hb2.size
                have h3 := hb3.size
                omega, by
                rcases hH : (Value.slice H k ch).ownBlock with _ | g
                · exact .inl rfl
                · refine .inr (fun e => ?_)
                  have h1 := (hown2.lt g hH).1
                  have h2 := (hown1.lt g e.symm).2
                  omega, below_self (below_self HBW.out hb2) hb3⟩)
            clear hown1 hgr1 hat1 hown2 hb2 hb3 hg1 hg2
            obtain ⟨hs, hhs⟩ : ∃ hs, linkedS k l = hs := ⟨_, rfl⟩
            rw [hhs] at HS0 HLEN
            have HHS := Lib.hid hhs
            clear hhs
            go_wp2_with fail
            clear hb0
            go_loopw [13, 15] (fun v i ws => ∃ t : Nat, 1 ≤ t ∧ t ≤ k ∧ i = .int .i64 (t : Int) ∧ L3 w ws gi go k j (lab0 k j) H ch hs b0 v (l ++ backTo hs t)) (fun _ i _ => k - (intOf i).toNat)
            case atStart => exact ⟨1, Nat.le_refl _, by omega, rfl, HS0.out⟩
            case round =>
              clear HS0
              obtain ⟨t, ht1, ht, rfl, hS⟩ := hrel
              have HS := Lib.hid hS
              have hbl := backTo_len hs t
              have hlb : (l ++ backTo hs t).length ≤ 20000000 := by rw [List.length_append, HL.out]; omega
              clear hbl
              by_cases hlt : t < k
              · obtain ⟨y, hy⟩ : ∃ y, hs[t]? = some y := ⟨_, List.getElem?_eq_getElem (by rw [HLEN.out]; exact hlt)⟩
                obtain ⟨ad, rfl, _, hc⟩ := (Rd.of_own hS.has).2 (by omega)
                have c0 := hc t (.bool y) (by rw [List.getElem?_map, hy]; rfl)
                have HY := Lib.hid hy
                clear hy hc
                cases y with
                | true =>
                  have HE := Lib.hid (backTo_yes HY.out)
                  clear hS
                  go_wp2_with fail
                  go_roundw
                  case rel => exact ⟨t + 1, by omega, by omega, by go_num, by rw [HE.out]; exact HS.out⟩
                  case measure => simp [intOf]; omega
                | false =>
                  have HE := Lib.hid (backTo_no ht1 HY.out)
                  have hsz := hS.far.2.2.2
                  have hall := hS.all
                  clear hS
                  go_wp2_with (at_builtin; refine wpList_app rfl _ _ _ rfl clusSlice (by decide) u13 (l ++ backTo hs t).length _ rfl (hall.alloc _) ⟨wr.heap.size, 0, none⟩ 1 1 [.int .i64 ((t : Int) - 1), .int .i64 ((t : Int) + 1), .int .i64 0, .int .i64 0] rfl rfl (cells_new wr [_, _, _, _] _) (oneInt4 _ _ _ _ _) (by omega) (by unfold maxLen; omega) (Nat.le_trans hsz (by simp)) ?_; intro v1 w5 hown5 hg5 hat5)
                  have HS2 := Lib.hid ((HS.out.low (below_new wr (.cells #[.int .i64 ((t : Int) - 1), .int .i64 ((t : Int) + 1), .int .i64 0, .int .i64 0] 41))).app (M := [backC t]) (k := 1) rfl hown5 hg5 hat5)
                  clear hown5 hg5 hat5 hall c0
                  go_roundw
                  case rel => exact ⟨t + 1, by omega, by omega, by go_num, by rw [HE.out, ← List.append_assoc]; exact HS2.out⟩
                  case measure => simp [intOf]; omega
              · have htk : t = k := by omega
                subst htk
                clear hlt hS
                go_wp2_with fail
                refine (refAhead_any H t ch hs wr (Rd.of_own HS.out.has) (by omega)).mono ?_
                rintro e w5 ⟨A', n', c', rfl, hn', hrA, hb5⟩
                have HS5 := Lib.hid (HS.out.low hb5)
                have hall := HS5.out.all
                have hsz := HS5.out.far.2.2.2
                have hrl := hrA.1
                rw [cellsC_len] at hrl
                go_wp2_with (at_builtin; refine wpList_appR rfl _ _ _ rfl clusSlice (by decide) u13 (l ++ backTo hs t).length _ rfl hall A' n' c' (cellsC (aheadS hs)) rfl hrA (cellsC_one _) (by omega) (by unfold maxLen; omega) hsz ?_; intro v6 w6 hown6 hgr6 hat6)
                have HS6 := Lib.hid (HS5.out.app (M := aheadS hs) (k := n') (by omega) hown6 hgr6 hat6)
                have HALL := Lib.hid (show l ++ backTo hs t ++ aheadS hs = allC t l by unfold allC; rw [HHS.out])
                rw [HALL.out] at HS6
                clear hown6 hgr6 hat6 hall hsz hrl hrA hb5 hn'
                obtain ⟨A6, c6, rfl, _⟩ := own_form HS6.out.all
                have HF6 := Lib.hid HS6.out.far
                have HRL := Lib.hid (Rd.of_own HS6.out.all)
                have HNA := Lib.hid (show ∀ ad, A6 = some ad → ad.block ∉ [gi, go] from fun ad e => by
                  have h1 := (HS6.out.all.lt ad.block (by rw [e]; rfl)).1
                  have := HF6.out
                  simp
                  omega)
                have HLK := Lib.hid (show ∀ x ∈ allC t l, LinkC t j x from fun x hx => all_link HREAL.out hx)
                have hNb : (allC t l).length ≤ 20000000 := by have := all_len HREAL.out; rw [HL.out] at this; omega
                obtain ⟨Nq, hNq⟩ : ∃ Nq, (allC t l).length = Nq := ⟨_, rfl⟩
                rw [hNq] at hNb HRL ⊢
                have HM6 := Lib.hid HS6.out.lab
                have HB6 := Lib.hid HS6.out.below
                clear HS5 HS hNq
                go_wp2_with fail
                go_loopg [] (totLab (lab0 t j)).toNat (fun gh ws => ∃ lab, gh = (totLab lab).toNat ∧ LabM ws gi go t j t j lab ∧ SoundLab ((allC t l).map ncOf) lab ∧ PosLab lab ∧ (lab false).length = t ∧ (lab true).length = j ∧ Kept w6 ws [gi, go])
                case atStart => exact ⟨lab0 t j, rfl, HM6.out, lab0_sound _ _ _, lab0_pos _ _, upI_len _ _ _, upI_len _ _ _, Kept.refl _ _⟩
                case round =>
                  clear HM6
                  obtain ⟨lab, rfl, hM, hs1, hp1, hx1, hy1, hK⟩ := hrel
                  go_wp2_with fail
                  refine (refTurn_any gi go t j t j Nq c6 A6 (allC t l) lab wr hM (HRL.out.kept HNA.out hK) HNA.out HLK.out hs1 hp1 hx1 hy1 (by omega) (by omega) (by omega)).mono ?_
                  rintro e w7 ⟨lab', ch7, rfl, hM7, hT, hK7⟩
                  cases ch7 with
                  | true =>
                    have hlt := hT.went.lt rfl
                    have hpos := tot_pos hT.pos
                    have HT := Lib.hid hT
                    have HM7 := Lib.hid hM7
                    have HK7 := Lib.hid (hK.trans hK7)
                    clear hT hM hM7 hK hK7 hs1 hp1 hx1 hy1
                    go_wp2_with fail
                    go_roundg (totLab lab').toNat
                    case measure => omega
                    case rel => exact ⟨lab', rfl, HM7.out, HT.out.sound, HT.out.pos, HT.out.lx, HT.out.ly, HK7.out⟩
                  | false =>
                    have heq : lab' = lab := hT.went.no rfl
                    subst heq
                    have hK2 := hK.trans hK7
                    have hb7 : Below w.heap.size w w7 := HB6.out.trans ⟨hK2.os, hK2.tape, hK2.output, hK2.size, fun i hi => hK2.block i (Nat.lt_of_lt_of_le hi HB6.out.size) (by
                      have h1 := hgi
                      have h2 := hb1.size
                      simp
                      omega)⟩
                    have HB7 := Lib.hid hb7
                    have HT := Lib.hid hT
                    have HM7 := Lib.hid hM7
                    have HX := Lib.hid hx1
                    have HY := Lib.hid hy1
                    clear hT hM hM7 hK hK7 hK2 hs1 hp1 hx1 hy1 hb7
                    go_wp2_with fail
                    obtain ⟨b2, hb2⟩ : ∃ b2, w7.heap.size = b2 := ⟨_, rfl⟩
                    have hwb2 : w.heap.size ≤ b2 := by rw [← hb2]; exact HB7.out.size
                    go_loopw [16, 17] (fun v i ws => ∃ p : Nat, p ≤ t ∧ i = .int .i64 (p : Int) ∧ ws.ownsRow b2 41 4 v (below_ l' p).length (cellsC ((below_ l' p).map NC.cl)) ∧ Below w7.heap.size w7 ws) (fun _ i _ => t - (intOf i).toNat)
                    case atStart =>
                      refine ⟨0, Nat.zero_le _, rfl, ?_, Below.refl _ _⟩
                      rw [below_none 0 HF.out.tiles (Nat.le_refl _)]
                      exact ⟨rfl, .inl ⟨rfl, rfl⟩⟩
                    case round =>
                      obtain ⟨p, hp, rfl, hown, hb⟩ := hrel
                      have HO := Lib.hid hown
                      have HBB := Lib.hid hb
                      have hsz : b2 ≤ wr.heap.size := by rw [← hb2]; exact hb.size
                      have hlb : (below_ l' p).length ≤ 20000000 := Nat.le_trans (List.length_filter_le _ _) (by have := tiles_len HF.out.tiles; omega)
                      have HMr := Lib.hid (HM7.out.below hb)
                      clear hown hb
                      by_cases hlt : p < t
                      · obtain ⟨v, hv⟩ : ∃ v, (lab' false)[p]? = some v := ⟨_, List.getElem?_eq_getElem (by rw [HX.out]; exact hlt)⟩
                        have cv : wr.cell? ⟨gi, p, none⟩ = some (.int .i64 v) := by rw [HMr.out.hi.cellAt p (by omega), List.getElem?_map, hv]; rfl
                        have HV := Lib.hid hv
                        clear hv
                        have hdec : p = 0 ∨ ∃ (p' : Nat) (u : Int), 0 < p ∧ p - 1 = p' ∧ (p : Int) - 1 = (p' : Int) ∧ p' < t ∧ (lab' false)[p']? = some u := by
                          cases p with
                          | zero => exact .inl rfl
                          | succ p' => exact .inr ⟨p', _, by omega, by omega, by omega, by omega, List.getElem?_eq_getElem (by rw [HX.out]; omega)⟩
                        have hlo := HMr.out.lt
                        have hR1 := Lib.hid (fun (W : World) (h : Below wr.heap.size wr W) => refHullN_any (some ⟨gi, 0, none⟩) t t (lab' false) v W (Rd.of_own (HMr.out.below h).hi) (by omega))
                        have hR2 := Lib.hid (fun (W : World) (h : Below wr.heap.size wr W) => refHullN_any (some ⟨go, 0, none⟩) j j (lab' true) v W (Rd.of_own (HMr.out.below h).ho) (by omega))
                        have hcs : (p = 0 ∨ ∃ u, (lab' false)[p - 1]? = some u ∧ u ≠ v) ∨ (0 < p ∧ (lab' false)[p - 1]? = some v) := by
                          rcases hdec with h | ⟨p', u, h0, e, _, _, h2⟩
                          · exact .inl (.inl h)
                          · rw [e]
                            by_cases h3 : u = v
                            · exact .inr ⟨by omega, by rw [h2, h3]⟩
                            · exact .inl (.inr ⟨u, h2, h3⟩)
                        have HTT := Lib.hid (show TurnOk ((allC t l).map ncOf) t j (labs (lab' false) (lab' true)) lab' false by rw [labs_self]; exact HT.out)
                        rcases hcs with hbeg | ⟨hp0, hsame⟩
                        · obtain ⟨x, hxl, hxa, hh1, hh2⟩ := fin_begin HTT.out HF.out HX.out HY.out HV.out hbeg
                          rw [hh1] at hR1
                          rw [hh2] at hR2
                          have HBS := Lib.hid (show below_ l' (p + 1) = below_ l' p ++ [x] by rw [← hxa]; exact below_step HF.out.tiles hxl)
                          obtain ⟨xa, xb, xc, xd⟩ := x
                          simp only at hR1 hR2
                          have HUV := Lib.hid (show ∀ p' u, p - 1 = p' → 0 < p → (lab' false)[p']? = some u → u ≠ v from fun p' u e1 e0 e2 => by
                            rcases hbeg with h | ⟨u', h1, h2⟩
                            · omega
                            · rw [e1, e2] at h1
                              rw [Option.some.inj h1]
                              exact h2)
                          clear hxl hxa hh1 hh2 hbeg
                          rcases hdec with hpz | ⟨p', u, hp0, hpp, hpi, hpl, hu⟩
                          · have g0 : ((p : Int) == 0) = true := by simp; omega
                            have g0' : decide ((p : Int) = 0) = true := decide_eq_true (by omega)
                            have g1 : (p : Int) < (t : Int) := by omega
                            clear hpz
                            go_wp2_with fail
                            go_quiet (fail)
                            go_wp2_with fail
                            obtain ⟨w0, hw0⟩ : ∃ w0, wr.drewN nq = w0 := ⟨_, rfl⟩
                            rw [hw0]
                            have hwb : Below wr.heap.size wr w0 := by rw [← hw0]; exact below_drew (Below.refl _ _) nq
                            have HOW := Lib.hid (own_below HO.out hwb)
                            have HKB := Lib.hid (show ∀ W, Below w0.heap.size w0 W → W.cell? ⟨gi, p, none⟩ = some (.int .i64 v) ∧ Below b2 w7 W from fun W h => ⟨cell_below h (cell_below hwb cv), by rw [← hb2]; exact below_self (below_self HBB.out hwb) h⟩)
                            have HC1 := Lib.hid (fun (W : World) (h : Below w0.heap.size w0 W) => hR1 W (below_self hwb h))
                            have HC2 := Lib.hid (fun (W : World) (h : Below w0.heap.size w0 W) => hR2 W (below_self hwb h))
                            have hsz0 : b2 ≤ w0.heap.size := Nat.le_trans hsz hwb.size
                            have hgb : gi < b2 := by rw [← hb2]; exact HM7.out.lt.1
                            clear hw0 hwb hR1 hR2 cv
                            go_region_held3 (fun w' => w'.cell? ⟨gi, p, none⟩ = some (.int .i64 v) ∧ Below b2 w7 w')
                              (first
                                | exact HKB.out _ (Below.refl _ _)
                                | exact HKB.out _ (Below.refl _ _).drew
                                | exact HKB.out _ hz1
                                | exact HKB.out _ hz2
                                | exact HKB.out _ (below_self hz2 (below_new w9 (.cells #[.int .i64 (xa : Int), .int .i64 (xb : Int), .int .i64 (xc : Int), .int .i64 (xd : Int)] 41)))
                                | exact hfin
                                | fail)
                              (first
                                | (go_at_call 90; with_reducible refine (HC1.out _ (by first | exact (Below.refl _ _).drew | exact Below.refl _ _)).mono ?_; rintro e' w8 ⟨rfl, hh1⟩; have hz1 : Below w0.heap.size w0 w8 := (by first | exact below_self (Below.refl _ _).drew hh1 | exact hh1))
                                | (go_at_call 90; with_reducible refine (HC2.out _ hz1).mono ?_; rintro e' w9 ⟨rfl, hh2⟩; have hz2 : Below w0.heap.size w0 w9 := below_self hz1 hh2)
                                | (refine step_appR rfl _ _ _ rfl clusSlice (by decide) u16 (below_ l' p).length _ rfl ((own_below HOW.out hz2).alloc (.cells #[.int .i64 (xa : Int), .int .i64 (xb : Int), .int .i64 (xc : Int), .int .i64 (xd : Int)] 41)) _ 1 1 [.int .i64 (xa : Int), .int .i64 (xb : Int), .int .i64 (xc : Int), .int .i64 (xd : Int)] rfl (rd_blk (m := 1) (cs := [.int .i64 (xa : Int), .int .i64 (xb : Int), .int .i64 (xc : Int), .int .i64 (xd : Int)]) 4 (heap_alloc_new w9 (.cells #[.int .i64 (xa : Int), .int .i64 (xb : Int), .int .i64 (xc : Int), .int .i64 (xd : Int)] 41)) rfl) (oneInt4 _ _ _ _ _) (by omega) (by unfold maxLen; omega) (Nat.le_trans hsz0 (Nat.le_trans hz2.size (by simp))) _ rfl ?_; intro v2 w10 hown10 hgr10 hat10; have hbl : Below b2 (w9.alloc (.cells #[.int .i64 (xa : Int), .int .i64 (xb : Int), .int .i64 (xc : Int), .int .i64 (xd : Int)] 41)) w10 := (Below.refl _ _).grown hgr10 (Nat.le_trans hsz0 (Nat.le_trans hz2.size (by simp))) (fun k hk => (((own_below HOW.out hz2).alloc (.cells #[.int .i64 (xa : Int), .int .i64 (xb : Int), .int .i64 (xc : Int), .int .i64 (xd : Int)] 41)).lt k hk).1); have hfin : w10.cell? ⟨gi, p, none⟩ = some (.int .i64 v) ∧ Below b2 w7 w10 := (by have h9 := HKB.out _ (below_self hz2 (below_new w9 (.cells #[.int .i64 (xa : Int), .int .i64 (xb : Int), .int .i64 (xc : Int), .int .i64 (xd : Int)] 41))); exact ⟨(hbl.cell hgb).trans h9.1, h9.2.trans hbl⟩))
                                | fail)
                            have HN10 := Lib.hid (show w10.ownsRow b2 41 4 v2 (below_ l' (p + 1)).length (cellsC ((below_ l' (p + 1)).map NC.cl)) by
                              rw [HBS.out, List.map_append, cellsC_append, List.length_append]
                              exact hown10)
                            have HB10 := Lib.hid (show Below w7.heap.size w7 w10 by rw [hb2]; exact hfin.2)
                            clear hown10 hgr10 hat10 hbl
                            go_wp2_with fail
                            go_roundw
                            case rel => exact ⟨p + 1, by omega, by go_num, HN10.out, HB10.out⟩
                            case measure => simp [intOf]; omega
                          · have cu : wr.cell? ⟨gi, p', none⟩ = some (.int .i64 u) := by rw [HMr.out.hi.cellAt p' (by omega), List.getElem?_map, hu]; rfl
                            have huv : u ≠ v := HUV.out p' u hpp hp0 hu
                            have huv2 : ¬ v = u := fun e => huv e.symm
                            clear hu hpp
                            have g0 : ((p : Int) == 0) = false := by simp; omega
                            have g0' : decide ((p : Int) = 0) = false := decide_eq_false (by omega)
                            have g1 : (p : Int) < (t : Int) := by omega
                            have g2 : (p' : Int) < (t : Int) := by omega
                            have g3 : (0 : Int) ≤ (p' : Int) := by omega
                            go_wp2_with fail
                            go_quiet (fail)
                            go_wp2_with fail
                            obtain ⟨w0, hw0⟩ : ∃ w0, wr.drewN nq = w0 := ⟨_, rfl⟩
                            rw [hw0]
                            have hwb : Below wr.heap.size wr w0 := by rw [← hw0]; exact below_drew (Below.refl _ _) nq
                            have HOW := Lib.hid (own_below HO.out hwb)
                            have HKB := Lib.hid (show ∀ W, Below w0.heap.size w0 W → W.cell? ⟨gi, p, none⟩ = some (.int .i64 v) ∧ Below b2 w7 W from fun W h => ⟨cell_below h (cell_below hwb cv), by rw [← hb2]; exact below_self (below_self HBB.out hwb) h⟩)
                            have HC1 := Lib.hid (fun (W : World) (h : Below w0.heap.size w0 W) => hR1 W (below_self hwb h))
                            have HC2 := Lib.hid (fun (W : World) (h : Below w0.heap.size w0 W) => hR2 W (below_self hwb h))
                            have hsz0 : b2 ≤ w0.heap.size := Nat.le_trans hsz hwb.size
                            have hgb : gi < b2 := by rw [← hb2]; exact HM7.out.lt.1
                            clear hw0 hwb hR1 hR2 cv cu
                            go_region_held3 (fun w' => w'.cell? ⟨gi, p, none⟩ = some (.int .i64 v) ∧ Below b2 w7 w')
                              (first
                                | exact HKB.out _ (Below.refl _ _)
                                | exact HKB.out _ (Below.refl _ _).drew
                                | exact HKB.out _ hz1
                                | exact HKB.out _ hz2
                                | exact HKB.out _ (below_self hz2 (below_new w9 (.cells #[.int .i64 (xa : Int), .int .i64 (xb : Int), .int .i64 (xc : Int), .int .i64 (xd : Int)] 41)))
                                | exact hfin
                                | fail)
                              (first
                                | (go_at_call 90; with_reducible refine (HC1.out _ (by first | exact (Below.refl _ _).drew | exact Below.refl _ _)).mono ?_; rintro e' w8 ⟨rfl, hh1⟩; have hz1 : Below w0.heap.size w0 w8 := (by first | exact below_self (Below.refl _ _).drew hh1 | exact hh1))
                                | (go_at_call 90; with_reducible refine (HC2.out _ hz1).mono ?_; rintro e' w9 ⟨rfl, hh2⟩; have hz2 : Below w0.heap.size w0 w9 := below_self hz1 hh2)
                                | (refine step_appR rfl _ _ _ rfl clusSlice (by decide) u16 (below_ l' p).length _ rfl ((own_below HOW.out hz2).alloc (.cells #[.int .i64 (xa : Int), .int .i64 (xb : Int), .int .i64 (xc : Int), .int .i64 (xd : Int)] 41)) _ 1 1 [.int .i64 (xa : Int), .int .i64 (xb : Int), .int .i64 (xc : Int), .int .i64 (xd : Int)] rfl (rd_blk (m := 1) (cs := [.int .i64 (xa : Int), .int .i64 (xb : Int), .int .i64 (xc : Int), .int .i64 (xd : Int)]) 4 (heap_alloc_new w9 (.cells #[.int .i64 (xa : Int), .int .i64 (xb : Int), .int .i64 (xc : Int), .int .i64 (xd : Int)] 41)) rfl) (oneInt4 _ _ _ _ _) (by omega) (by unfold maxLen; omega) (Nat.le_trans hsz0 (Nat.le_trans hz2.size (by simp))) _ rfl ?_; intro v2 w10 hown10 hgr10 hat10; have hbl : Below b2 (w9.alloc (.cells #[.int .i64 (xa : Int), .int .i64 (xb : Int), .int .i64 (xc : Int), .int .i64 (xd : Int)] 41)) w10 := (Below.refl _ _).grown hgr10 (Nat.le_trans hsz0 (Nat.le_trans hz2.size (by simp))) (fun k hk => (((own_below HOW.out hz2).alloc (.cells #[.int .i64 (xa : Int), .int .i64 (xb : Int), .int .i64 (xc : Int), .int .i64 (xd : Int)] 41)).lt k hk).1); have hfin : w10.cell? ⟨gi, p, none⟩ = some (.int .i64 v) ∧ Below b2 w7 w10 := (by have h9 := HKB.out _ (below_self hz2 (below_new w9 (.cells #[.int .i64 (xa : Int), .int .i64 (xb : Int), .int .i64 (xc : Int), .int .i64 (xd : Int)] 41))); exact ⟨(hbl.cell hgb).trans h9.1, h9.2.trans hbl⟩))
                                | fail)
                            have HN10 := Lib.hid (show w10.ownsRow b2 41 4 v2 (below_ l' (p + 1)).length (cellsC ((below_ l' (p + 1)).map NC.cl)) by
                              rw [HBS.out, List.map_append, cellsC_append, List.length_append]
                              exact hown10)
                            have HB10 := Lib.hid (show Below w7.heap.size w7 w10 by rw [hb2]; exact hfin.2)
                            clear hown10 hgr10 hat10 hbl
                            go_wp2_with fail
                            go_roundw
                            case rel => exact ⟨p + 1, by omega, by go_num, HN10.out, HB10.out⟩
                            case measure => simp [intOf]; omega
                        · have HSK := Lib.hid (below_skip (fin_skip HTT.out HF.out HX.out HV.out hp0 hsame))
                          rcases hdec with rfl | ⟨p', u, hp1, hpp, hpi, hpl, hu⟩
                          · omega
                          · have cu : wr.cell? ⟨gi, p', none⟩ = some (.int .i64 v) := by rw [HMr.out.hi.cellAt p' (by omega), List.getElem?_map, show (lab' false)[p']? = some v by rw [← hpp]; exact hsame]; rfl
                            clear hu hsame hpp
                            have g0 : ((p : Int) == 0) = false := by simp; omega
                            have g0' : decide ((p : Int) = 0) = false := decide_eq_false (by omega)
                            have g1 : (p : Int) < (t : Int) := by omega
                            have g2 : (p' : Int) < (t : Int) := by omega
                            have g3 : (0 : Int) ≤ (p' : Int) := by omega
                            have HBn := Lib.hid (show ∀ Q, Below w7.heap.size w7 (wr.drewN Q) from fun Q => below_drew HBB.out Q)
                            have HOn := Lib.hid (show ∀ Q, (wr.drewN Q).ownsRow b2 41 4 u16 (below_ l' p).length (cellsC ((below_ l' p).map NC.cl)) from fun Q => HO.out)
                            go_wp2_with fail
                            go_quiet (fail)
                            go_wp2_with fail
                            go_roundw
                            case rel => exact ⟨p + 1, by omega, by go_num, by rw [HSK.out]; exact HOn.out _, HBn.out _⟩
                            case measure => simp [intOf]; omega
                      · have hpt : p = t := by omega
                        subst hpt
                        have HALL2 := Lib.hid (below_all HF.out.tiles)
                        rw [HALL2.out] at HO
                        have HBF := Lib.hid (below_self HB7.out HBB.out)
                        clear hlt
                        go_wp2_with fail
                        exact bodyPost_ret (v := .tuple #[u16, .int .i64 0]) (by simp [results, go_sem]) rfl ⟨u16, rfl, own_base HO.out hwb2, HBF.out⟩
end Go.Proofs.YtcbiaeeifclieaaGreatDoor
/- The reference's Finest, whatever comes in. -/
namespace Go.Proofs.YtcbiaeeifclieaaGreatDoor
open Go.RowKit

set_option maxRecDepth 100000 in
set_option maxHeartbeats 1000000 in
theorem refFinest_no (n m : Int) (q c : Nat) (A : Option Addr) (l : List Cl) (w : World) (hr : Rd w 4 A q (cellsC l)) (hq : q ≤ 1000000) (h : finE n m l ≠ 0 ∨ n = 0) :
    Calls Tryz.prog 55 #[.int .i64 n, .int .i64 m, .slice A q c] w fun e w' => e = .returned (.tuple #[.slice none 0 0, .int .i64 (finE n m l)]) ∧ Below w.heap.size w w' := by
  have HWR := Lib.hid (refWrong_all n m q c A l w hr hq)
  obtain ⟨er, her⟩ : ∃ er, finE n m l = er := ⟨_, rfl⟩
  rw [her] at HWR h ⊢
  clear hr her
  have h' : er ≠ 0 ∨ (er = 0 ∧ n = 0) := by omega
  clear h
  go_enter Tryz.func55, Tryz.ntmps55
  go_wp2_with fail
  refine HWR.out.mono ?_
  rintro e w1 ⟨rfl, hb1⟩
  rcases h' with h1 | ⟨rfl, rfl⟩
  · go_wp2_with fail
    exact bodyPost_ret (v := .tuple #[.slice none 0 0, .int .i64 er]) (by simp [results, go_sem]) rfl ⟨rfl, hb1⟩
  · go_wp2_with fail
    exact bodyPost_ret (v := .tuple #[.slice none 0 0, .int .i64 0]) (by simp [results, go_sem]) rfl ⟨rfl, hb1⟩
/-- The reference's Finest, whatever comes in: what it answers beside the one finest list. -/
theorem refFinest_all (n m : Int) (q c : Nat) (A : Option Addr) (l : List Cl) (l' : List NC) (w : World) (hr : Rd w 4 A q (cellsC l)) (hq : q ≤ 1000000) (hE : finE n m l = 0) (n1 : 0 ≤ n) (m1 : 0 ≤ m) (hfit : fitB n m l = true) (hcov : CovP m l) (hfi : FinIs n.toNat m.toNat l l') :
    Calls Tryz.prog 55 #[.int .i64 n, .int .i64 m, .slice A q c] w fun e w' => ∃ v, e = .returned (.tuple #[v, .int .i64 0]) ∧ w'.ownsRow w.heap.size 41 4 v l'.length (cellsC (l'.map NC.cl)) ∧ Below w.heap.size w w' := by
  by_cases hn : n = 0
  · refine (refFinest_no n m q c A l w hr hq (.inr hn)).mono ?_
    rintro e w' ⟨rfl, hb⟩
    rw [hfi.1 (by omega), hE]
    exact ⟨_, rfl, ⟨rfl, .inl ⟨rfl, rfl⟩⟩, hb⟩
  · obtain ⟨N, rfl⟩ := Int.eq_ofNat_of_zero_le n1
    obtain ⟨M, rfl⟩ := Int.eq_ofNat_of_zero_le m1
    have hm : M ≠ 0 := by
      rintro rfl
      have : finE (N : Int) ((0 : Nat) : Int) l = 8 := by
        unfold finE
        rw [if_neg (by rw [hfit]; simp), if_pos ⟨rfl, hn⟩]
      omega
    have hne : l ≠ [] := by
      rintro rfl
      obtain ⟨s, hs, _⟩ := hcov 0 (by omega) (by omega)
      simp at hs
    exact refFinest_ok N M q c A l l' w hr hq hfit hE (by omega) hne (by simpa using hfi.2 (by omega))
end Go.Proofs.YtcbiaeeifclieaaGreatDoor
/- The reference's Clusters of cells, told. -/
namespace Go.Proofs.YtcbiaeeifclieaaGreatDoor
open Go.RowKit

section
variable {w : World} {bs2 bR gl n : Nat} {R : List RC} {ah : List Int} {Q : List Value} {L : List (List Int)} {J : Value} {Js : List Sp}
theorem links_tot {n : Nat} (R : List RC) (ah : List Int) (h0 : 0 < n) : (linksTo R ah (groupsS (n : Int) (joinedTo R n))).2 = cntR R ah 0 n :=
  (links_go (n := n) (R := R) (ah := ah) (groupsS (n : Int) (joinedTo R n)) 0 ([], 0) (groups_whole (joinedTo R n) (Int.natCast_nonneg n)) (by simp [totR]) ⟨fun x hx => by simp at hx, fun j j0 j1 => by omega⟩).1.trans (if_neg (by omega))
theorem finE_nil : finE 0 0 [] = 0 := by
  unfold finE
  rw [if_neg (by simp [fitB, fitN]), if_neg (by omega), if_neg (by omega), if_pos]
  intro j h0 h1
  omega
/-- The reference's answer beside the finest map, or beside what is wrong. -/
theorem cl_r (hC : RCAt w bs2 bR gl n Q L J) (hJ : w.ownsRow bs2 39 2 J Js.length (cellsS Js)) (h : RelL R ah L) (hti : TightJ n R Js) (hR : R.length = n) (hn0 : 0 < n) (hn : n ≤ 1000) (hjl : Js.length ≤ 100000) (hs : ah.length + lenR R ≤ 100000)
    (l' : List NC) (hok : finE (n : Int) (cntR R ah 0 n : Nat) (linksR n R ah) = 0 → FinIs n (cntR R ah 0 n) (linksR n R ah) l') :
    Calls Tryz.prog 21 #[.pointer (some ⟨bR, 0, none⟩)] w fun e w' => (∃ (A : Option Addr) (k : Nat), e = .returned (.tuple #[.slice A (if finE (n : Int) (cntR R ah 0 n : Nat) (linksR n R ah) = 0 then l' else []).length k, .int .i64 (finE (n : Int) (cntR R ah 0 n : Nat) (linksR n R ah))]) ∧ Rd w' 4 A (if finE (n : Int) (cntR R ah 0 n : Nat) (linksR n R ah) = 0 then l' else []).length (cellsC ((if finE (n : Int) (cntR R ah 0 n : Nat) (linksR n R ah) = 0 then l' else []).map NC.cl))) ∧ Below w.heap.size w w' := by
  have hg := hti.groups hR
  have htot := links_tot R ah hn0
  rw [← hg] at htot
  have hlk : (linksTo R ah (groupsS (n : Int) Js)).1 = linksR n R ah := by unfold linksR; rw [hg]
  have hml : (linksTo R ah (groupsS (n : Int) Js)).1.length ≤ 1000000 := by
    have h1 := linksTo_len R ah (groupsS (n : Int) Js) (groupsS (n : Int) Js).length
    rw [List.take_length] at h1
    have h2 : (groupsS (n : Int) Js).length ≤ 1000 := groups_len (by omega)
    omega
  have hcl := cntR_le R ah 0 n
  refine (rcClusters_any bs2 bR gl n Q L J Js R ah w hC hJ hjl hn (by omega) (fun k l hl => (h.told hl).2)
    (fun er u W W' => er = finE (n : Int) (cntR R ah 0 n : Nat) (linksR n R ah) ∧ ∃ (A : Option Addr) (k : Nat), u = .slice A (if finE (n : Int) (cntR R ah 0 n : Nat) (linksR n R ah) = 0 then l' else []).length k ∧ Rd W' 4 A (if finE (n : Int) (cntR R ah 0 n : Nat) (linksR n R ah) = 0 then l' else []).length (cellsC ((if finE (n : Int) (cntR R ah 0 n : Nat) (linksR n R ah) = 0 then l' else []).map NC.cl))) _ _ rfl htot (fun A cv W hb hr => ?_)).mono ?_
  · rw [hlk] at hr ⊢
    rw [hlk] at hml
    by_cases hE : finE (n : Int) (cntR R ah 0 n : Nat) (linksR n R ah) = 0
    · have hok' := hok hE
      simp only [hE, if_true]
      have hfit := linksR_fit R ah hn0 (by omega) (show cntR R ah 0 n ≤ 16777216 by omega)
      refine (refFinest_all (n : Int) (cntR R ah 0 n : Nat) _ cv A (linksR n R ah) l' W hr hml hE (by omega) (by omega) hfit (linksR_ok R ah hn0).cov (by rw [Int.toNat_natCast, Int.toNat_natCast]; exact hok')).mono ?_
      rintro e w' ⟨v, rfl, hown, hb2⟩
      obtain ⟨A2, k2, rfl, _⟩ := own_form hown
      exact ⟨_, _, rfl, ⟨rfl, A2, k2, rfl, Rd.of_own hown⟩, hb2⟩
    · simp only [hE, if_false]
      refine (refFinest_no (n : Int) (cntR R ah 0 n : Nat) _ cv A (linksR n R ah) W hr hml (.inl hE)).mono ?_
      rintro e w' ⟨rfl, hb2⟩
      exact ⟨_, _, rfl, ⟨rfl, none, 0, rfl, Rd.nil_⟩, hb2⟩
  · rintro e w' ⟨u, er, W, rfl, hbW, ⟨rfl, A, k, rfl, hr⟩, hb⟩
    exact ⟨⟨A, k, rfl, hr⟩, hb⟩
/-- Of no cells both tell nothing. -/
theorem cl_r0 (hC : RCAt w bs2 bR gl 0 Q L J) (hJ : w.ownsRow bs2 39 2 J Js.length (cellsS Js)) (h : RelL R ah L) (hjl : Js.length ≤ 100000) (hs : ah.length + lenR R ≤ 100000) :
    Calls Tryz.prog 21 #[.pointer (some ⟨bR, 0, none⟩)] w fun e w' => e = .returned (.tuple #[.slice none 0 0, .int .i64 0]) ∧ Below w.heap.size w w' := by
  have hg : groupsS ((0 : Nat) : Int) Js = [] := by unfold groupsS; simp [groupsGo]
  refine (rcClusters_any bs2 bR gl 0 Q L J Js R ah w hC hJ hjl (by omega) (by omega) (fun k l hl => (h.told hl).2) (fun er u _ _ => er = 0 ∧ u = .slice none 0 0) 0 0 (by rw [hg]; rfl) (by rw [hg]; rfl) (fun A cv W hb hr => ?_)).mono ?_
  · rw [hg] at hr
    refine (refFinest_no 0 0 0 cv A [] W hr (by omega) (.inr rfl)).mono ?_
    rintro e w' ⟨rfl, hb2⟩
    exact ⟨_, _, rfl, ⟨finE_nil, rfl⟩, hb2⟩
  · rintro e w' ⟨u, er, W, rfl, hbW, ⟨rfl, rfl⟩, hb⟩
    exact ⟨rfl, hb⟩
end
end Go.Proofs.YtcbiaeeifclieaaGreatDoor
