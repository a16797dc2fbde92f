/- Texts of one claim, one behind the other. -/
import Derived.Deep.RegionLaw
import Derived.Deep.DeepCutAuto
import Derived.Deep.CutBlock
import Derived.Test.YtcbiaeeifclieaaGreatDoorMgM1
import Derived.Test.YtcbiaeeifclieaaGreatDoorMgM2
/- cells' set, Set, walked. -/
namespace Go.Proofs.YtcbiaeeifclieaaGreatDoor
open Go.RowKit

/-- What set leaves. -/
def SetAns (w w' : World) (base b gc n i : Nat) (R : List RC) (va : Value) (ah : List Int) (codes : List Int) : Prop :=
  (∃ v r, R[i]? = some r ∧ CellsAt w' base b gc n (R.set i (v, r.2.1, codes)) (if i = 0 then .slice none 0 0 else va) (if i = 0 then [] else ah)) ∧ (∀ B w0, B ≤ b → B ≤ gc → B ≤ w.heap.size → Below B w0 w → Below B w0 w')
set_option maxRecDepth 100000 in
set_option maxHeartbeats 2000000 in
theorem setRow_any (base b gc n i : Nat) (R : List RC) (va : Value) (ah codes : List Int) (A : Option Addr) (q c : Nat) (w : World) (hC : CellsAt w base b gc n R va ah) (hi : i < n) (hr : Rd w 1 A q (codes.map (Value.int .i64))) (hq : q ≤ 16777216) :
    Calls Tryz.prog 60 #[.pointer (some ⟨b, 0, none⟩), .int .i64 (i : Int), .slice A q c] w fun e w' => e = .returned (.tuple #[]) ∧ SetAns w w' base b gc n i R va ah codes := by
  have hlen : codes.length = q := by have := hr.1; rw [List.length_map] at this; omega
  obtain ⟨r, hri⟩ : ∃ r, R[i]? = some r := ⟨_, List.getElem?_eq_getElem (by rw [hC.len]; exact hi)⟩
  have c0 := hp_cell (j := 0) hC.hb rfl
  have HC := Lib.hid hC
  have HR := Lib.hid hr
  have HRI := Lib.hid hri
  have HL := Lib.hid hlen
  have hii : (i : Int) < (n : Int) := by omega
  have hi0 : (0 : Int) ≤ (i : Int) := by omega
  have HCL := Lib.hid (fun W (h : Below w.heap.size w W) => cloneInt_any A q c (codes.map (Value.int .i64)) W (hr.below h) (oneInts _ _) hq)
  clear hC hr hri hlen
  go_enter Tryz.func60, Tryz.ntmps60
  go_upto_region 0 with fail
  go_cut [] (fun wx => ∃ v, CellsAt wx base b gc n (R.set i (v, r.2.1, codes)) va ah ∧ (∀ B w0, B ≤ b → B ≤ gc → B ≤ w.heap.size → Below B w0 w → Below B w0 wx))
  case first =>
    go_region_law (first
      | (go_simp; go_at_call 93; refine (HCL.out _ (by first | exact (Below.refl _ _).drew | exact Below.refl _ _)).mono ?_; rintro e' w4 ⟨v4, rfl, hown4, hb4⟩; obtain ⟨A4, c4, rfl, hc4⟩ := own_form hown4; have hz4 : Below w.heap.size w w4 := (by first | exact below_self (Below.refl _ _).drew hb4 | exact hb4); have y0 := cell_below hz4 c0; have y1 := ((HC.out.low hz4).cell HRI.out).1; have y2 := hp_froz (HC.out.low hz4).hc (i * 2))
      | fail)
    · have HCP := Lib.hid ((HC.out.low hz4).put HRI.out (v := .slice A4 q c4) (l := codes) (by rw [HL.out]; exact own_base hown4 HC.out.far.2.2.2) (fun j s _ hs => by
        rcases h : (Value.slice A4 q c4).ownBlock with _ | g
        · exact .inl rfl
        · refine .inr (fun e => ?_)
          have h1 := (hown4.lt g h).1
          have h2 := ((HC.out.rows j s hs).lt g e.symm).2
          have h3 : w.heap.size ≤ g := h1
          omega) (by
        rcases h : (Value.slice A4 q c4).ownBlock with _ | g
        · exact .inl rfl
        · refine .inr (fun e => ?_)
          have h1 := (hown4.lt g h).1
          have h2 := (HC.out.arow.lt g e.symm).2
          have h3 : w.heap.size ≤ g := h1
          omega))
      have HBB := Lib.hid (show ∀ B w0, B ≤ b → B ≤ gc → B ≤ w.heap.size → Below B w0 w → Below B w0 (w4.setCell ⟨gc, i * 2, none⟩ (.slice A4 q c4)) from fun B w0 h1 h2 h3 h => (h.trans (hz4.mono h3)).setCell (p := ⟨gc, i * 2, none⟩) h2 _)
      clear hz4 hown4 hb4 y0 y1 y2
      go_wp2_with fail
      go_meet
      case rel => exact ⟨_, HCP.out, HBB.out⟩
    · have HCP := Lib.hid ((HC.out.low hz4).put HRI.out (v := .slice A4 q c4) (l := codes) (by rw [HL.out]; exact own_base hown4 HC.out.far.2.2.2) (fun j s _ hs => by
        rcases h : (Value.slice A4 q c4).ownBlock with _ | g
        · exact .inl rfl
        · refine .inr (fun e => ?_)
          have h1 := (hown4.lt g h).1
          have h2 := ((HC.out.rows j s hs).lt g e.symm).2
          have h3 : w.heap.size ≤ g := h1
          omega) (by
        rcases h : (Value.slice A4 q c4).ownBlock with _ | g
        · exact .inl rfl
        · refine .inr (fun e => ?_)
          have h1 := (hown4.lt g h).1
          have h2 := (HC.out.arow.lt g e.symm).2
          have h3 : w.heap.size ≤ g := h1
          omega))
      have HBB := Lib.hid (show ∀ B w0, B ≤ b → B ≤ gc → B ≤ w.heap.size → Below B w0 w → Below B w0 (w4.setCell ⟨gc, i * 2, none⟩ (.slice A4 q c4)) from fun B w0 h1 h2 h3 h => (h.trans (hz4.mono h3)).setCell (p := ⟨gc, i * 2, none⟩) h2 _)
      clear hz4 hown4 hb4 y0 y1 y2
      go_wp2_with fail
      go_meet
      case rel => exact ⟨_, HCP.out, HBB.out⟩
  case rest =>
    obtain ⟨v, hC2, hB2⟩ := hcut
    have c1 := hp_cell (j := 1) hC2.hb rfl
    have f1 := hp_froz hC2.hb 1
    have HC2 := Lib.hid hC2
    have HB2 := Lib.hid hB2
    clear hC2 hB2 c0
    by_cases hz : i = 0
    · have g0 : ((i : Int) == 0) = true := by simp; omega
      have HP := Lib.hid (HC2.out.putA (v := .slice none 0 0) (l := []) (World.ownsRow_nil _ _ _ _) (fun j s hs => by
        rcases h : s.1.ownBlock with _ | g
        · exact .inl rfl
        · exact .inr (by simp [Value.ownBlock])))
      have HZ := Lib.hid hz
      clear hz
      go_wp2_with fail
      refine bodyPost_end (v := .tuple #[]) (by simp [results, go_sem]) rfl ⟨rfl, ⟨v, r, HRI.out, ?_⟩, fun B w0 h1 h2 h3 h => (HB2.out B w0 h1 h2 h3 h).setCell (p := ⟨b, 1, none⟩) h1 _⟩
      rw [if_pos HZ.out, if_pos HZ.out]
      exact HP.out
    · have g0 : ((i : Int) == 0) = false := by simp; omega
      have HZ := Lib.hid hz
      clear hz
      go_wp2_with fail
      refine bodyPost_end (v := .tuple #[]) (by simp [results, go_sem]) rfl ⟨rfl, ⟨v, r, HRI.out, ?_⟩, HB2.out⟩
      rw [if_neg HZ.out, if_neg HZ.out]
      exact HC2.out
set_option maxRecDepth 100000 in
set_option maxHeartbeats 1000000 in
theorem set_cells (base b gc n i : Nat) (R : List RC) (va : Value) (ah codes : List Int) (A : Option Addr) (q c : Nat) (w : World) (hC : CellsAt w base b gc n R va ah) (hi : i < n) (hr : Rd w 1 A q (codes.map (Value.int .i64))) (hq : q ≤ 16777216) (hn : n ≤ 100000000) :
    Calls Tryz.prog 32 #[.pointer (some ⟨b, 0, none⟩), .int .i64 (i : Int), .slice A q c] w fun e w' => e = .returned (.int .i64 0) ∧ SetAns w w' base b gc n i R va ah codes := by
  have c0 := hp_cell (j := 0) hC.hb rfl
  have HAL := Lib.hid (all_any b (some ⟨gc, 0, none⟩) n n w c0)
  have HS := Lib.hid (fun W (h : Below w.heap.size w W) => setRow_any base b gc n i R va ah codes A q c W (hC.low h) hi (hr.below h) hq)
  clear hC hr c0
  go_enter Tryz.func32, Tryz.ntmps32
  go_wp2_with fail
  refine HAL.out.mono ?_
  rintro e w1 ⟨rfl, hb1⟩
  go_wp2_with fail
  refine (prHas_any 0 (n : Int) (i : Int) w1).mono ?_
  rintro e w2 ⟨rfl, hb2⟩
  rw [show hasB ((0 : Int), (n : Int)) (i : Int) = true by unfold hasB; exact decide_eq_true (by omega)]
  have hb3 := below_self hb1 hb2
  go_wp2_with fail
  refine (HS.out w2 hb3).mono ?_
  rintro e w4 ⟨rfl, hA, hB⟩
  have HA := Lib.hid hA
  have HB := Lib.hid (fun B w0 h1 h2 (h3 : B ≤ w.heap.size) h => hB B w0 h1 h2 (Nat.le_trans h3 hb3.size) (Below.trans h (hb3.mono h3)))
  clear hA hB hb1 hb2 hb3
  go_wp2_with fail
  go_ret
  exact ⟨rfl, HA.out, HB.out⟩
end Go.Proofs.YtcbiaeeifclieaaGreatDoor
/- cells' Set, walked: which blocks it writes. -/
namespace Go.Proofs.YtcbiaeeifclieaaGreatDoor
open Go.RowKit

/-- What Set leaves: all but the blocks of the cells. -/
def SetKept (w w' : World) (base b gc n i : Nat) (R : List RC) (va : Value) (ah : List Int) (codes : List Int) : Prop :=
  (∃ v r, R[i]? = some r ∧ CellsAt w' base b gc n (R.set i (v, r.2.1, codes)) (if i = 0 then .slice none 0 0 else va) (if i = 0 then [] else ah) ∧ ∀ g, v.ownBlock = some g → w.heap.size ≤ g) ∧ Kept w w' [b, gc]
set_option maxRecDepth 100000 in
set_option maxHeartbeats 2000000 in
theorem setRow_kept (base b gc n i : Nat) (R : List RC) (va : Value) (ah codes : List Int) (A : Option Addr) (q c : Nat) (w : World) (hC : CellsAt w base b gc n R va ah) (hi : i < n) (hr : Rd w 1 A q (codes.map (Value.int .i64))) (hq : q ≤ 16777216) :
    Calls Tryz.prog 60 #[.pointer (some ⟨b, 0, none⟩), .int .i64 (i : Int), .slice A q c] w fun e w' => e = .returned (.tuple #[]) ∧ SetKept w w' base b gc n i R va ah codes := by
  have hlen : codes.length = q := by have := hr.1; rw [List.length_map] at this; omega
  obtain ⟨r, hri⟩ : ∃ r, R[i]? = some r := ⟨_, List.getElem?_eq_getElem (by rw [hC.len]; exact hi)⟩
  have c0 := hp_cell (j := 0) hC.hb rfl
  have HC := Lib.hid hC
  have HR := Lib.hid hr
  have HRI := Lib.hid hri
  have HL := Lib.hid hlen
  have hii : (i : Int) < (n : Int) := by omega
  have hi0 : (0 : Int) ≤ (i : Int) := by omega
  have HCL := Lib.hid (fun W (h : Below w.heap.size w W) => cloneInt_any A q c (codes.map (Value.int .i64)) W (hr.below h) (oneInts _ _) hq)
  clear hC hr hri hlen
  go_enter Tryz.func60, Tryz.ntmps60
  go_upto_region 0 with fail
  go_cut [] (fun wx => ∃ v, CellsAt wx base b gc n (R.set i (v, r.2.1, codes)) va ah ∧ Kept w wx [b, gc] ∧ ∀ g, v.ownBlock = some g → w.heap.size ≤ g)
  case first =>
    go_region_law (first
      | (go_simp; go_at_call 93; refine (HCL.out _ (by first | exact (Below.refl _ _).drew | exact Below.refl _ _)).mono ?_; rintro e' w4 ⟨v4, rfl, hown4, hb4⟩; obtain ⟨A4, c4, rfl, hc4⟩ := own_form hown4; have hz4 : Below w.heap.size w w4 := (by first | exact below_self (Below.refl _ _).drew hb4 | exact hb4); have y0 := cell_below hz4 c0; have y1 := ((HC.out.low hz4).cell HRI.out).1; have y2 := hp_froz (HC.out.low hz4).hc (i * 2))
      | fail)
    · have HCP := Lib.hid ((HC.out.low hz4).put HRI.out (v := .slice A4 q c4) (l := codes) (by rw [HL.out]; exact own_base hown4 HC.out.far.2.2.2) (fun j s _ hs => by
        rcases h : (Value.slice A4 q c4).ownBlock with _ | g
        · exact .inl rfl
        · refine .inr (fun e => ?_)
          have h1 := (hown4.lt g h).1
          have h2 := ((HC.out.rows j s hs).lt g e.symm).2
          have h3 : w.heap.size ≤ g := h1
          omega) (by
        rcases h : (Value.slice A4 q c4).ownBlock with _ | g
        · exact .inl rfl
        · refine .inr (fun e => ?_)
          have h1 := (hown4.lt g h).1
          have h2 := (HC.out.arow.lt g e.symm).2
          have h3 : w.heap.size ≤ g := h1
          omega))
      have HBB := Lib.hid (show Kept w (w4.setCell ⟨gc, i * 2, none⟩ (.slice A4 q c4)) [b, gc] from (Kept.of_below hz4 _).set (.inl (by simp)) _ _)
      have HNW := Lib.hid (fun (g : Nat) (h : (Value.slice A4 q c4).ownBlock = some g) => (show w.heap.size ≤ g from (hown4.lt g h).1))
      clear hz4 hown4 hb4 y0 y1 y2
      go_wp2_with fail
      go_meet
      case rel => exact ⟨_, HCP.out, HBB.out, HNW.out⟩
    · have HCP := Lib.hid ((HC.out.low hz4).put HRI.out (v := .slice A4 q c4) (l := codes) (by rw [HL.out]; exact own_base hown4 HC.out.far.2.2.2) (fun j s _ hs => by
        rcases h : (Value.slice A4 q c4).ownBlock with _ | g
        · exact .inl rfl
        · refine .inr (fun e => ?_)
          have h1 := (hown4.lt g h).1
          have h2 := ((HC.out.rows j s hs).lt g e.symm).2
          have h3 : w.heap.size ≤ g := h1
          omega) (by
        rcases h : (Value.slice A4 q c4).ownBlock with _ | g
        · exact .inl rfl
        · refine .inr (fun e => ?_)
          have h1 := (hown4.lt g h).1
          have h2 := (HC.out.arow.lt g e.symm).2
          have h3 : w.heap.size ≤ g := h1
          omega))
      have HBB := Lib.hid (show Kept w (w4.setCell ⟨gc, i * 2, none⟩ (.slice A4 q c4)) [b, gc] from (Kept.of_below hz4 _).set (.inl (by simp)) _ _)
      have HNW := Lib.hid (fun (g : Nat) (h : (Value.slice A4 q c4).ownBlock = some g) => (show w.heap.size ≤ g from (hown4.lt g h).1))
      clear hz4 hown4 hb4 y0 y1 y2
      go_wp2_with fail
      go_meet
      case rel => exact ⟨_, HCP.out, HBB.out, HNW.out⟩
  case rest =>
    obtain ⟨v, hC2, hB2, hN2⟩ := hcut
    have HN2 := Lib.hid hN2
    clear hN2
    have c1 := hp_cell (j := 1) hC2.hb rfl
    have f1 := hp_froz hC2.hb 1
    have HC2 := Lib.hid hC2
    have HB2 := Lib.hid hB2
    clear hC2 hB2 c0
    by_cases hz : i = 0
    · have g0 : ((i : Int) == 0) = true := by simp; omega
      have HP := Lib.hid (HC2.out.putA (v := .slice none 0 0) (l := []) (World.ownsRow_nil _ _ _ _) (fun j s hs => by
        rcases h : s.1.ownBlock with _ | g
        · exact .inl rfl
        · exact .inr (by simp [Value.ownBlock])))
      have HZ := Lib.hid hz
      clear hz
      go_wp2_with fail
      refine bodyPost_end (v := .tuple #[]) (by simp [results, go_sem]) rfl ⟨rfl, ⟨v, r, HRI.out, ?_, HN2.out⟩, HB2.out.set (.inl (by simp)) _ _⟩
      rw [if_pos HZ.out, if_pos HZ.out]
      exact HP.out
    · have g0 : ((i : Int) == 0) = false := by simp; omega
      have HZ := Lib.hid hz
      clear hz
      go_wp2_with fail
      refine bodyPost_end (v := .tuple #[]) (by simp [results, go_sem]) rfl ⟨rfl, ⟨v, r, HRI.out, ?_, HN2.out⟩, HB2.out⟩
      rw [if_neg HZ.out, if_neg HZ.out]
      exact HC2.out
set_option maxRecDepth 100000 in
set_option maxHeartbeats 1000000 in
theorem set_keeps (base b gc n i : Nat) (R : List RC) (va : Value) (ah codes : List Int) (A : Option Addr) (q c : Nat) (w : World) (hC : CellsAt w base b gc n R va ah) (hi : i < n) (hr : Rd w 1 A q (codes.map (Value.int .i64))) (hq : q ≤ 16777216) (hn : n ≤ 100000000) :
    Calls Tryz.prog 32 #[.pointer (some ⟨b, 0, none⟩), .int .i64 (i : Int), .slice A q c] w fun e w' => e = .returned (.int .i64 0) ∧ SetKept w w' base b gc n i R va ah codes := by
  have c0 := hp_cell (j := 0) hC.hb rfl
  have HAL := Lib.hid (all_any b (some ⟨gc, 0, none⟩) n n w c0)
  have HS := Lib.hid (fun W (h : Below w.heap.size w W) => setRow_kept base b gc n i R va ah codes A q c W (hC.low h) hi (hr.below h) hq)
  clear hC hr c0
  go_enter Tryz.func32, Tryz.ntmps32
  go_wp2_with fail
  refine HAL.out.mono ?_
  rintro e w1 ⟨rfl, hb1⟩
  go_wp2_with fail
  refine (prHas_any 0 (n : Int) (i : Int) w1).mono ?_
  rintro e w2 ⟨rfl, hb2⟩
  rw [show hasB ((0 : Int), (n : Int)) (i : Int) = true by unfold hasB; exact decide_eq_true (by omega)]
  have hb3 := below_self hb1 hb2
  go_wp2_with fail
  refine (HS.out w2 hb3).mono ?_
  rintro e w4 ⟨rfl, hA, hB⟩
  obtain ⟨va9, r9, h91, h92, h93⟩ := hA
  have HA := Lib.hid (show ∃ v r, R[i]? = some r ∧ CellsAt w4 base b gc n (R.set i (v, r.2.1, codes)) (if i = 0 then .slice none 0 0 else va) (if i = 0 then [] else ah) ∧ ∀ g, v.ownBlock = some g → w.heap.size ≤ g from ⟨va9, r9, h91, h92, fun g hg => Nat.le_trans hb3.size (h93 g hg)⟩)
  have HB := Lib.hid ((Kept.of_below hb3 [b, gc]).trans hB)
  clear h91 h92 h93 hB hb1 hb2 hb3
  go_wp2_with fail
  go_ret
  exact ⟨rfl, HA.out, HB.out⟩
end Go.Proofs.YtcbiaeeifclieaaGreatDoor
