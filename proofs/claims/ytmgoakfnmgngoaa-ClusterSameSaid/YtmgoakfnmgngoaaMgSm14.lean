/- Texts of one claim, one behind the other. -/
import Derived.Deep.LoopGhost
import Derived.Deep.DeepCutAuto
import Derived.Deep.CutBlock
import Derived.Shelf.Abstract
import Derived.Deep.RegionHeld3
import Derived.Test.YtmgoakfnmgngoaaMgSm1
import Derived.Test.YtmgoakfnmgngoaaMgSm2
import Derived.Test.YtmgoakfnmgngoaaMgSm13
/- slices.symMerge at clusters, walked. -/
namespace Go.Proofs.Ytmgoakfnmgngoaa
open Go.RowKit

/-- What a merge answers. -/
def MrgAns (w w' : World) (base g cap n a b : Nat) (xs : List Cl) (e : Ending) : Prop := e = .returned (.tuple #[]) ∧ ∃ ys, Turned xs ys a b ∧ SrtP ys a b ∧ StW w' base g n cap ys ∧ w.grownBy w' (some g)
theorem Turned.swap' {xs ys : List Cl} {a b j : Nat} (h : Turned xs ys a b) (ha : a ≤ j) (hb : j + 1 < b) (hl : b ≤ ys.length) {x y : Cl} (hx : ys[j]? = some x) (hy : ys[j + 1]? = some y) (hlt : keyC y < keyC x) : Turned xs ((ys.set j y).set (j + 1) x) a b := by
  rw [List.set_comm _ _ (by omega)]
  exact h.swap ha hb hl hx hy hlt
set_option maxRecDepth 100000 in
set_option maxHeartbeats 4000000 in
theorem symOne_any (f : FuncId) (eg : ∀ args w, (callFunc f args).run Try.prog w = .ok (.enter f args) w) (hf : CmpC f) (base g cap n a m b : Nat) (xs : List Cl) (w : World) (hS : StW w base g n cap xs) (hb : b ≤ n) (ham : a < m) (hmb : m < b) (hn : n ≤ 100000000) (hs1 : SrtP xs a m) (hs2 : SrtP xs m b) (hone : m = a + 1) :
    Calls Try.prog 99 #[.slice (some ⟨g, 0, none⟩) n cap, .int .i64 (a : Int), .int .i64 (m : Int), .int .i64 (b : Int), .func (.func f) #[] #[]] w (fun e w' => MrgAns w w' base g cap n a b xs e) := by
  have HS := Lib.hid hS
  have HF := Lib.hid hf
  have hlen := hS.len
  have HSR := Lib.hid hs2
  obtain ⟨x, hx⟩ : ∃ x, xs[a]? = some x := ⟨_, List.getElem?_eq_getElem (by omega)⟩
  have HX := Lib.hid hx
  have HL := Lib.hid hlen
  have HM := Lib.hid hone
  have im : (m : Int) - (a : Int) = 1 := by omega
  have han : a < n := by omega
  have iam : (a : Int) < (n : Int) := by omega
  clear hS hf hs1 hs2 hx hlen hone
  go_enter Try.func99, Try.ntmps99
  go_wp2_with fail
  clear im
  go_loopw [10, 11] (fun u v ws => ∃ i j : Nat, u = .int .i64 (i : Int) ∧ v = .int .i64 (j : Int) ∧ m ≤ i ∧ i ≤ j ∧ j ≤ b ∧ (∀ p y, m ≤ p → p < i → xs[p]? = some y → keyC y < keyC x) ∧ (∀ p y, j ≤ p → p < b → xs[p]? = some y → keyC x ≤ keyC y) ∧ StW ws base g n cap xs ∧ w.grownBy ws (some g)) (fun u v _ => (intOf v).toNat - (intOf u).toNat)
  case atStart => exact ⟨m, b, rfl, rfl, Nat.le_refl _, by omega, Nat.le_refl _, fun p y h1 h2 => by omega, fun p y h1 h2 => by omega, HS.out, World.grownBy.refl w _⟩
  case round =>
    clear HS
    obtain ⟨i, j, rfl, rfl, hmi, hij, hjb, h1, h2, hst, hgr⟩ := hrel
    have H1 := Lib.hid h1
    have H2 := Lib.hid h2
    have HST := Lib.hid hst
    have HG := Lib.hid hgr
    clear h1 h2 hst hgr
    by_cases hlt : i < j
    · obtain ⟨h, hh⟩ : ∃ h, (i + j) / 2 = h := ⟨_, rfl⟩
      have hhi : i ≤ h := by omega
      have hhj : h < j := by omega
      have ih : ((i : Int) + (j : Int)) / 2 = (h : Int) := by omega
      have hhn : h < n := by omega
      have ihn : (h : Int) < (n : Int) := by omega
      have ih0 : (0 : Int) ≤ (h : Int) := by omega
      have ia0 : (0 : Int) ≤ (a : Int) := by omega
      obtain ⟨y, hy⟩ : ∃ y, xs[h]? = some y := ⟨_, List.getElem?_eq_getElem (by have := HL.out; omega)⟩
      have HUP := Lib.hid (show keyC y < keyC x → ∀ p z, m ≤ p → p < h + 1 → xs[p]? = some z → keyC z < keyC x from fun hl p z k1 k2 hz => by
        by_cases e : p = h
        · subst e; rw [hy] at hz; obtain rfl := Option.some.inj hz; exact hl
        · have := HSR.out p h z y k1 (by omega) (by omega) hz hy
          omega)
      have HDN := Lib.hid (show keyC x ≤ keyC y → ∀ p z, h ≤ p → p < b → xs[p]? = some z → keyC x ≤ keyC z from fun hl p z k1 k2 hz => by
        by_cases e : p = h
        · subst e; rw [hy] at hz; obtain rfl := Option.some.inj hz; exact hl
        · have := HSR.out h p y z (by omega) (by omega) k2 hy hz
          omega)
      have HCALL := Lib.hid (HF.out y x)
      have HLC0 := Lib.hid (cmpC_lt y x)
      have HX2 := HX.out
      obtain ⟨x0, x1, x2, x3, fx0, fx1, fx2, fx3⟩ := HST.out.at_ HX2
      obtain ⟨y0, y1, y2, y3, fy0, fy1, fy2, fy3⟩ := HST.out.at_ hy
      obtain ⟨⟨xa, xb⟩, xc, xd⟩ := x
      obtain ⟨⟨ya, yb⟩, yc, yd⟩ := y
      simp only at x0 x1 x2 x3 y0 y1 y2 y3 HCALL
      obtain ⟨cv, hcv⟩ : ∃ cv, cmpI (keyC ((ya, yb), yc, yd)) (keyC ((xa, xb), xc, xd)) = cv := ⟨_, rfl⟩
      rw [hcv] at HCALL HLC0
      clear hy HX2 hcv hh
      go_wp2_with fail
      go_region_held3 (fun w' => w'.cell? ⟨g, h * 4, none⟩ = some (.int .i64 ya) ∧ w'.cell? ⟨g, h * 4 + 1, none⟩ = some (.int .i64 yb) ∧ w'.cell? ⟨g, h * 4 + 2, none⟩ = some (.int .i64 yc) ∧ w'.cell? ⟨g, h * 4 + 3, none⟩ = some (.int .i64 yd) ∧ w'.cell? ⟨g, a * 4, none⟩ = some (.int .i64 xa) ∧ w'.cell? ⟨g, a * 4 + 1, none⟩ = some (.int .i64 xb) ∧ w'.cell? ⟨g, a * 4 + 2, none⟩ = some (.int .i64 xc) ∧ w'.cell? ⟨g, a * 4 + 3, none⟩ = some (.int .i64 xd) ∧ Below wr.heap.size wr w')
        (first
          | exact ⟨y0, y1, y2, y3, x0, x1, x2, x3, Below.refl _ _⟩
          | exact ⟨y0, y1, y2, y3, x0, x1, x2, x3, (Below.refl _ _).drew⟩
          | exact ⟨cell_below hz1 y0, cell_below hz1 y1, cell_below hz1 y2, cell_below hz1 y3, cell_below hz1 x0, cell_below hz1 x1, cell_below hz1 x2, cell_below hz1 x3, hz1⟩
          | fail)
        (first
          | (go_at_fn f; refine (HCALL.out _).mono ?_; rintro e' w1 ⟨rfl, hb1⟩; have hz1 : Below wr.heap.size wr w1 := (by first | exact below_self (Below.refl _ _).drew hb1 | exact hb1))
          | fail)
      have HS1 := Lib.hid (show StW w1 base g n cap xs from own_below HST.out hz1)
      have HG1 := Lib.hid (grown2 HG.out (show wr.grownBy w1 (some g) from ⟨hz1.os, hz1.tape, hz1.output, hz1.size, fun q hq _ => hz1.block q hq⟩))
      clear y0 fy0 y1 fy1 y2 fy2 y3 fy3 x0 fx0 x1 fx1 x2 fx2 x3 fx3 hz1 hb1
      by_cases hcv : cv < 0
      · have HE := Lib.hid (HUP.out (of_decide_eq_true (by rw [← HLC0.out]; exact decide_eq_true hcv)))
        go_wp2_with fail
        go_roundw
        case rel => exact ⟨h + 1, j, by go_num, rfl, by omega, by omega, hjb, HE.out, H2.out, HS1.out, HG1.out⟩
        case measure => simp [intOf]; omega
      · have HE := Lib.hid (HDN.out (Int.not_lt.1 (of_decide_eq_false (by rw [← HLC0.out]; exact decide_eq_false hcv))))
        go_wp2_with fail
        go_roundw
        case rel => exact ⟨i, h, rfl, rfl, hmi, by omega, by omega, H1.out, HE.out, HS1.out, HG1.out⟩
        case measure => simp [intOf]; omega
    · have hij2 : i = j := by omega
      have H2' := Lib.hid (show ∀ p y, i ≤ p → p < b → xs[p]? = some y → keyC x ≤ keyC y by rw [hij2]; exact H2.out)
      obtain ⟨i1, hi1⟩ : ∃ i1, i - 1 = i1 := ⟨_, rfl⟩
      have ii : (i : Int) - 1 = (i1 : Int) := by omega
      have HI1 := Lib.hid hi1
      have hai1 : a ≤ i1 := by omega
      have hib1 : i1 + 1 ≤ b := by omega
      have HI2 := Lib.hid (show i1 + 1 = i by omega)
      clear hij2 H2 hi1
      go_wp2_with fail
      go_loopw [13] (fun u ws => ∃ (k : Nat) (ys : List Cl), u = .int .i64 (k : Int) ∧ a ≤ k ∧ k ≤ i1 ∧ UpAt xs a k ys ∧ Turned xs ys a b ∧ StW ws base g n cap ys ∧ w.grownBy ws (some g)) (fun u _ => i1 - (intOf u).toNat)
      case atStart => exact ⟨a, xs, rfl, Nat.le_refl _, hai1, UpAt.start xs a, Turned.refl _ _ _, HST.out, HG.out⟩
      case round =>
        clear HST HG
        obtain ⟨k, ys, rfl, hak, hki, hup, htu, hst, hgr⟩ := hrel
        have hyl := hst.len
        have HUPA := Lib.hid hup
        have HTU := Lib.hid htu
        have HST := Lib.hid hst
        have HG := Lib.hid hgr
        by_cases hlt2 : k < i1
        · have hx1 : ys[k]? = some x := by rw [hup.2 k, if_neg (by omega), if_pos rfl]; exact HX.out
          obtain ⟨y, hy⟩ : ∃ y, ys[k + 1]? = some y := ⟨_, List.getElem?_eq_getElem (by omega)⟩
          have hyx : xs[k + 1]? = some y := by rw [← hy, hup.2 (k + 1), if_neg (by omega), if_neg (by omega)]
          have hlt3 : keyC y < keyC x := H1.out (k + 1) y (by have := HM.out; omega) (by have := HI2.out; omega) hyx
          have HN := Lib.hid (hup.step hak (by have := HL.out; omega) hx1 hy)
          have HT2 := Lib.hid (htu.swap' hak (by omega) (by omega) hx1 hy hlt3)
          obtain ⟨k1, hk1⟩ : ∃ k1, k + 1 = k1 := ⟨_, rfl⟩
          rw [hk1] at hy HN HT2
          have ik1 : (k : Int) + 1 = (k1 : Int) := by omega
          have hkn : k < n := by omega
          have hk1n : k1 < n := by omega
          have ikn : (k : Int) < (n : Int) := by omega
          have ik1n : (k1 : Int) < (n : Int) := by omega
          have ik0 : (0 : Int) ≤ (k : Int) := by omega
          have ik10 : (0 : Int) ≤ (k1 : Int) := by omega
          have hkk : k < k1 := by omega
          have hw := HST.out.swap hkn hk1n x y
          obtain ⟨x0, x1, x2, x3, fx0, fx1, fx2, fx3⟩ := HST.out.at_ hx1
          obtain ⟨y0, y1, y2, y3, fy0, fy1, fy2, fy3⟩ := HST.out.at_ hy
          obtain ⟨⟨xa, xb⟩, xc, xd⟩ := x
          obtain ⟨⟨ya, yb⟩, yc, yd⟩ := y
          simp only at x0 x1 x2 x3 y0 y1 y2 y3
          simp only [putC] at hw
          have HW := Lib.hid hw
          have HK1 := Lib.hid hk1
          clear hx1 hy hyx hlt3 hup htu hst hgr hw hk1 hyl
          go_wp2_with fail
          go_region
          clear x0 x1 x2 x3 fx0 fx1 fx2 fx3 y0 y1 y2 y3 fy0 fy1 fy2 fy3
          go_wp2_with fail
          go_roundw
          case rel => exact ⟨k1, _, rfl, by omega, by omega, HN.out, HT2.out, HW.out.1, grown2 HG.out HW.out.2⟩
          case measure => simp [intOf]; have := HK1.out; omega
        · have hki1 : k = i1 := by omega
          have HE := Lib.hid (up_sorted (i := i) (e := x) (by rw [HI1.out, ← hki1]; exact hup) (by have := HM.out; omega) (by have := HI2.out; omega) (by have := HL.out; omega) HX.out (by rw [← HM.out]; exact HSR.out) (by rw [← HM.out]; exact H1.out) H2'.out)
          clear hup htu hst hgr hki1
          go_wp2_with fail
          exact bodyPost_ret (v := .tuple #[]) (by simp [results, go_sem]) rfl ⟨rfl, ys, HTU.out, HE.out, HST.out, HG.out⟩
end Go.Proofs.Ytmgoakfnmgngoaa
/- slices.symMerge at clusters: one element behind a row, walked. -/
namespace Go.Proofs.Ytmgoakfnmgngoaa
open Go.RowKit

set_option maxRecDepth 100000 in
set_option maxHeartbeats 4000000 in
theorem symTwo_any (f : FuncId) (eg : ∀ args w, (callFunc f args).run Try.prog w = .ok (.enter f args) w) (hf : CmpC f) (base g cap n a m b : Nat) (xs : List Cl) (w : World) (hS : StW w base g n cap xs) (hb : b ≤ n) (ham : a < m) (hmb : m < b) (hn : n ≤ 100000000) (hs1 : SrtP xs a m) (hs2 : SrtP xs m b) (hno : m ≠ a + 1) (hone : b = m + 1) :
    Calls Try.prog 99 #[.slice (some ⟨g, 0, none⟩) n cap, .int .i64 (a : Int), .int .i64 (m : Int), .int .i64 (b : Int), .func (.func f) #[] #[]] w (fun e w' => MrgAns w w' base g cap n a b xs e) := by
  have HS := Lib.hid hS
  have HF := Lib.hid hf
  have hlen := hS.len
  have HSR := Lib.hid hs1
  obtain ⟨x, hx⟩ : ∃ x, xs[m]? = some x := ⟨_, List.getElem?_eq_getElem (by omega)⟩
  have HX := Lib.hid hx
  have HL := Lib.hid hlen
  have HM := Lib.hid hone
  have gno : ((m : Int) - (a : Int) == 1) = false := by simp; omega
  have im : (b : Int) - (m : Int) = 1 := by omega
  have hmn : m < n := by omega
  have imn : (m : Int) < (n : Int) := by omega
  have im0 : (0 : Int) ≤ (m : Int) := by omega
  clear hS hf hs1 hs2 hx hlen hone hno
  go_enter Try.func99, Try.ntmps99
  go_wp2_with fail
  clear im gno
  go_loopw [14, 15] (fun u v ws => ∃ i j : Nat, u = .int .i64 (i : Int) ∧ v = .int .i64 (j : Int) ∧ a ≤ i ∧ i ≤ j ∧ j ≤ m ∧ (∀ p y, a ≤ p → p < i → xs[p]? = some y → keyC y ≤ keyC x) ∧ (∀ p y, j ≤ p → p < m → xs[p]? = some y → keyC x < keyC y) ∧ StW ws base g n cap xs ∧ w.grownBy ws (some g)) (fun u v _ => (intOf v).toNat - (intOf u).toNat)
  case atStart => exact ⟨a, m, rfl, rfl, Nat.le_refl _, by omega, Nat.le_refl _, fun p y h1 h2 => by omega, fun p y h1 h2 => by omega, HS.out, World.grownBy.refl w _⟩
  case round =>
    clear HS
    obtain ⟨i, j, rfl, rfl, hai, hij, hjm, h1, h2, hst, hgr⟩ := hrel
    have H1 := Lib.hid h1
    have H2 := Lib.hid h2
    have HST := Lib.hid hst
    have HG := Lib.hid hgr
    clear h1 h2 hst hgr
    by_cases hlt : i < j
    · obtain ⟨h, hh⟩ : ∃ h, (i + j) / 2 = h := ⟨_, rfl⟩
      have hhi : i ≤ h := by omega
      have hhj : h < j := by omega
      have ih : ((i : Int) + (j : Int)) / 2 = (h : Int) := by omega
      have hhn : h < n := by omega
      have ihn : (h : Int) < (n : Int) := by omega
      have ih0 : (0 : Int) ≤ (h : Int) := by omega
      obtain ⟨y, hy⟩ : ∃ y, xs[h]? = some y := ⟨_, List.getElem?_eq_getElem (by have := HL.out; omega)⟩
      have HDN := Lib.hid (show keyC x < keyC y → ∀ p z, h ≤ p → p < m → xs[p]? = some z → keyC x < keyC z from fun hl p z k1 k2 hz => by
        by_cases e : p = h
        · subst e; rw [hy] at hz; obtain rfl := Option.some.inj hz; exact hl
        · have := HSR.out h p y z (by omega) (by omega) k2 hy hz
          omega)
      have HUP := Lib.hid (show keyC y ≤ keyC x → ∀ p z, a ≤ p → p < h + 1 → xs[p]? = some z → keyC z ≤ keyC x from fun hl p z k1 k2 hz => by
        by_cases e : p = h
        · subst e; rw [hy] at hz; obtain rfl := Option.some.inj hz; exact hl
        · have := HSR.out p h z y k1 (by omega) (by omega) hz hy
          omega)
      have HCALL := Lib.hid (HF.out x y)
      have HLC0 := Lib.hid (cmpC_lt x y)
      have HX2 := HX.out
      obtain ⟨x0, x1, x2, x3, fx0, fx1, fx2, fx3⟩ := HST.out.at_ HX2
      obtain ⟨y0, y1, y2, y3, fy0, fy1, fy2, fy3⟩ := HST.out.at_ hy
      obtain ⟨⟨xa, xb⟩, xc, xd⟩ := x
      obtain ⟨⟨ya, yb⟩, yc, yd⟩ := y
      simp only at x0 x1 x2 x3 y0 y1 y2 y3 HCALL
      obtain ⟨cv, hcv⟩ : ∃ cv, cmpI (keyC ((xa, xb), xc, xd)) (keyC ((ya, yb), yc, yd)) = cv := ⟨_, rfl⟩
      rw [hcv] at HCALL HLC0
      clear hy HX2 hcv hh
      go_wp2_with fail
      go_region_held3 (fun w' => w'.cell? ⟨g, m * 4, none⟩ = some (.int .i64 xa) ∧ w'.cell? ⟨g, m * 4 + 1, none⟩ = some (.int .i64 xb) ∧ w'.cell? ⟨g, m * 4 + 2, none⟩ = some (.int .i64 xc) ∧ w'.cell? ⟨g, m * 4 + 3, none⟩ = some (.int .i64 xd) ∧ w'.cell? ⟨g, h * 4, none⟩ = some (.int .i64 ya) ∧ w'.cell? ⟨g, h * 4 + 1, none⟩ = some (.int .i64 yb) ∧ w'.cell? ⟨g, h * 4 + 2, none⟩ = some (.int .i64 yc) ∧ w'.cell? ⟨g, h * 4 + 3, none⟩ = some (.int .i64 yd) ∧ Below wr.heap.size wr w')
        (first
          | exact ⟨x0, x1, x2, x3, y0, y1, y2, y3, Below.refl _ _⟩
          | exact ⟨x0, x1, x2, x3, y0, y1, y2, y3, (Below.refl _ _).drew⟩
          | exact ⟨cell_below hz1 x0, cell_below hz1 x1, cell_below hz1 x2, cell_below hz1 x3, cell_below hz1 y0, cell_below hz1 y1, cell_below hz1 y2, cell_below hz1 y3, hz1⟩
          | fail)
        (first
          | (go_at_fn f; refine (HCALL.out _).mono ?_; rintro e' w1 ⟨rfl, hb1⟩; have hz1 : Below wr.heap.size wr w1 := (by first | exact below_self (Below.refl _ _).drew hb1 | exact hb1))
          | fail)
      have HS1 := Lib.hid (show StW w1 base g n cap xs from own_below HST.out hz1)
      have HG1 := Lib.hid (grown2 HG.out (show wr.grownBy w1 (some g) from ⟨hz1.os, hz1.tape, hz1.output, hz1.size, fun q hq _ => hz1.block q hq⟩))
      clear x0 fx0 x1 fx1 x2 fx2 x3 fx3 y0 fy0 y1 fy1 y2 fy2 y3 fy3 hz1 hb1
      by_cases hcv : cv < 0
      · have HE := Lib.hid (HDN.out (of_decide_eq_true (by rw [← HLC0.out]; exact decide_eq_true hcv)))
        have hce : decide (cv < 0) = true := decide_eq_true hcv
        simp only [hce, Bool.not_true]
        clear hce hcv
        go_wp2_with fail
        go_roundw
        case rel => exact ⟨i, h, rfl, rfl, hai, by omega, by omega, H1.out, HE.out, HS1.out, HG1.out⟩
        case measure => simp [intOf]; omega
      · have HE := Lib.hid (HUP.out (Int.not_lt.1 (of_decide_eq_false (by rw [← HLC0.out]; exact decide_eq_false hcv))))
        have hce : decide (cv < 0) = false := decide_eq_false hcv
        simp only [hce, Bool.not_false]
        clear hce hcv
        go_wp2_with fail
        go_roundw
        case rel => exact ⟨h + 1, j, by go_num, rfl, by omega, by omega, hjm, HE.out, H2.out, HS1.out, HG1.out⟩
        case measure => simp [intOf]; omega
    · have hij2 : i = j := by omega
      have H2' := Lib.hid (show ∀ p y, i ≤ p → p < m → xs[p]? = some y → keyC x < keyC y by rw [hij2]; exact H2.out)
      have him : i ≤ m := by omega
      clear hij2 H2
      go_wp2_with fail
      go_loopw [17] (fun u ws => ∃ (k : Nat) (ys : List Cl), u = .int .i64 (k : Int) ∧ i ≤ k ∧ k ≤ m ∧ DnAt xs m k ys ∧ Turned xs ys a b ∧ StW ws base g n cap ys ∧ w.grownBy ws (some g)) (fun u _ => (intOf u).toNat)
      case atStart => exact ⟨m, xs, rfl, him, Nat.le_refl _, DnAt.start xs m, Turned.refl _ _ _, HST.out, HG.out⟩
      case round =>
        clear HST HG
        obtain ⟨k, ys, rfl, hik, hkm, hdn, htu, hst, hgr⟩ := hrel
        have hyl := hst.len
        have HDNA := Lib.hid hdn
        have HTU := Lib.hid htu
        have HST := Lib.hid hst
        have HG := Lib.hid hgr
        by_cases hlt2 : i < k
        · obtain ⟨k1, hk1⟩ : ∃ k1, k = k1 + 1 := ⟨k - 1, by omega⟩
          have hy1 : ys[k]? = some x := by rw [hdn.2 k, if_neg (by omega), if_pos rfl]; exact HX.out
          obtain ⟨y, hy⟩ : ∃ y, ys[k1]? = some y := ⟨_, List.getElem?_eq_getElem (by omega)⟩
          have hyx : xs[k1]? = some y := by rw [← hy, hdn.2 k1, if_neg (by omega), if_neg (by omega)]
          have hlt3 : keyC x < keyC y := H2'.out k1 y (by omega) (by omega) hyx
          have HN := Lib.hid (show DnAt xs m k1 ((ys.set k y).set k1 x) by
            subst hk1
            exact hdn.step hkm (by have := HL.out; omega) hy hy1)
          have HT2 := Lib.hid (show Turned xs ((ys.set k y).set k1 x) a b by
            subst hk1
            exact htu.swap (by omega) (by have := HM.out; omega) (by omega) hy hy1 hlt3)
          have ik1 : (k : Int) - 1 = (k1 : Int) := by omega
          have hkn : k < n := by omega
          have hk1n : k1 < n := by omega
          have ikn : (k : Int) < (n : Int) := by omega
          have ik1n : (k1 : Int) < (n : Int) := by omega
          have ik0 : (0 : Int) ≤ (k : Int) := by omega
          have ik10 : (0 : Int) ≤ (k1 : Int) := by omega
          have hkk : k1 < k := by omega
          have hik1 : i ≤ k1 := by omega
          have hw := HST.out.swap hkn hk1n x y
          obtain ⟨x0, x1, x2, x3, fx0, fx1, fx2, fx3⟩ := HST.out.at_ hy1
          obtain ⟨y0, y1, y2, y3, fy0, fy1, fy2, fy3⟩ := HST.out.at_ hy
          obtain ⟨⟨xa, xb⟩, xc, xd⟩ := x
          obtain ⟨⟨ya, yb⟩, yc, yd⟩ := y
          simp only at x0 x1 x2 x3 y0 y1 y2 y3
          simp only [putC] at hw
          have HW := Lib.hid hw
          clear hy1 hy hyx hlt3 hdn htu hst hgr hw hk1 hyl
          go_wp2_with fail
          go_region
          clear x0 x1 x2 x3 fx0 fx1 fx2 fx3 y0 y1 y2 y3 fy0 fy1 fy2 fy3
          go_wp2_with fail
          go_roundw
          case rel => exact ⟨k1, _, rfl, hik1, by omega, HN.out, HT2.out, HW.out.1, grown2 HG.out HW.out.2⟩
          case measure => simp [intOf]; omega
        · have hki1 : k = i := by omega
          have HE := Lib.hid (show SrtP ys a b by
            rw [HM.out]
            exact dn_sorted (i := i) (e := x) (by rw [← hki1]; exact hdn) hai him HX.out HSR.out H1.out H2'.out)
          clear hdn htu hst hgr hki1
          go_wp2_with fail
          exact bodyPost_ret (v := .tuple #[]) (by simp [results, go_sem]) rfl ⟨rfl, ys, HTU.out, HE.out, HST.out, HG.out⟩
end Go.Proofs.Ytmgoakfnmgngoaa
/- slices.symMerge at clusters: two rows, walked. -/
namespace Go.Proofs.Ytmgoakfnmgngoaa
open Go.RowKit

set_option maxRecDepth 100000 in
set_option maxHeartbeats 4000000 in
theorem symAll_any (f : FuncId) (eg : ∀ args w, (callFunc f args).run Try.prog w = .ok (.enter f args) w) (hf : CmpC f) (base g cap n : Nat) (hn : n ≤ 100000000) : ∀ (d a m b : Nat) (xs : List Cl) (w : World), b - a ≤ d → StW w base g n cap xs → b ≤ n → a < m → m < b → SrtP xs a m → SrtP xs m b →
    Calls Try.prog 99 #[.slice (some ⟨g, 0, none⟩) n cap, .int .i64 (a : Int), .int .i64 (m : Int), .int .i64 (b : Int), .func (.func f) #[] #[]] w (fun e w' => MrgAns w w' base g cap n a b xs e) := by
  intro d
  induction d with
  | zero => intro a m b xs w hd _ _ h1 h2; omega
  | succ d ih =>
    intro a m b xs w hd hS hb ham hmb hs1 hs2
    by_cases h1 : m = a + 1
    · exact symOne_any f eg hf base g cap n a m b xs w hS hb ham hmb hn hs1 hs2 h1
    by_cases h2 : b = m + 1
    · exact symTwo_any f eg hf base g cap n a m b xs w hS hb ham hmb hn hs1 hs2 h1 h2
    have HIH := Lib.hid ih
    have HS := Lib.hid hS
    have HF := Lib.hid hf
    have HL := Lib.hid hS.len
    have HS1 := Lib.hid hs1
    have HS2 := Lib.hid hs2
    have gno1 : ((m : Int) - (a : Int) == 1) = false := by simp; omega
    have gno2 : ((b : Int) - (m : Int) == 1) = false := by simp; omega
    obtain ⟨mid, hmid⟩ : ∃ mid, (a + b) / 2 = mid := ⟨_, rfl⟩
    have imid : ((a : Int) + (b : Int)) / 2 = (mid : Int) := by omega
    obtain ⟨nn, hnn⟩ : ∃ nn, mid + m = nn := ⟨_, rfl⟩
    have inn : (mid : Int) + (m : Int) = (nn : Int) := by omega
    obtain ⟨pp, hpp⟩ : ∃ pp, nn - 1 = pp := ⟨_, rfl⟩
    have ipp : (nn : Int) - 1 = (pp : Int) := by omega
    have hmb2 : a < mid ∧ mid < b ∧ mid ≤ n := by omega
    have HMID := Lib.hid (show a < mid ∧ mid < b ∧ b - a ≤ d + 1 ∧ 2 * mid ≤ a + b ∧ a + b ≤ 2 * mid + 1 by omega)
    have HNN := Lib.hid (show mid + m = nn by omega)
    have HPP := Lib.hid (show pp + 1 = nn by omega)
    clear hS hf hs1 hs2 ih h1 h2 hmid hnn hpp
    go_enter Try.func99, Try.ntmps99
    go_upto_if 140 with fail
    go_cut [20, 21] from 138 to 146 (fun u v wx => ∃ S0 R0 : Nat, u = .int .i64 (S0 : Int) ∧ v = .int .i64 (R0 : Int) ∧ (a ≤ S0 ∧ S0 ≤ R0 ∧ R0 ≤ m ∧ R0 ≤ mid ∧ m + R0 ≤ nn ∧ nn ≤ b + S0 ∧ (S0 = a ∨ nn = b + S0) ∧ (R0 = m ∨ nn = m + R0)) ∧ wx = w)
    case first =>
      by_cases hmm : mid < m
      · obtain ⟨s0, hs0⟩ : ∃ s0, nn - b = s0 := ⟨_, rfl⟩
        have is0 : (nn : Int) - (b : Int) = (s0 : Int) := by have := HNN.out; have := HMID.out; omega
        have HS0 := Lib.hid (show a ≤ s0 ∧ s0 ≤ mid ∧ mid ≤ m ∧ mid ≤ mid ∧ m + mid ≤ nn ∧ nn ≤ b + s0 ∧ (s0 = a ∨ nn = b + s0) ∧ (mid = m ∨ nn = m + mid) by have := HNN.out; have := HMID.out; omega)
        clear hs0
        go_wp2_with fail
        go_meet
        case rel => exact ⟨s0, mid, rfl, rfl, HS0.out, rfl⟩
      · have HS0 := Lib.hid (show a ≤ a ∧ a ≤ m ∧ m ≤ m ∧ m ≤ mid ∧ m + m ≤ nn ∧ nn ≤ b + a ∧ (a = a ∨ nn = b + a) ∧ (m = m ∨ nn = m + m) by have := HNN.out; have := HMID.out; omega)
        go_wp2_with fail
        go_meet
        case rel =>
          have q := HS0.out
          exact ⟨a, m, rfl, rfl, ⟨q.1, q.2.1, q.2.2.1, q.2.2.2.1, q.2.2.2.2.1, q.2.2.2.2.2.1, Or.inl rfl, Or.inl rfl⟩, rfl⟩
    case rest =>
      obtain ⟨S0, R0, rfl, rfl, hs0, hwc⟩ := hcut
      have hwc := hwc.symm
      subst hwc
      have HS0 := Lib.hid hs0
      clear hs0
      have hs0r : S0 ≤ R0 := HS0.out.2.1
      have hr0n : R0 ≤ n := by have := HS0.out; omega
      go_wp2_with fail
      go_loopw [20, 21] (fun u v ws => ∃ i j : Nat, u = .int .i64 (i : Int) ∧ v = .int .i64 (j : Int) ∧ S0 ≤ i ∧ i ≤ j ∧ j ≤ R0 ∧ (∀ (c : Nat) (x y : Cl), S0 ≤ c → c < i → xs[c]? = some x → xs[nn - 1 - c]? = some y → keyC x ≤ keyC y) ∧ (∀ (c : Nat) (x y : Cl), j ≤ c → c < R0 → xs[c]? = some x → xs[nn - 1 - c]? = some y → keyC y < keyC x) ∧ StW ws base g n cap xs ∧ w.grownBy ws (some g)) (fun u v _ => (intOf v).toNat - (intOf u).toNat)
      case atStart => exact ⟨S0, R0, rfl, rfl, Nat.le_refl _, hs0r, Nat.le_refl _, fun p y z h1 h2 => by omega, fun p y z h1 h2 => by omega, HS.out, World.grownBy.refl w _⟩
      case round =>
        clear HS
        obtain ⟨i, j, rfl, rfl, hsi, hij, hjr, h1, h2, hst, hgr⟩ := hrel
        have H1 := Lib.hid h1
        have H2 := Lib.hid h2
        have HST := Lib.hid hst
        have HG := Lib.hid hgr
        clear h1 h2 hst hgr
        by_cases hlt : i < j
        · obtain ⟨h, hh⟩ : ∃ h, (i + j) / 2 = h := ⟨_, rfl⟩
          have hhi : i ≤ h := by omega
          have hhj : h < j := by omega
          have ih2 : ((i : Int) + (j : Int)) / 2 = (h : Int) := by omega
          obtain ⟨q, hq⟩ : ∃ q, nn - 1 - h = q := ⟨_, rfl⟩
          have hq1 : m ≤ q ∧ q < b ∧ q + h + 1 = nn ∧ a ≤ h ∧ h < m := by have := HS0.out; omega
          have HQ1 := Lib.hid hq1
          have hhn : h < n := by omega
          have hqn : q < n := by omega
          have ihn : (h : Int) < (n : Int) := by omega
          have ih0 : (0 : Int) ≤ (h : Int) := by omega
          have iqn : (q : Int) < (n : Int) := by omega
          have iq0 : (0 : Int) ≤ (q : Int) := by omega
          have iq : (pp : Int) - (h : Int) = (q : Int) := by have := HPP.out; omega
          have hwq : IntKind.i64.wrap (q : Int) = (q : Int) := by rw [IntKind.wrap_i64]; omega
          obtain ⟨x, hx⟩ : ∃ x, xs[h]? = some x := ⟨_, List.getElem?_eq_getElem (by have := HL.out; omega)⟩
          obtain ⟨y, hy⟩ : ∃ y, xs[q]? = some y := ⟨_, List.getElem?_eq_getElem (by have := HL.out; omega)⟩
          have HDN := Lib.hid (show keyC y < keyC x → ∀ (c : Nat) (u v : Cl), h ≤ c → c < R0 → xs[c]? = some u → xs[nn - 1 - c]? = some v → keyC v < keyC u from fun hl c u v k1 k2 hu hv => by
            have hs00 := HS0.out
            have e1 : keyC x ≤ keyC u := by
              by_cases e : c = h
              · subst e; rw [hx] at hu; obtain rfl := Option.some.inj hu; exact Int.le_refl _
              · exact HS1.out h c x u (by omega) (by omega) (by omega) hx hu
            have e2 : keyC v ≤ keyC y := by
              by_cases e : c = h
              · subst e; rw [hq, hy] at hv; obtain rfl := Option.some.inj hv; exact Int.le_refl _
              · exact HS2.out (nn - 1 - c) q v y (by omega) (by omega) (by omega) hv hy
            omega)
          have HUP := Lib.hid (show keyC x ≤ keyC y → ∀ (c : Nat) (u v : Cl), S0 ≤ c → c < h + 1 → xs[c]? = some u → xs[nn - 1 - c]? = some v → keyC u ≤ keyC v from fun hl c u v k1 k2 hu hv => by
            have hs00 := HS0.out
            have e1 : keyC u ≤ keyC x := by
              by_cases e : c = h
              · subst e; rw [hx] at hu; obtain rfl := Option.some.inj hu; exact Int.le_refl _
              · exact HS1.out c h u x (by omega) (by omega) (by omega) hu hx
            have e2 : keyC y ≤ keyC v := by
              by_cases e : c = h
              · subst e; rw [hq, hy] at hv; obtain rfl := Option.some.inj hv; exact Int.le_refl _
              · exact HS2.out q (nn - 1 - c) y v (by omega) (by omega) (by omega) hy hv
            omega)
          have HCALL := Lib.hid (HF.out y x)
          have HLC0 := Lib.hid (cmpC_lt y x)
          obtain ⟨x0, x1, x2, x3, fx0, fx1, fx2, fx3⟩ := HST.out.at_ hx
          obtain ⟨y0, y1, y2, y3, fy0, fy1, fy2, fy3⟩ := HST.out.at_ hy
          obtain ⟨⟨xa, xb⟩, xc, xd⟩ := x
          obtain ⟨⟨ya, yb⟩, yc, yd⟩ := y
          simp only at x0 x1 x2 x3 y0 y1 y2 y3 HCALL
          obtain ⟨cv, hcv⟩ : ∃ cv, cmpI (keyC ((ya, yb), yc, yd)) (keyC ((xa, xb), xc, xd)) = cv := ⟨_, rfl⟩
          rw [hcv] at HCALL HLC0
          clear hx hy hcv hh hq hq1
          go_wp2_with fail
          go_region_held3 (fun w' => w'.cell? ⟨g, q * 4, none⟩ = some (.int .i64 ya) ∧ w'.cell? ⟨g, q * 4 + 1, none⟩ = some (.int .i64 yb) ∧ w'.cell? ⟨g, q * 4 + 2, none⟩ = some (.int .i64 yc) ∧ w'.cell? ⟨g, q * 4 + 3, none⟩ = some (.int .i64 yd) ∧ w'.cell? ⟨g, h * 4, none⟩ = some (.int .i64 xa) ∧ w'.cell? ⟨g, h * 4 + 1, none⟩ = some (.int .i64 xb) ∧ w'.cell? ⟨g, h * 4 + 2, none⟩ = some (.int .i64 xc) ∧ w'.cell? ⟨g, h * 4 + 3, none⟩ = some (.int .i64 xd) ∧ Below wr.heap.size wr w')
            (first
              | exact ⟨y0, y1, y2, y3, x0, x1, x2, x3, Below.refl _ _⟩
              | exact ⟨y0, y1, y2, y3, x0, x1, x2, x3, (Below.refl _ _).drew⟩
              | exact ⟨cell_below hz1 y0, cell_below hz1 y1, cell_below hz1 y2, cell_below hz1 y3, cell_below hz1 x0, cell_below hz1 x1, cell_below hz1 x2, cell_below hz1 x3, hz1⟩
              | fail)
            (first
              | (go_at_fn f; refine (HCALL.out _).mono ?_; rintro e' w1 ⟨rfl, hb1⟩; have hz1 : Below wr.heap.size wr w1 := (by first | exact below_self (Below.refl _ _).drew hb1 | exact hb1))
              | fail)
          have HSW1 := Lib.hid (show StW w1 base g n cap xs from own_below HST.out hz1)
          have HG1 := Lib.hid (grown2 HG.out (show wr.grownBy w1 (some g) from ⟨hz1.os, hz1.tape, hz1.output, hz1.size, fun q hq _ => hz1.block q hq⟩))
          clear y0 fy0 y1 fy1 y2 fy2 y3 fy3 x0 fx0 x1 fx1 x2 fx2 x3 fx3 hz1 hb1
          by_cases hcv : cv < 0
          · have HE := Lib.hid (HDN.out (of_decide_eq_true (by rw [← HLC0.out]; exact decide_eq_true hcv)))
            have hce : decide (cv < 0) = true := decide_eq_true hcv
            simp only [hce, Bool.not_true]
            clear hce hcv
            go_wp2_with fail
            go_roundw
            case rel => exact ⟨i, h, rfl, rfl, hsi, by omega, by omega, H1.out, HE.out, HSW1.out, HG1.out⟩
            case measure => simp [intOf]; omega
          · have HE := Lib.hid (HUP.out (Int.not_lt.1 (of_decide_eq_false (by rw [← HLC0.out]; exact decide_eq_false hcv))))
            have hce : decide (cv < 0) = false := decide_eq_false hcv
            simp only [hce, Bool.not_false]
            clear hce hcv
            go_wp2_with fail
            go_roundw
            case rel => exact ⟨h + 1, j, by go_num, rfl, by omega, by omega, hjr, HE.out, H2.out, HSW1.out, HG1.out⟩
            case measure => simp [intOf]; omega
        · have hij2 : i = j := by omega
          have H2' := Lib.hid (show ∀ (c : Nat) (x y : Cl), i ≤ c → c < R0 → xs[c]? = some x → xs[nn - 1 - c]? = some y → keyC y < keyC x by rw [hij2]; exact H2.out)
          have hir : i ≤ R0 := by omega
          obtain ⟨e, he⟩ : ∃ e, nn - i = e := ⟨_, rfl⟩
          have ie : (nn : Int) - (i : Int) = (e : Int) := by have := HS0.out; omega
          have hse : a ≤ i ∧ i ≤ m ∧ m ≤ e ∧ e ≤ b ∧ i + e = mid + m ∧ i ≤ mid ∧ mid ≤ e := by have := HS0.out; have := HNN.out; omega
          have HALF := Lib.hid (merge_half hse.1 hse.2.1 hse.2.2.1 hse.2.2.2.1 (by have := HL.out; omega) hse.2.2.2.2.1 hse.2.2.2.2.2.1 hse.2.2.2.2.2.2 HS1.out HS2.out
            (fun p q x y k1 k2 k3 k4 hx hy => by
              have hs00 := HS0.out
              have hn0 := HNN.out
              by_cases c0 : i = S0
              · omega
              · obtain ⟨u, hu⟩ : ∃ u, xs[i - 1]? = some u := ⟨_, List.getElem?_eq_getElem (by have := HL.out; omega)⟩
                obtain ⟨v, hv⟩ : ∃ v, xs[nn - 1 - (i - 1)]? = some v := ⟨_, List.getElem?_eq_getElem (by have := HL.out; omega)⟩
                have e1 := H1.out (i - 1) u v (by omega) (by omega) hu hv
                have e2 : keyC x ≤ keyC u := by
                  by_cases c : p = i - 1
                  · subst c; rw [hu] at hx; obtain rfl := Option.some.inj hx; exact Int.le_refl _
                  · exact HS1.out p (i - 1) x u (by omega) (by omega) (by omega) hx hu
                have e3 : keyC v ≤ keyC y := by
                  by_cases c : q = nn - 1 - (i - 1)
                  · subst c; rw [hv] at hy; obtain rfl := Option.some.inj hy; exact Int.le_refl _
                  · exact HS2.out (nn - 1 - (i - 1)) q v y (by omega) (by omega) (by omega) hv hy
                omega)
            (fun p q x y k1 k2 k3 k4 hx hy => by
              have hs00 := HS0.out
              have hn0 := HNN.out
              by_cases c0 : i = R0
              · omega
              · obtain ⟨u, hu⟩ : ∃ u, xs[i]? = some u := ⟨_, List.getElem?_eq_getElem (by have := HL.out; omega)⟩
                obtain ⟨v, hv⟩ : ∃ v, xs[nn - 1 - i]? = some v := ⟨_, List.getElem?_eq_getElem (by have := HL.out; omega)⟩
                have e1 := H2'.out i u v (Nat.le_refl _) (by omega) hu hv
                have e2 : keyC u ≤ keyC x := by
                  by_cases c : p = i
                  · subst c; rw [hu] at hx; obtain rfl := Option.some.inj hx; exact Int.le_refl _
                  · exact HS1.out i p u x (by omega) (by omega) (by omega) hu hx
                have e3 : keyC y ≤ keyC v := by
                  by_cases c : q = nn - 1 - i
                  · subst c; rw [hv] at hy; obtain rfl := Option.some.inj hy; exact Int.le_refl _
                  · exact HS2.out q (nn - 1 - i) y v (by omega) (by omega) (by omega) hy hv
                omega))
          have HSE := Lib.hid hse
          have HROT := Lib.hid (fun W (h : StW W base g n cap xs) (k1 : i < m) (k2 : m < e) => rotate_any base g cap n i m e xs (.func (.func f) #[] #[]) W h k1 k2 (by omega) hn)
          have HRN := Lib.hid (fun (k : ¬ (i < m ∧ m < e)) => rot_none (xs := xs) hse.2.1 hse.2.2.1 (by have := HL.out; omega) k)
          obtain ⟨ys, hys⟩ : ∃ ys, rotL xs i m e = ys := ⟨_, rfl⟩
          rw [hys] at HALF HROT HRN
          have hyl : ys.length = n := by have := HALF.out.turned.len; have := HL.out; omega
          have HYL := Lib.hid hyl
          clear hij2 H1 H2 H2' hse he hys hyl
          go_upto_region 38 with fail
          go_cut [24] from 175 to 177 (fun u wx => u = .int .i64 (e : Int) ∧ wx = wr)
          case first =>
            go_wp2_with fail
            go_meet
            case rel => exact ⟨rfl, rfl⟩
          case rest =>
            obtain ⟨rfl, hwr⟩ := hcut
            have hwr := hwr.symm
            subst hwr
            go_step
            go_step
            go_cut [] from 178 to 191 (fun wx => StW wx base g n cap ys ∧ w.grownBy wx (some g))
            case first =>
              by_cases hro : i < m ∧ m < e
              · obtain ⟨k1, k2⟩ := hro
                go_wp2_with fail
                refine (HROT.out _ HST.out k1 k2).mono ?_
                rintro e' w1 ⟨rfl, hst1, hg1⟩
                have HST1 := Lib.hid hst1
                have HGG := Lib.hid (grown2 HG.out hg1)
                clear hst1 hg1
                go_wp2_with fail
                go_meet
                case rel => exact ⟨HST1.out, HGG.out⟩
              · have HST1 := Lib.hid (show StW wr base g n cap ys by rw [HRN.out hro]; exact HST.out)
                have hro2 : m ≤ i ∨ (i < m ∧ e ≤ m) := by omega
                clear hro
                rcases hro2 with k1 | ⟨k1, k2⟩
                · go_wp2_with fail
                  all_goals (try contradiction)
                  go_meet
                  case rel => exact ⟨HST1.out, HG.out⟩
                · go_wp2_with fail
                  all_goals (try contradiction)
                  go_meet
                  case rel => exact ⟨HST1.out, HG.out⟩
            case rest =>
              clear HST HG HROT HRN
              obtain ⟨hst1, hg1⟩ := hcut
              have HST1 := Lib.hid hst1
              have HG1 := Lib.hid hg1
              clear hst1 hg1
              go_step
              go_step
              go_cut [] from 192 to 205 (fun wx => ∃ zs, Turned ys zs a mid ∧ SrtP zs a mid ∧ StW wx base g n cap zs ∧ w.grownBy wx (some g))
              case first =>
                by_cases hre : a < i ∧ i < mid
                · obtain ⟨k1, k2⟩ := hre
                  have HCALL := Lib.hid (fun W (h : StW W base g n cap ys) => HIH.out a i mid ys W (by have := HSE.out; have := HMID.out; omega) h (by have := HSE.out; omega) k1 k2 HALF.out.s1 HALF.out.s2)
                  go_wp2_with fail
                  refine (HCALL.out _ HST1.out).mono ?_
                  rintro e' w2 ⟨rfl, zs, t1, q1, hst2, hg2⟩
                  have HT := Lib.hid t1
                  have HQ := Lib.hid q1
                  have HST2 := Lib.hid hst2
                  have HGG := Lib.hid (grown2 HG1.out hg2)
                  clear t1 q1 hst2 hg2
                  go_wp2_with fail
                  go_meet
                  case rel => exact ⟨zs, HT.out, HQ.out, HST2.out, HGG.out⟩
                · have HQ := Lib.hid (show SrtP ys a mid from HALF.out.s1.join HALF.out.s2 (by have := HSE.out; omega))
                  have hre2 : i ≤ a ∨ (a < i ∧ mid ≤ i) := by omega
                  clear hre
                  rcases hre2 with k1 | ⟨k1, k2⟩
                  · go_wp2_with fail
                    all_goals (try contradiction)
                    go_meet
                    case rel => exact ⟨ys, Turned.refl _ _ _, HQ.out, HST1.out, HG1.out⟩
                  · go_wp2_with fail
                    all_goals (try contradiction)
                    go_meet
                    case rel => exact ⟨ys, Turned.refl _ _ _, HQ.out, HST1.out, HG1.out⟩
              case rest =>
                clear HST1 HG1
                obtain ⟨zs, t1, q1, hst2, hg2⟩ := hcut
                have HT := Lib.hid t1
                have HQ := Lib.hid q1
                have HST2 := Lib.hid hst2
                have HG2 := Lib.hid hg2
                clear t1 q1 hst2 hg2
                have HZ3 := Lib.hid (HALF.out.s3.kept HT.out (.inr (Nat.le_refl _)))
                have HZ4 := Lib.hid (HALF.out.s4.kept HT.out (.inr HSE.out.2.2.2.2.2.2))
                have HEND := Lib.hid (fun ws t2 q2 => merge_end (ws := ws) HALF.out (by have := HSE.out; omega) (by have := HSE.out; omega) (by have := HL.out; omega) HT.out t2 HQ.out q2)
                by_cases hre : mid < e ∧ e < b
                · obtain ⟨k1, k2⟩ := hre
                  have HCALL := Lib.hid (fun W (h : StW W base g n cap zs) => HIH.out mid e b zs W (by have := HSE.out; have := HMID.out; omega) h hb k1 k2 HZ3.out HZ4.out)
                  go_wp2_with fail
                  refine (HCALL.out _ HST2.out).mono ?_
                  rintro e' w3 ⟨rfl, ws, t2, q2, hst3, hg3⟩
                  have HE := Lib.hid (HEND.out ws t2 q2)
                  have HST3 := Lib.hid hst3
                  have HGG := Lib.hid (grown2 HG2.out hg3)
                  clear t2 q2 hst3 hg3
                  go_wp2_with fail
                  exact bodyPost_end (v := .tuple #[]) (by simp [results, go_sem]) rfl ⟨rfl, ws, HE.out.1, HE.out.2, HST3.out, HGG.out⟩
                · have HE := Lib.hid (HEND.out zs (Turned.refl _ _ _) (HZ3.out.join HZ4.out (by have := HSE.out; omega)))
                  have hre2 : e ≤ mid ∨ (mid < e ∧ b ≤ e) := by omega
                  clear hre
                  rcases hre2 with k1 | ⟨k1, k2⟩
                  all_goals
                    go_wp2_with fail
                    exact bodyPost_end (v := .tuple #[]) (by simp [results, go_sem]) rfl ⟨rfl, zs, HE.out.1, HE.out.2, HST2.out, HG2.out⟩
end Go.Proofs.Ytmgoakfnmgngoaa
/- slices.stableCmpFunc at clusters, walked. -/
namespace Go.Proofs.Ytmgoakfnmgngoaa
open Go.RowKit

set_option maxRecDepth 100000 in
set_option maxHeartbeats 2000000 in
theorem stable_any (f : FuncId) (eg : ∀ args w, (callFunc f args).run Try.prog w = .ok (.enter f args) w) (hf : CmpC f) (base g cap n : Nat) (hn : n ≤ 100000000) (xs : List Cl) (w : World) (hS : StW w base g n cap xs) :
    Calls Try.prog 86 #[.slice (some ⟨g, 0, none⟩) n cap, .int .i64 (n : Int), .func (.func f) #[] #[]] w (fun e w' => e = .returned (.tuple #[]) ∧ ∃ ys, Same xs ys ∧ SortC ys ∧ StW w' base g n cap ys ∧ w.grownBy w' (some g)) := by
  have HS := Lib.hid hS
  have HINS := Lib.hid (fun a b ys W h1 h2 (h : StW W base g n cap ys) => insSort_any f eg hf base g cap n a b ys W h h1 h2 hn)
  have HSYM := Lib.hid (fun a m b ys W (h : StW W base g n cap ys) hb ham hmb s1 s2 => symAll_any f eg hf base g cap n hn (b - a) a m b ys W (Nat.le_refl _) h hb ham hmb s1 s2)
  clear hS hf
  go_enter Try.func86, Try.ntmps86
  go_wp2_with fail
  go_loopw [7, 8] (fun u v ws => ∃ (q a b : Nat) (ys : List Cl), u = .int .i64 (a : Int) ∧ v = .int .i64 (b : Int) ∧ (a = q * 20 ∧ b = a + 20) ∧ a ≤ n ∧ Fst 20 q ys ∧ Same xs ys ∧ StW ws base g n cap ys ∧ w.grownBy ws (some g)) (fun u _ _ => n - (intOf u).toNat)
  case atStart => exact ⟨0, 0, 20, xs, rfl, rfl, ⟨rfl, rfl⟩, Nat.zero_le _, Fst.zero _ _, Same.refl _, HS.out, World.grownBy.refl w _⟩
  case round =>
    clear HS
    obtain ⟨q, a, b, ys, rfl, rfl, hab, han, hfs, hsm, hst, hgr⟩ := hrel
    have HAB := Lib.hid hab
    have HFS := Lib.hid hfs
    have HSM := Lib.hid hsm
    have HST := Lib.hid hst
    have HG := Lib.hid hgr
    have hlt : a < b := by omega
    have hb2 : b ≤ n + 20 := by omega
    clear hab hfs hsm hst hgr
    by_cases hbn : b ≤ n
    · go_wp2_with fail
      refine (HINS.out a b ys _ hbn (Nat.le_of_lt hlt) HST.out).mono ?_
      rintro e' w1 ⟨rfl, zs, t1, q1, hst1, hg1⟩
      have HF1 := Lib.hid (show Fst 20 (q + 1) zs from by
        obtain ⟨e1, e2⟩ := HAB.out
        subst e1; subst e2
        exact HFS.out.step t1 q1)
      have HSM1 := Lib.hid (HSM.out.trans t1.same)
      have HST1 := Lib.hid hst1
      have HG1 := Lib.hid (grown2 HG.out hg1)
      clear t1 q1 hst1 hg1
      go_wp2_with fail
      go_roundw
      case rel => exact ⟨q + 1, b, b + 20, zs, rfl, by go_num, ⟨by have := HAB.out; omega, rfl⟩, hbn, HF1.out, HSM1.out, HST1.out, HG1.out⟩
      case measure => simp [intOf]; omega
    · go_wp2_with fail
      refine (HINS.out a n ys _ (Nat.le_refl _) han HST.out).mono ?_
      rintro e' w1 ⟨rfl, zs, t1, q1, hst1, hg1⟩
      have HF1 := Lib.hid (show Bls 20 zs from by
        have hl := HST.out.len
        obtain ⟨e1, e2⟩ := HAB.out
        subst e1; subst e2
        exact HFS.out.stop hl (by omega) t1 q1)
      have HSM1 := Lib.hid (HSM.out.trans t1.same)
      have HST1 := Lib.hid hst1
      have HG1 := Lib.hid (grown2 HG.out hg1)
      clear t1 q1 hst1 hg1 HAB HFS HSM HST HG hlt hb2 hbn han
      go_wp2_with fail
      go_loopw [6] (fun u ws => ∃ (k : Nat) (ys : List Cl), u = .int .i64 (k : Int) ∧ 20 ≤ k ∧ k ≤ 2 * n + 20 ∧ Bls k ys ∧ Same xs ys ∧ StW ws base g n cap ys ∧ w.grownBy ws (some g)) (fun u _ => 2 * n + 20 - (intOf u).toNat)
      case atStart => exact ⟨20, zs, rfl, Nat.le_refl _, by omega, HF1.out, HSM1.out, HST1.out, HG1.out⟩
      case round =>
        clear HF1 HSM1 HST1 HG1
        obtain ⟨k, ys1, rfl, hk, hk2, hbl, hsm, hst, hgr⟩ := hrel
        have HBL := Lib.hid hbl
        have HSM := Lib.hid hsm
        have HST := Lib.hid hst
        have HG := Lib.hid hgr
        clear hbl hsm hst hgr
        by_cases hkn : k < n
        · obtain ⟨K, hK⟩ : ∃ K, 2 * k = K := ⟨_, rfl⟩
          have ik : (2 : Int) * (k : Int) = (K : Int) := by omega
          have ik2 : (k : Int) * 2 = (K : Int) := by omega
          have HK := Lib.hid hK
          have hKb : K < 2 * n ∧ k < K := by omega
          clear hK
          go_wp2_with fail
          go_loopw [7, 8] (fun u v ws => ∃ (q a b : Nat) (ys : List Cl), u = .int .i64 (a : Int) ∧ v = .int .i64 (b : Int) ∧ (a = q * (2 * k) ∧ b = a + K) ∧ a ≤ n ∧ Mid k q ys ∧ Same xs ys ∧ StW ws base g n cap ys ∧ w.grownBy ws (some g)) (fun u _ _ => n - (intOf u).toNat)
          case atStart => exact ⟨0, 0, K, ys1, rfl, rfl, ⟨by omega, by omega⟩, Nat.zero_le _, Mid.zero HBL.out, HSM.out, HST.out, HG.out⟩
          case round =>
            clear HBL HSM HST HG
            obtain ⟨q, a, b, zs1, rfl, rfl, hab, han, hmd, hsm, hst, hgr⟩ := hrel
            have HAB := Lib.hid hab
            have HMD := Lib.hid hmd
            have HSM := Lib.hid hsm
            have HST := Lib.hid hst
            have HG := Lib.hid hgr
            obtain ⟨m, hm⟩ : ∃ m, a + k = m := ⟨_, rfl⟩
            have im : (a : Int) + (k : Int) = (m : Int) := by omega
            have HM := Lib.hid hm
            have hlt : a < m ∧ m < b := by omega
            have hb2 : b ≤ 3 * n ∧ m ≤ 2 * n := by omega
            clear hab hmd hsm hst hgr hm
            by_cases hbn : b ≤ n
            · obtain ⟨b2, hbb⟩ : ∃ b2, b + K = b2 := ⟨_, rfl⟩
              have ib : (b : Int) + (K : Int) = (b2 : Int) := by omega
              have hbb2 : b2 ≤ 5 * n := by omega
              have HBB := Lib.hid hbb
              clear hbb
              go_wp2_with fail
              refine (HSYM.out a m b zs1 _ HST.out hbn hlt.1 hlt.2 (by
                obtain ⟨e1, e2⟩ := HAB.out
                have e3 := HM.out
                subst e3; subst e1
                exact HMD.out.left) (by
                obtain ⟨e1, e2⟩ := HAB.out
                have e3 := HM.out
                have e4 := HK.out
                subst e3; subst e2; subst e4; subst e1
                exact HMD.out.right)).mono ?_
              rintro e' w1 ⟨rfl, vs, t1, q1, hst1, hg1⟩
              have HM1 := Lib.hid (show Mid k (q + 1) vs from by
                obtain ⟨e1, e2⟩ := HAB.out
                have e4 := HK.out
                subst e2; subst e4; subst e1
                exact HMD.out.step t1 q1)
              have HSM1 := Lib.hid (HSM.out.trans t1.same)
              have HST1 := Lib.hid hst1
              have HG1 := Lib.hid (grown2 HG.out hg1)
              clear t1 q1 hst1 hg1
              go_wp2_with fail
              go_roundw
              case rel => exact ⟨q + 1, b, b2, vs, rfl, rfl, ⟨by
                obtain ⟨e1, e2⟩ := HAB.out
                have e4 := HK.out
                rw [Nat.add_mul, Nat.one_mul, ← e1, e4]; exact e2, HBB.out.symm⟩, hbn, HM1.out, HSM1.out, HST1.out, HG1.out⟩
              case measure => simp [intOf]; omega
            · by_cases hmn : m < n
              · go_wp2_with fail
                refine (HSYM.out a m n zs1 _ HST.out (Nat.le_refl _) hlt.1 hmn (by
                  obtain ⟨e1, e2⟩ := HAB.out
                  have e3 := HM.out
                  subst e3; subst e1
                  exact HMD.out.left) (by
                  obtain ⟨e1, e2⟩ := HAB.out
                  have e3 := HM.out
                  have e4 := HK.out
                  subst e3; subst e2; subst e4; subst e1
                  exact HMD.out.right' (by omega))).mono ?_
                rintro e' w1 ⟨rfl, vs, t1, q1, hst1, hg1⟩
                have HB1 := Lib.hid (show Bls K vs from by
                  have hl := HST.out.len
                  obtain ⟨e1, e2⟩ := HAB.out
                  have e4 := HK.out
                  subst e2; subst e4; subst e1
                  exact HMD.out.stop hl (by omega) t1 q1)
                have HSM1 := Lib.hid (HSM.out.trans t1.same)
                have HST1 := Lib.hid hst1
                have HG1 := Lib.hid (grown2 HG.out hg1)
                clear t1 q1 hst1 hg1
                go_wp2_with fail
                go_roundw
                case rel => exact ⟨K, vs, rfl, by omega, by omega, HB1.out, HSM1.out, HST1.out, HG1.out⟩
                case measure => simp [intOf]; omega
              · have HB1 := Lib.hid (show Bls K zs1 from by
                  have hl := HST.out.len
                  obtain ⟨e1, e2⟩ := HAB.out
                  have e3 := HM.out
                  have e4 := HK.out
                  subst e2; subst e4; subst e1
                  exact HMD.out.stop0 hl (by omega))
                go_wp2_with fail
                go_roundw
                case rel => exact ⟨K, zs1, rfl, by omega, by omega, HB1.out, HSM.out, HST.out, HG.out⟩
                case measure => simp [intOf]; omega
        · have HE := Lib.hid (show SortC ys1 from HBL.out.done HST.out.len (by omega))
          go_wp2_with fail
          exact bodyPost_end (v := .tuple #[]) (by simp [results, go_sem]) rfl ⟨rfl, ys1, HSM.out, HE.out, HST.out, HG.out⟩
end Go.Proofs.Ytmgoakfnmgngoaa
/- cluster's Turn: the comparison, slices.SortStableFunc, and Turn itself, walked. -/
namespace Go.Proofs.Ytmgoakfnmgngoaa
open Go.RowKit

/-- A cluster told the other way. -/
def swapC (c : Cl) : Cl := (c.2, c.1)
set_option maxRecDepth 100000 in
theorem turnLit_any : CmpC 61 := by
  intro x y w
  obtain ⟨⟨x1, x2⟩, x3, x4⟩ := x
  obtain ⟨⟨y1, y2⟩, y3, y4⟩ := y
  unfold keyC
  have hb : Below w.heap.size w ((w.alloc (.cells #[.int .i64 x1, .int .i64 x2, .int .i64 x3, .int .i64 x4] 33)).alloc (.cells #[.int .i64 y1, .int .i64 y2, .int .i64 y3, .int .i64 y4] 33)) :=
    ((Below.refl _ _).alloc (Nat.le_refl _) _).alloc (by simp) _
  go_enter Try.func61, Try.ntmps61
  go_wp2_with (go_at_call 62; refine (cmpI_any _ _ _).mono ?_; rintro e w' ⟨rfl, rfl⟩)
  go_ret
  exact ⟨rfl, hb⟩
theorem turnLit_enters : ∀ args w, (callFunc 61 args).run Try.prog w = .ok (.enter 61 args) w := enters_of Try.func61 (by kernel_rfl) rfl
set_option maxRecDepth 100000 in
set_option maxHeartbeats 1000000 in
theorem sortStable_any (f : FuncId) (eg : ∀ args w, (callFunc f args).run Try.prog w = .ok (.enter f args) w) (hf : CmpC f) (base g cap n : Nat) (hn : n ≤ 100000000) (xs : List Cl) (w : World) (hS : StW w base g n cap xs) :
    Calls Try.prog 60 #[.slice (some ⟨g, 0, none⟩) n cap, .func (.func f) #[] #[]] w (fun e w' => e = .returned (.tuple #[]) ∧ ∃ ys, Same xs ys ∧ SortC ys ∧ StW w' base g n cap ys ∧ w.grownBy w' (some g)) := by
  have HS := Lib.hid (stable_any f eg hf base g cap n hn xs w hS)
  clear hS hf
  go_enter Try.func60, Try.ntmps60
  go_wp2_with fail
  refine HS.out.mono ?_
  rintro e w1 ⟨rfl, ys, h1, h2, h3, h4⟩
  go_wp2_with fail
  exact bodyPost_end (v := .tuple #[]) (by simp [results, go_sem]) rfl ⟨rfl, ys, h1, h2, h3, h4⟩
/-- What Turn answers. -/
def TurnAns (w w' : World) (n : Nat) (l : List Cl) (e : Ending) : Prop := ∃ v ys, e = .returned v ∧ w'.ownsRow w.heap.size 33 4 v n (cellsC ys) ∧ Same (l.map swapC) ys ∧ SortC ys ∧ Below w.heap.size w w'
set_option maxRecDepth 100000 in
set_option maxHeartbeats 1000000 in
theorem prTurn_any (A : Option Addr) (n c : Nat) (l : List Cl) (w : World) (hr : Rd w 4 A n (cellsC l)) (hn : n ≤ 1000000) :
    Calls Try.prog 22 #[.slice A n c] w fun e w' => TurnAns w w' n l e := by
  have hlen : l.length = n := by have := hr.1; rw [cellsC_len] at this; omega
  have HLN := Lib.hid (show (l.map swapC).length = n by rw [List.length_map]; exact hlen)
  have HL := Lib.hid hlen
  have HR := Lib.hid hr
  clear hlen hr
  have HSORT := Lib.hid (fun cap xs W (h : StW W w.heap.size w.heap.size n cap xs) => sortStable_any 61 turnLit_enters turnLit_any w.heap.size w.heap.size cap n (by omega) xs W h)
  go_enter Try.func22, Try.ntmps22
  go_wp2_with (at_make; refine wpList_mkZ rfl _ _ _ rfl Try.underlying22 clusInfo (z0 := .int .i64 0) (by decide) (by intro j hj; match j, hj with | 0, _ => rfl | 1, _ => rfl | 2, _ => rfl | 3, _ => rfl) (base := w.heap.size) (kl := .i64) (kc := .i64) n n n rfl rfl rfl rfl (by omega) (by unfold maxLen; omega) (Nat.le_refl _) ?_; intro w1 hown hg1)
  have hb1 := below_make (w := w) (w' := w1) hg1
  have HO := Lib.hid (show w1.ownsRow w.heap.size 33 4 (.slice (some ⟨w.heap.size, 0, none⟩) n n) n (fillC (l.map swapC) 0) by rw [fillC_start, HLN.out]; exact hown)
  clear hown hg1
  go_loopw [11] (fun i wr => ∃ k : Nat, k ≤ n ∧ i = .int .i64 (k : Int) ∧ wr.ownsRow w.heap.size 33 4 (.slice (some ⟨w.heap.size, 0, none⟩) n n) n (fillC (l.map swapC) k) ∧ Below w.heap.size w wr) (fun i _ => n - (intOf i).toNat)
  case atStart => exact ⟨0, Nat.zero_le _, rfl, HO.out, hb1⟩
  case round =>
    obtain ⟨k, hk, rfl, hown, hbr⟩ := hrel
    clear HO hb1
    by_cases hlt : k < n
    · obtain ⟨x, hx⟩ : ∃ x, l[k]? = some x := ⟨_, List.getElem?_eq_getElem (by rw [HL.out]; exact hlt)⟩
      obtain ⟨ad, rfl, hab, c0, c1, c2, c3⟩ := (HR.out.below hbr).clus hx
      have HF := Lib.hid (fillC_step (l := l.map swapC) (k := k) (s := swapC x) (by rw [List.getElem?_map, hx]; rfl))
      obtain ⟨⟨x1, x2⟩, x3, x4⟩ := x
      simp only [swapC] at c0 c1 c2 c3 HF
      clear hx
      have ha := hown.alloc (.cells #[.int .i64 x1, .int .i64 x2, .int .i64 x3, .int .i64 x4] 33)
      obtain ⟨⟨u0, y0⟩, z0⟩ := own_slot ha (j := k * 4) (by omega)
      obtain ⟨⟨u1, y1⟩, z1⟩ := own_slot ha (j := k * 4 + 1) (by omega)
      obtain ⟨⟨u2, y2⟩, z2⟩ := own_slot ha (j := k * 4 + 2) (by omega)
      obtain ⟨⟨u3, y3⟩, z3⟩ := own_slot ha (j := k * 4 + 3) (by omega)
      have HS := Lib.hid (own_store4 ha (k * 4) (.int .i64 x3) (.int .i64 x4) (.int .i64 x1) (.int .i64 x2))
      have hnw := cells_new wr [.int .i64 x1, .int .i64 x2, .int .i64 x3, .int .i64 x4] 33
      have d0 := hnw 0 _ rfl
      have d1 := hnw 1 _ rfl
      have d2 := hnw 2 _ rfl
      have d3 := hnw 3 _ rfl
      rw [addNew] at d0 d1 d2 d3
      have hbe := ((((hbr.alloc hbr.size (.cells #[.int .i64 x1, .int .i64 x2, .int .i64 x3, .int .i64 x4] 33)).setCell (p := ⟨w.heap.size, k * 4, none⟩) (Nat.le_refl _) (.int .i64 x3)).setCell (p := ⟨w.heap.size, k * 4 + 1, none⟩) (Nat.le_refl _) (.int .i64 x4)).setCell (p := ⟨w.heap.size, k * 4 + 2, none⟩) (Nat.le_refl _) (.int .i64 x1)).setCell (p := ⟨w.heap.size, k * 4 + 3, none⟩) (Nat.le_refl _) (.int .i64 x2)
      clear hown ha hnw
      go_wp2_with fail
      go_roundw
      case rel => exact ⟨k + 1, by omega, by go_num, by rw [← HF.out]; exact HS.out, hbe⟩
      case measure => simp [intOf]; omega
    · have hkn : k = n := by omega
      have HSW := Lib.hid (show StW wr w.heap.size w.heap.size n n (l.map swapC) by have h9 := fillC_end (l.map swapC); rw [HLN.out] at h9; rw [hkn, h9] at hown; exact hown)
      clear hkn hown
      go_wp2_with fail
      refine (HSORT.out n _ _ HSW.out).mono ?_
      rintro e w2 ⟨rfl, ys, h1, h2, h3, h4⟩
      have hb2 := hbr.grown h4 hbr.size (fun k h => by cases h; exact Nat.le_refl _)
      have H1 := Lib.hid h1
      have H2 := Lib.hid h2
      have H3 := Lib.hid h3
      clear h1 h2 h3 h4
      go_wp2_with fail
      go_ret
      exact ⟨_, ys, rfl, H3.out, H1.out, H2.out, hb2⟩
end Go.Proofs.Ytmgoakfnmgngoaa
/- The reference's Turn of clusters, walked. -/
namespace Go.Proofs.Ytmgoakfnmgngoaa
open Go.RowKit

theorem cellsC_oneC (l : List Cl) : ∀ u ∈ cellsC l, u.oneCell' = true := by
  intro u hu
  obtain ⟨s, _, hs⟩ := List.mem_flatMap.1 hu
  simp [encC] at hs
  rcases hs with rfl | rfl | rfl | rfl <;> rfl
theorem cellsC_cons (s : Cl) (l : List Cl) : cellsC (s :: l) = .int .i64 s.1.1 :: .int .i64 s.1.2 :: .int .i64 s.2.1 :: .int .i64 s.2.2 :: cellsC l := rfl
theorem cellsC_take (l : List Cl) (k : Nat) : (cellsC l).take (k * 4) = cellsC (l.take k) := by
  induction l generalizing k with
  | nil => simp [cellsC]
  | cons s l ih =>
    cases k with
    | zero => simp [cellsC]
    | succ k =>
      rw [cellsC_cons, show (k + 1) * 4 = k * 4 + 1 + 1 + 1 + 1 by omega, List.take_succ_cons, List.take_succ_cons, List.take_succ_cons, List.take_succ_cons, List.take_succ_cons, ih]
      rfl
theorem cellsC_drop (l : List Cl) (k : Nat) : (cellsC l).drop (k * 4) = cellsC (l.drop k) := by
  induction l generalizing k with
  | nil => simp [cellsC]
  | cons s l ih =>
    cases k with
    | zero => simp
    | succ k =>
      rw [cellsC_cons, show (k + 1) * 4 = k * 4 + 1 + 1 + 1 + 1 by omega, List.drop_succ_cons, List.drop_succ_cons, List.drop_succ_cons, List.drop_succ_cons, List.drop_succ_cons, ih]
/-- The first elements of a slice that reads as clusters; and the rest. -/
theorem Rd.takeC {w : World} {A : Option Addr} {n k : Nat} {l : List Cl} (hr : Rd w 4 A n (cellsC l)) (hk : k ≤ n) : Rd w 4 A k (cellsC (l.take k)) := by
  have hl : l.length = n := by have := hr.1; rw [cellsC_len] at this; omega
  refine ⟨by rw [cellsC_len, List.length_take]; omega, fun h0 => ?_⟩
  obtain ⟨ad, e, hb, hc⟩ := hr.2 (by omega)
  refine ⟨ad, e, hb, fun j u hj => hc j u ?_⟩
  rw [← cellsC_take, List.getElem?_take] at hj
  split at hj
  · exact hj
  · cases hj
theorem Rd.dropC {w : World} {A : Option Addr} {n k cap : Nat} {l : List Cl} (hr : Rd w 4 A n (cellsC l)) (hk : k ≤ n) (hc : n ≤ cap) : Rd w 4 (if cap = k then A else A.map (·.add (k * 4))) (n - k) (cellsC (l.drop k)) := by
  have := hr.cut hk hc
  rwa [cellsC_drop] at this
/-- Put in behind all that are not above it: sorted, and of each key in its order. -/
theorem ins_at {acc : List Cl} {s : Cl} {j : Nat} (hs : SortC acc) (h1 : ∀ t ∈ acc.take j, keyC t ≤ keyC s) (h2 : acc.length ≤ j ∨ ∃ t, acc[j]? = some t ∧ ¬ keyC t ≤ keyC s) : Same (acc ++ [s]) (acc.take j ++ s :: acc.drop j) ∧ SortC (acc.take j ++ s :: acc.drop j) := by
  have hsp : SortC (acc.take j ++ acc.drop j) := by rw [List.take_append_drop]; exact hs
  have hd : ∀ t ∈ acc.drop j, keyC s < keyC t := by
    rcases h2 with h | ⟨t, ht, hn⟩
    · rw [List.drop_eq_nil_of_le h]; simp
    · obtain ⟨hj, ht⟩ := List.getElem?_eq_some_iff.1 ht
      have hr := sort_right hsp
      rw [List.drop_eq_getElem_cons hj, ht] at hr ⊢
      unfold SortC at hr
      rw [List.pairwise_cons] at hr
      intro u hu
      rcases List.mem_cons.1 hu with rfl | hu
      · omega
      · have := hr.1 u hu; omega
  refine ⟨?_, ?_⟩
  · have := same_swap (A := acc.take j) (B := acc.drop j) (C := [s]) (D := []) (fun b hb c hc => by
      rw [List.mem_singleton] at hc; subst hc; exact hd b hb)
    rw [← List.append_assoc, List.take_append_drop] at this
    simpa using this
  · refine sort_app (sort_left hsp) ?_ ?_
    · unfold SortC
      rw [List.pairwise_cons]
      exact ⟨fun u hu => by have := hd u hu; omega, sort_right hsp⟩
    · intro x hx y hy
      rcases List.mem_cons.1 hy with rfl | hy
      · exact h1 x hx
      · exact sort_cross hsp x hx y hy
set_option maxRecDepth 100000 in
set_option maxHeartbeats 4000000 in
theorem refTurnC_any (A : Option Addr) (n c : Nat) (l : List Cl) (w : World) (hr : Rd w 4 A n (cellsC l)) (hn : n ≤ 1000000) :
    Calls Try.prog 23 #[.slice A n c] w fun e w' => TurnAns w w' n l e := by
  have hlen : l.length = n := by have := hr.1; rw [cellsC_len] at this; omega
  have HL := Lib.hid hlen
  have HR := Lib.hid hr
  clear hlen hr
  go_enter Try.func23, Try.ntmps23
  go_wp2
  go_loopw [3, 4] (fun v i wr => ∃ (k : Nat) (acc : List Cl), k ≤ n ∧ i = .int .i64 (k : Int) ∧ Same ((l.map swapC).take k) acc ∧ SortC acc ∧ wr.ownsRow w.heap.size 33 4 v k (cellsC acc) ∧ Below w.heap.size w wr) (fun _ i _ => n - (intOf i).toNat)
  case atStart => exact ⟨0, [], Nat.zero_le _, rfl, Same.refl _, List.Pairwise.nil, ⟨rfl, .inl ⟨rfl, rfl⟩⟩, Below.refl _ _⟩
  case round =>
    obtain ⟨k, acc, hk, rfl, hsm, hst, hv, hb⟩ := hrel
    have HSM := Lib.hid hsm
    have HST := Lib.hid hst
    clear hsm hst
    obtain ⟨V, cv, rfl, hcv⟩ := own_form hv
    by_cases hlt : k < n
    · obtain ⟨s, hsk⟩ : ∃ s, l[k]? = some s := ⟨_, List.getElem?_eq_getElem (by rw [HL.out]; exact hlt)⟩
      obtain ⟨ad, rfl, hab, c1, c2, c3, c4⟩ := (HR.out.below hb).clus hsk
      have HSS := Lib.hid (show (l.map swapC).take (k + 1) = (l.map swapC).take k ++ [swapC s] by rw [List.take_add_one, List.getElem?_map, hsk]; rfl)
      clear hsk
      have hcap : cv ≤ maxLen := by
        rcases hv.2 with ⟨e, _⟩ | ⟨g, cap, cur, e, _, _, _, hcm, _⟩
        · injection e with _ _ e; subst e; exact Nat.zero_le _
        · injection e with _ _ e; subst e; exact hcm
      unfold maxLen at hcap
      have hal : acc.length = k := by have := hv.1; rw [cellsC_len] at this; omega
      have HAL := Lib.hid hal
      clear hal
      obtain ⟨⟨x3, x4⟩, x1, x2⟩ := s
      simp only [swapC] at c1 c2 c3 c4 HSS
      have hz := below_new wr (.cells #[.int .i64 0, .int .i64 0, .int .i64 0, .int .i64 0] 33)
      have b1 := cell_below hz c1
      have b2 := cell_below hz c2
      have b3 := cell_below hz c3
      have b4 := cell_below hz c4
      have hnw := cells_new wr [.int .i64 0, .int .i64 0, .int .i64 0, .int .i64 0] 33
      have d0 := hnw 0 _ rfl
      have d1 := hnw 1 _ rfl
      have d2 := hnw 2 _ rfl
      have d3 := hnw 3 _ rfl
      rw [addNew] at d0 d1 d2 d3
      clear hnw
      go_upto_region 5 with fail
      go_cut [5] (fun u wx => u = .pointer (some ⟨wr.heap.size, 0, none⟩) ∧ (wx.cell? ⟨wr.heap.size, 0, none⟩ = some (.int .i64 x1) ∧ wx.cell? ⟨wr.heap.size, 1, none⟩ = some (.int .i64 x2) ∧ wx.cell? ⟨wr.heap.size, 2, none⟩ = some (.int .i64 x3) ∧ wx.cell? ⟨wr.heap.size, 3, none⟩ = some (.int .i64 x4)) ∧ Below wr.heap.size wr wx)
      case first =>
        have hn1 := cells_new wr [.int .i64 x1, .int .i64 x2, .int .i64 x3, .int .i64 x4] 33
        have f0 := hn1 0 _ rfl
        have f1 := hn1 1 _ rfl
        have f2 := hn1 2 _ rfl
        have f3 := hn1 3 _ rfl
        rw [addNew] at f0 f1 f2 f3
        have HFN := Lib.hid (And.intro (And.intro f0 (And.intro f1 (And.intro f2 f3))) (below_new wr (.cells #[.int .i64 x1, .int .i64 x2, .int .i64 x3, .int .i64 x4] 33)).drew)
        clear hn1 f0 f1 f2 f3
        go_region
        go_wp2_with fail
        go_meet
        case rel => exact ⟨rfl, HFN.out.1, HFN.out.2⟩
      case rest =>
        clear b1 b2 b3 b4 d0 d1 d2 d3 c1 c2 c3 c4 hz
        obtain ⟨rfl, ⟨c0, c1, c2, c3⟩, hbx⟩ := hcut
        have hv3 := own_below hv hbx
        have hb3 := hb.trans (hbx.mono hb.size)
        clear hv hb hbx
        have hv := hv3
        have hb := hb3
        clear hv3 hb3
        obtain ⟨gx, hgx⟩ : ∃ gx, wr.heap.size = gx := ⟨_, rfl⟩
        rw [hgx] at c0 c1 c2 c3 ⊢
        clear hgx
        have hrd := Rd.of_own hv
        clear hv
        go_wp2
        obtain ⟨wo, rfl⟩ : ∃ wo : World, wo = wc := ⟨_, rfl⟩
        go_loopw [6] (fun i wi => ∃ j q : Nat, j ≤ k ∧ i = .int .i64 j ∧ wi = wo.drewN q ∧ ∀ t ∈ acc.take j, keyC t ≤ x1) (fun i _ => k - (intOf i).toNat)
        case atStart => exact ⟨0, 0, Nat.zero_le _, rfl, rfl, by simp⟩
        case round =>
          obtain ⟨j, q, hj, rfl, rfl, hle⟩ := hrel
          have HLE := Lib.hid hle
          clear hle
          by_cases hgo : ∃ t, acc[j]? = some t ∧ keyC t ≤ x1
          · obtain ⟨t, htj, hpx⟩ := hgo
            have hjk : j < k := by have := (List.getElem?_eq_some_iff.1 htj).1; rw [HAL.out] at this; exact this
            obtain ⟨av, rfl, hav, d0, d1, d2, d3⟩ := hrd.clus htj
            have HT := Lib.hid htj
            clear htj
            obtain ⟨⟨p, r⟩, r3, r4⟩ := t
            simp only at d0 d1 d2 d3
            simp only [keyC] at hpx
            have HN := Lib.hid (show ∀ t ∈ acc.take (j + 1), keyC t ≤ x1 by
              intro t ht
              rw [List.take_add_one, HT.out] at ht
              simp at ht
              rcases ht with ht | rfl
              · exact HLE.out t ht
              · exact hpx)
            go_wp2
            go_quiet (fail)
            go_wp2
            go_roundw
            case rel => exact ⟨j + 1, _, by omega, by go_num, rfl, HN.out⟩
            case measure => simp [intOf]; omega
          · have HI := Lib.hid (ins_at (s := ((x1, x2), x3, x4)) (j := j) HST.out HLE.out (by
              by_cases hjk : j < k
              · obtain ⟨t, htj⟩ : ∃ t, acc[j]? = some t := ⟨_, List.getElem?_eq_getElem (by rw [HAL.out]; exact hjk)⟩
                exact .inr ⟨t, htj, fun h => hgo ⟨t, htj, h⟩⟩
              · exact .inl (by rw [HAL.out]; omega)))
            have HGO := Lib.hid hgo
            clear hgo
            by_cases hjk : j < k
            · obtain ⟨t, htj⟩ : ∃ t, acc[j]? = some t := ⟨_, List.getElem?_eq_getElem (by rw [HAL.out]; exact hjk)⟩
              obtain ⟨av, rfl, hav, d0, d1, d2, d3⟩ := hrd.clus htj
              obtain ⟨⟨p, r⟩, r3, r4⟩ := t
              have hnp : decide (p ≤ x1) = false := decide_eq_false (fun h => HGO.out ⟨_, htj, h⟩)
              simp only at d0 d1 d2 d3
              clear htj
              go_wp2
              go_quiet (fail)
              go_wp2
              have i0 : (0 : Int) ≤ (j : Int) := by omega
              have i1 : (j : Int) ≤ (k : Int) := by omega
              have i2 : (j : Int) ≤ (cv : Int) := by omega
              have i3 : (k : Int) ≤ (cv : Int) := by omega
              have hcjn : ¬ cv = j := by omega
              have hbq : Below wo.heap.size wo ((wo.drewN q).drewN nq) := below_drewN (drewBelow q) nq
              have e0 : ((wo.drewN q).drewN nq).cell? ⟨gx, 0, none⟩ = some (.int .i64 x1) := c0
              have e1 : ((wo.drewN q).drewN nq).cell? ⟨gx, 1, none⟩ = some (.int .i64 x2) := c1
              have e2 : ((wo.drewN q).drewN nq).cell? ⟨gx, 2, none⟩ = some (.int .i64 x3) := c2
              have e3 : ((wo.drewN q).drewN nq).cell? ⟨gx, 3, none⟩ = some (.int .i64 x4) := c3
              have hrq := hrd.below hbq
              have hbw : Below w.heap.size w ((wo.drewN q).drewN nq) := hb.trans (hbq.mono hb.size)
              generalize ((wo.drewN q).drewN nq) = wq at *
              have HT := Lib.hid (hrq.takeC (k := j) (by omega))
              have HD := Lib.hid (show ∀ w', Below wq.heap.size wq w' → Rd w' 4 (some (av.add (j * 4))) (k - j) (cellsC (acc.drop j)) from fun w' h => by
                have := hrq.dropC (k := j) (by omega) hcv
                rw [if_neg (by omega)] at this
                exact this.below h)
              have HKB := Lib.hid (show ∀ w', Below wq.heap.size wq w' → w'.cell? ⟨gx, 0, none⟩ = some (.int .i64 x1) ∧ w'.cell? ⟨gx, 1, none⟩ = some (.int .i64 x2) ∧ w'.cell? ⟨gx, 2, none⟩ = some (.int .i64 x3) ∧ w'.cell? ⟨gx, 3, none⟩ = some (.int .i64 x4) from
                fun w' h => ⟨cell_below h e0, cell_below h e1, cell_below h e2, cell_below h e3⟩)
              clear e0 e1 e2 e3 c0 c1 c2 c3 hrq hrd hbq
              go_region_held3 (fun w' => w'.cell? ⟨gx, 0, none⟩ = some (.int .i64 x1) ∧ w'.cell? ⟨gx, 1, none⟩ = some (.int .i64 x2) ∧ w'.cell? ⟨gx, 2, none⟩ = some (.int .i64 x3) ∧ w'.cell? ⟨gx, 3, none⟩ = some (.int .i64 x4))
                (first
                  | exact HKB.out _ (Below.refl _ _)
                  | exact HKB.out _ (Below.refl _ _).drew
                  | exact HKB.out _ (below_new wq (.cells #[.int .i64 x1, .int .i64 x2, .int .i64 x3, .int .i64 x4] 33)).drew
                  | exact HKB.out _ HB1
                  | exact HKB.out _ (HB1.alloc HB1.size (.cells #[.int .i64 x1, .int .i64 x2, .int .i64 x3, .int .i64 x4] 33))
                  | exact HKB.out _ HB2
                  | exact HKB.out _ HB3
                  | fail)
                (first
                  | (refine step_appR rfl _ _ _ rfl clusSlice (by decide) v2 (j + 1) _ rfl hown2 _ _ _ (cellsC (acc.drop j)) rfl (by first | exact HD.out _ HB2 | (rw [if_neg hcjn]; exact HD.out _ HB2)) (cellsC_oneC _) (by omega) (by unfold maxLen; omega) HB2.size _ rfl ?_; intro v3 w3 hown3 hgr3 hat3; have HB3 := HB2.grown hgr3 HB2.size (fun k h => (hown2.lt k h).1))
                  | (refine step_appR rfl _ _ _ rfl clusSlice (by decide) v1 j _ rfl hown1b _ 1 1 [.int .i64 x1, .int .i64 x2, .int .i64 x3, .int .i64 x4] rfl hn2.out (oneInt4 _ _ _ _ _) (by omega) (by unfold maxLen; omega) HB1b.size _ rfl ?_; intro v2 w2 hown2 hgr2 hat2; have HB2 := HB1b.grown hgr2 HB1b.size (fun k h => (hown1.lt k h).1))
                  | (refine step_appR rfl _ _ _ rfl clusSlice (by decide) (.slice none 0 0) 0 [] rfl (World.ownsRow_nil wq.drew wq.heap.size _ _) _ j _ (cellsC (acc.take j)) rfl (HT.out.below (Below.refl _ _).drew) (cellsC_oneC _) (by omega) (by unfold maxLen; omega) (Nat.le_refl _) _ rfl ?_; intro v1 w1 hown1 hgr1 hat1; simp only [Nat.zero_add, List.nil_append] at hown1; have HB1 : Below wq.heap.size wq w1 := (Below.refl _ _).drew.grown hgr1 (Nat.le_refl _) (fun k h => by cases h); have hown1b := hown1.alloc (.cells #[.int .i64 x1, .int .i64 x2, .int .i64 x3, .int .i64 x4] 33); have hn2 := Lib.hid (rd_blk (m := 1) (cs := [.int .i64 x1, .int .i64 x2, .int .i64 x3, .int .i64 x4]) 4 (heap_alloc_new w1 (.cells #[.int .i64 x1, .int .i64 x2, .int .i64 x3, .int .i64 x4] 33)) rfl); have HB1b := HB1.alloc HB1.size (.cells #[.int .i64 x1, .int .i64 x2, .int .i64 x3, .int .i64 x4] 33))
                  | (refine step_appR rfl _ _ _ rfl clusSlice (by decide) (.slice none 0 0) 0 [] rfl (World.ownsRow_nil (wq.alloc (.cells #[.int .i64 x1, .int .i64 x2, .int .i64 x3, .int .i64 x4] 33)).drew wq.heap.size _ _) _ j _ (cellsC (acc.take j)) rfl (HT.out.below (below_new wq (.cells #[.int .i64 x1, .int .i64 x2, .int .i64 x3, .int .i64 x4] 33)).drew) (cellsC_oneC _) (by omega) (by unfold maxLen; omega) (by simp) _ rfl ?_; intro v1 w1 hown1 hgr1 hat1; simp only [Nat.zero_add, List.nil_append] at hown1; have HB1 : Below wq.heap.size wq w1 := (below_new wq (.cells #[.int .i64 x1, .int .i64 x2, .int .i64 x3, .int .i64 x4] 33)).drew.grown hgr1 (by simp) (fun k h => by cases h); have hown1b := hown1; have hn2 := Lib.hid (rd_blk (m := 1) (cs := [.int .i64 x1, .int .i64 x2, .int .i64 x3, .int .i64 x4]) 4 (blk_grown (w := (wq.alloc (.cells #[.int .i64 x1, .int .i64 x2, .int .i64 x3, .int .i64 x4] 33)).drew) (heap_alloc_new wq (.cells #[.int .i64 x1, .int .i64 x2, .int .i64 x3, .int .i64 x4] 33)) hgr1 (by simp [Value.ownBlock])) rfl); have HB1b := HB1)
                  | fail)
              all_goals
                have hfin := Lib.hid (show w3.ownsRow w.heap.size 33 4 v3 (k + 1) (cellsC (acc.take j ++ ((x1, x2), x3, x4) :: acc.drop j)) by
                  rw [show cellsC (acc.take j ++ ((x1, x2), x3, x4) :: acc.drop j) = cellsC (acc.take j) ++ [.int .i64 x1, .int .i64 x2, .int .i64 x3, .int .i64 x4] ++ cellsC (acc.drop j) by simp [cellsC, encC]]
                  have := own_base hown3 hbw.size
                  rwa [show j + 1 + (k - j) = k + 1 by omega] at this)
                have hbf := hbw.trans (HB3.mono hbw.size)
                clear hat1 hat2 hat3
                go_wp2
                go_roundw
                case rel => exact ⟨k + 1, _, by omega, by go_num, by rw [HSS.out]; exact (HSM.out.app (Same.refl _)).trans HI.out.1, HI.out.2, hfin.out, hbf⟩
                case measure => simp [intOf]; omega
            · have hjd : decide ((j : Int) < k) = false := decide_eq_false (by omega)
              rcases V with _ | av <;> by_cases hcj : cv = j
              all_goals
                go_wp2
                go_quiet (fail)
                go_wp2
                have i0 : (0 : Int) ≤ (j : Int) := by omega
                have i1 : (j : Int) ≤ (k : Int) := by omega
                have i2 : (j : Int) ≤ (cv : Int) := by omega
                have i3 : (k : Int) ≤ (cv : Int) := by omega
                have hbq : Below wo.heap.size wo ((wo.drewN q).drewN nq) := below_drewN (drewBelow q) nq
                have e0 : ((wo.drewN q).drewN nq).cell? ⟨gx, 0, none⟩ = some (.int .i64 x1) := c0
                have e1 : ((wo.drewN q).drewN nq).cell? ⟨gx, 1, none⟩ = some (.int .i64 x2) := c1
                have e2 : ((wo.drewN q).drewN nq).cell? ⟨gx, 2, none⟩ = some (.int .i64 x3) := c2
                have e3 : ((wo.drewN q).drewN nq).cell? ⟨gx, 3, none⟩ = some (.int .i64 x4) := c3
                have hrq := hrd.below hbq
                have hbw : Below w.heap.size w ((wo.drewN q).drewN nq) := hb.trans (hbq.mono hb.size)
                generalize ((wo.drewN q).drewN nq) = wq at *
                have HT := Lib.hid (hrq.takeC (k := j) (by omega))
                have HD := Lib.hid (show ∀ w', Below wq.heap.size wq w' → ∀ A, Rd w' 4 A (k - j) (cellsC (acc.drop j)) from fun w' h A => by
                  rw [List.drop_eq_nil_of_le (by rw [HAL.out]; omega), show k - j = 0 by omega]
                  exact Rd.nil_)
                have HKB := Lib.hid (show ∀ w', Below wq.heap.size wq w' → w'.cell? ⟨gx, 0, none⟩ = some (.int .i64 x1) ∧ w'.cell? ⟨gx, 1, none⟩ = some (.int .i64 x2) ∧ w'.cell? ⟨gx, 2, none⟩ = some (.int .i64 x3) ∧ w'.cell? ⟨gx, 3, none⟩ = some (.int .i64 x4) from
                  fun w' h => ⟨cell_below h e0, cell_below h e1, cell_below h e2, cell_below h e3⟩)
                clear e0 e1 e2 e3 c0 c1 c2 c3 hrq hrd hbq
                go_region_held3 (fun w' => w'.cell? ⟨gx, 0, none⟩ = some (.int .i64 x1) ∧ w'.cell? ⟨gx, 1, none⟩ = some (.int .i64 x2) ∧ w'.cell? ⟨gx, 2, none⟩ = some (.int .i64 x3) ∧ w'.cell? ⟨gx, 3, none⟩ = some (.int .i64 x4))
                  (first
                    | exact HKB.out _ (Below.refl _ _)
                    | exact HKB.out _ (Below.refl _ _).drew
                    | exact HKB.out _ (below_new wq (.cells #[.int .i64 x1, .int .i64 x2, .int .i64 x3, .int .i64 x4] 33)).drew
                    | exact HKB.out _ HB1
                    | exact HKB.out _ (HB1.alloc HB1.size (.cells #[.int .i64 x1, .int .i64 x2, .int .i64 x3, .int .i64 x4] 33))
                    | exact HKB.out _ HB2
                    | exact HKB.out _ HB3
                    | fail)
                  (first
                    | (refine step_appR rfl _ _ _ rfl clusSlice (by decide) v2 (j + 1) _ rfl hown2 _ _ _ (cellsC (acc.drop j)) rfl (HD.out _ HB2 _) (cellsC_oneC _) (by omega) (by unfold maxLen; omega) HB2.size _ rfl ?_; intro v3 w3 hown3 hgr3 hat3; have HB3 := HB2.grown hgr3 HB2.size (fun k h => (hown2.lt k h).1))
                    | (refine step_appR rfl _ _ _ rfl clusSlice (by decide) v1 j _ rfl hown1b _ 1 1 [.int .i64 x1, .int .i64 x2, .int .i64 x3, .int .i64 x4] rfl hn2.out (oneInt4 _ _ _ _ _) (by omega) (by unfold maxLen; omega) HB1b.size _ rfl ?_; intro v2 w2 hown2 hgr2 hat2; have HB2 := HB1b.grown hgr2 HB1b.size (fun k h => (hown1.lt k h).1))
                    | (refine step_appR rfl _ _ _ rfl clusSlice (by decide) (.slice none 0 0) 0 [] rfl (World.ownsRow_nil wq.drew wq.heap.size _ _) _ j _ (cellsC (acc.take j)) rfl (HT.out.below (Below.refl _ _).drew) (cellsC_oneC _) (by omega) (by unfold maxLen; omega) (Nat.le_refl _) _ rfl ?_; intro v1 w1 hown1 hgr1 hat1; simp only [Nat.zero_add, List.nil_append] at hown1; have HB1 : Below wq.heap.size wq w1 := (Below.refl _ _).drew.grown hgr1 (Nat.le_refl _) (fun k h => by cases h); have hown1b := hown1.alloc (.cells #[.int .i64 x1, .int .i64 x2, .int .i64 x3, .int .i64 x4] 33); have hn2 := Lib.hid (rd_blk (m := 1) (cs := [.int .i64 x1, .int .i64 x2, .int .i64 x3, .int .i64 x4]) 4 (heap_alloc_new w1 (.cells #[.int .i64 x1, .int .i64 x2, .int .i64 x3, .int .i64 x4] 33)) rfl); have HB1b := HB1.alloc HB1.size (.cells #[.int .i64 x1, .int .i64 x2, .int .i64 x3, .int .i64 x4] 33))
                    | (refine step_appR rfl _ _ _ rfl clusSlice (by decide) (.slice none 0 0) 0 [] rfl (World.ownsRow_nil (wq.alloc (.cells #[.int .i64 x1, .int .i64 x2, .int .i64 x3, .int .i64 x4] 33)).drew wq.heap.size _ _) _ j _ (cellsC (acc.take j)) rfl (HT.out.below (below_new wq (.cells #[.int .i64 x1, .int .i64 x2, .int .i64 x3, .int .i64 x4] 33)).drew) (cellsC_oneC _) (by omega) (by unfold maxLen; omega) (by simp) _ rfl ?_; intro v1 w1 hown1 hgr1 hat1; simp only [Nat.zero_add, List.nil_append] at hown1; have HB1 : Below wq.heap.size wq w1 := (below_new wq (.cells #[.int .i64 x1, .int .i64 x2, .int .i64 x3, .int .i64 x4] 33)).drew.grown hgr1 (by simp) (fun k h => by cases h); have hown1b := hown1; have hn2 := Lib.hid (rd_blk (m := 1) (cs := [.int .i64 x1, .int .i64 x2, .int .i64 x3, .int .i64 x4]) 4 (blk_grown (w := (wq.alloc (.cells #[.int .i64 x1, .int .i64 x2, .int .i64 x3, .int .i64 x4] 33)).drew) (heap_alloc_new wq (.cells #[.int .i64 x1, .int .i64 x2, .int .i64 x3, .int .i64 x4] 33)) hgr1 (by simp [Value.ownBlock])) rfl); have HB1b := HB1)
                    | fail)
                all_goals
                  have hfin := Lib.hid (show w3.ownsRow w.heap.size 33 4 v3 (k + 1) (cellsC (acc.take j ++ ((x1, x2), x3, x4) :: acc.drop j)) by
                    rw [show cellsC (acc.take j ++ ((x1, x2), x3, x4) :: acc.drop j) = cellsC (acc.take j) ++ [.int .i64 x1, .int .i64 x2, .int .i64 x3, .int .i64 x4] ++ cellsC (acc.drop j) by simp [cellsC, encC]]
                    have := own_base hown3 hbw.size
                    rwa [show j + 1 + (k - j) = k + 1 by omega] at this)
                  have hbf := hbw.trans (HB3.mono hbw.size)
                  clear hat1 hat2 hat3
                  go_wp2
                  go_roundw
                  case rel => exact ⟨k + 1, _, by omega, by go_num, by rw [HSS.out]; exact (HSM.out.app (Same.refl _)).trans HI.out.1, HI.out.2, hfin.out, hbf⟩
                  case measure => simp [intOf]; omega
    · obtain rfl : k = n := by omega
      have HK := Lib.hid (show (l.map swapC).take k = l.map swapC by rw [List.take_of_length_le (by rw [List.length_map, HL.out]; omega)])
      rw [HK.out] at HSM
      go_wp2
      go_ret
      exact ⟨_, acc, rfl, hv, HSM.out, HST.out, hb⟩
end Go.Proofs.Ytmgoakfnmgngoaa
