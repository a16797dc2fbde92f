/- Texts of one claim, one behind the other. -/
import Derived.Deep.RegionHeld3
import Derived.Shelf.Abstract
import Derived.Test.YtmgoakfnmgngoaaMgSm2
/- slices.insertionSort at clusters, walked. -/
namespace Go.Proofs.Ytmgoakfnmgngoaa
open Go.RowKit

/-- What the comparison owes: it tells how two clusters' first numbers stand; it may lay blocks. -/
def CmpC (f : FuncId) : Prop := ∀ (x y : Cl) (w : World), Calls Try.prog f #[.agg #[.int .i64 x.1.1, .int .i64 x.1.2, .int .i64 x.2.1, .int .i64 x.2.2], .agg #[.int .i64 y.1.1, .int .i64 y.1.2, .int .i64 y.2.1, .int .i64 y.2.2]] w fun e w' => e = .returned (.int .i64 (cmpI (keyC x) (keyC y))) ∧ Below w.heap.size w w'
theorem cmpC_lt (x y : Cl) : decide (cmpI (keyC x) (keyC y) < 0) = decide (keyC x < keyC y) := by
  unfold cmpI
  split
  · rename_i h; simp [h]
  · rename_i h
    split <;> simp [h]
/-- Turned between a and b alone, and of each key in its order. -/
structure Turned (xs ys : List Cl) (a b : Nat) : Prop where
  len : ys.length = xs.length
  same : Same xs ys
  far : ∀ p, (p < a ∨ b ≤ p) → ys[p]? = xs[p]?
theorem Turned.refl (xs : List Cl) (a b : Nat) : Turned xs xs a b := ⟨rfl, Same.refl _, fun _ _ => rfl⟩
theorem Turned.trans {xs ys zs : List Cl} {a b : Nat} (h : Turned xs ys a b) (k : Turned ys zs a b) : Turned xs zs a b := ⟨k.len.trans h.len, h.same.trans k.same, fun p hp => (k.far p hp).trans (h.far p hp)⟩
theorem Turned.wide {xs ys : List Cl} {a b a' b' : Nat} (h : Turned xs ys a b) (h1 : a' ≤ a) (h2 : b ≤ b') : Turned xs ys a' b' := ⟨h.len, h.same, fun p hp => h.far p (by omega)⟩
/-- Sorted from a to i. -/
def SrtP (ys : List Cl) (a i : Nat) : Prop := ∀ (p q : Nat) (x y : Cl), a ≤ p → p < q → q < i → ys[p]? = some x → ys[q]? = some y → keyC x ≤ keyC y
theorem swap_adj : ∀ {ys : List Cl} {j : Nat} {x y : Cl}, ys[j]? = some x → ys[j + 1]? = some y → keyC y < keyC x → Same ys ((ys.set j y).set (j + 1) x)
  | [], j, x, y, h, _, _ => by simp at h
  | [_], j, x, y, h1, h2, _ => by simp at h2
  | a :: b :: ys, 0, x, y, h1, h2, hlt => by
    simp at h1 h2
    subst h1 h2
    have := same_swap (A := []) (B := [a]) (C := [b]) (D := ys) (fun b' hb c hc => by simp at hb hc; subst hb hc; exact hlt)
    simpa using this
  | a :: b :: ys, j + 1, x, y, h1, h2, hlt => by
    have h := swap_adj (ys := b :: ys) (j := j) (by simpa using h1) (by simpa using h2) hlt
    have := (Same.refl [a]).app h
    simpa using this
theorem set2_at {ys : List Cl} {p q : Nat} (hp : p < ys.length) (hq : q < ys.length) (x y : Cl) (k : Nat) : ((ys.set p x).set q y)[k]? = if k = q then some y else if k = p then some x else ys[k]? := by
  by_cases h1 : k = q
  · subst h1; rw [if_pos rfl, List.getElem?_set_self (by simpa using hq)]
  · rw [if_neg h1, List.getElem?_set_ne (fun e => h1 e.symm)]
    by_cases h2 : k = p
    · subst h2; rw [if_pos rfl, List.getElem?_set_self hp]
    · rw [if_neg h2, List.getElem?_set_ne (fun e => h2 e.symm)]
/-- While one element goes down: all but it is sorted, and it is less than what it has passed. -/
structure InP (ys : List Cl) (a i j : Nat) : Prop where
  rest : ∀ (p q : Nat) (x y : Cl), a ≤ p → p < q → q ≤ i → p ≠ j → q ≠ j → ys[p]? = some x → ys[q]? = some y → keyC x ≤ keyC y
  less : ∀ (q : Nat) (x y : Cl), j < q → q ≤ i → ys[j]? = some x → ys[q]? = some y → keyC x < keyC y
theorem InP.start {ys : List Cl} {a i : Nat} (h : SrtP ys a i) : InP ys a i i := ⟨fun p q x y h1 h2 h3 _ h5 hx hy => h p q x y h1 h2 (by omega) hx hy, fun q x y h1 h2 => by omega⟩
theorem InP.step {ys : List Cl} {a i j : Nat} (h : InP ys a i (j + 1)) (hj : j + 1 ≤ i) (ha : a ≤ j) (hi : i < ys.length) {x y : Cl} (hx : ys[j]? = some x) (hy : ys[j + 1]? = some y) (hlt : keyC y < keyC x) : InP ((ys.set (j + 1) x).set j y) a i j := by
  have get := fun k => set2_at (ys := ys) (p := j + 1) (q := j) (by omega) (by omega) x y k
  refine ⟨fun p q u v h1 h2 h3 h4 h5 hu hv => ?_, fun q u v h1 h2 hu hv => ?_⟩
  · rw [get, if_neg h4] at hu
    rw [get, if_neg h5] at hv
    by_cases e1 : p = j + 1
    · rw [if_pos e1] at hu
      rw [if_neg (by omega)] at hv
      obtain rfl := Option.some.inj hu
      exact h.rest j q x v ha (by omega) h3 (by omega) (by omega) hx hv
    · rw [if_neg e1] at hu
      by_cases e2 : q = j + 1
      · rw [if_pos e2] at hv
        obtain rfl := Option.some.inj hv
        exact h.rest p j u x h1 (by omega) (by omega) (by omega) (by omega) hu hx
      · rw [if_neg e2] at hv
        exact h.rest p q u v h1 h2 h3 e1 e2 hu hv
  · rw [get, if_pos rfl] at hu
    obtain rfl := Option.some.inj hu
    rw [get, if_neg (by omega)] at hv
    by_cases e2 : q = j + 1
    · rw [if_pos e2] at hv
      obtain rfl := Option.some.inj hv
      exact hlt
    · rw [if_neg e2] at hv
      exact h.less q y v (by omega) h2 hy hv
theorem InP.stop {ys : List Cl} {a i j : Nat} (h : InP ys a i j) (hs : j = a ∨ ∃ j' x y, j = j' + 1 ∧ ys[j']? = some x ∧ ys[j]? = some y ∧ keyC x ≤ keyC y) (ha : a ≤ j) : SrtP ys a (i + 1) := by
  intro p q u v h1 h2 h3 hu hv
  by_cases e1 : p = j
  · subst e1
    exact Int.le_of_lt (h.less q u v h2 (by omega) hu hv)
  · by_cases e2 : q = j
    · subst e2
      rcases hs with hs | ⟨j', x, y, e, hx, hy, hle⟩
      · omega
      · rw [hy] at hv
        obtain rfl := Option.some.inj hv
        by_cases e3 : p = j'
        · subst e3
          rw [hx] at hu
          obtain rfl := Option.some.inj hu
          exact hle
        · have := h.rest p j' u x h1 (by omega) (by omega) e1 (by omega) hu hx
          omega
    · exact h.rest p q u v h1 h2 (by omega) e1 e2 hu hv
theorem Turned.swap {xs ys : List Cl} {a b j : Nat} (h : Turned xs ys a b) (ha : a ≤ j) (hb : j + 1 < b) (hl : b ≤ ys.length) {x y : Cl} (hx : ys[j]? = some x) (hy : ys[j + 1]? = some y) (hlt : keyC y < keyC x) : Turned xs ((ys.set (j + 1) x).set j y) a b := by
  refine ⟨by simp [h.len], h.same.trans ?_, fun p hp => ?_⟩
  · rw [List.set_comm _ _ (by omega)]
    exact swap_adj hx hy hlt
  · rw [set2_at (by omega) (by omega), if_neg (by omega), if_neg (by omega)]
    exact h.far p hp
set_option maxRecDepth 100000 in
set_option maxHeartbeats 4000000 in
theorem insSort_any (f : FuncId) (eg : ∀ args w, (callFunc f args).run Try.prog w = .ok (.enter f args) w) (hf : CmpC f) (base g cap n a b : Nat) (xs : List Cl) (w : World) (hS : StW w base g n cap xs) (hb : b ≤ n) (hab : a ≤ b) (hn : n ≤ 100000000) :
    Calls Try.prog 98 #[.slice (some ⟨g, 0, none⟩) n cap, .int .i64 (a : Int), .int .i64 (b : Int), .func (.func f) #[] #[]] w fun e w' => e = .returned (.tuple #[]) ∧ ∃ ys, Turned xs ys a b ∧ SrtP ys a b ∧ StW w' base g n cap ys ∧ w.grownBy w' (some g) := by
  have HS := Lib.hid hS
  have HF := Lib.hid hf
  have hlen := hS.len
  have HL := Lib.hid hlen
  clear hS hf hlen
  go_enter Try.func98, Try.ntmps98
  go_wp2_with fail
  go_loopw [8] (fun x ws => ∃ (i : Nat) (ys : List Cl), x = .int .i64 (i : Int) ∧ a + 1 ≤ i ∧ i ≤ n + 1 ∧ Turned xs ys a b ∧ SrtP ys a i ∧ StW ws base g n cap ys ∧ w.grownBy ws (some g)) (fun x _ => n + 1 - (intOf x).toNat)
  case atStart => exact ⟨a + 1, xs, by go_num, by omega, by omega, Turned.refl _ _ _, fun p q x y h1 h2 h3 => by omega, HS.out, World.grownBy.refl w _⟩
  case round =>
    clear HS
    obtain ⟨i, ys, rfl, hai, hin, ht, hs, hst, hgr⟩ := hrel
    by_cases hib : i < b
    · have HST0 := Lib.hid hst
      have HT0 := Lib.hid ht
      have HI0 := Lib.hid (InP.start hs)
      have HG0 := Lib.hid hgr
      clear ht hs hst hgr
      go_wp2_with fail
      go_loopw [9] (fun x ws => ∃ (j : Nat) (zs : List Cl), x = .int .i64 (j : Int) ∧ a ≤ j ∧ j ≤ i ∧ Turned xs zs a b ∧ InP zs a i j ∧ StW ws base g n cap zs ∧ w.grownBy ws (some g)) (fun x _ => (intOf x).toNat)
      case atStart => exact ⟨i, ys, rfl, by omega, Nat.le_refl _, HT0.out, HI0.out, HST0.out, HG0.out⟩
      case round =>
        clear HST0 HT0 HI0 HG0
        obtain ⟨j, zs, rfl, haj, hji, ht, hp, hst, hgr⟩ := hrel
        have hzl := hst.len
        have HT := Lib.hid ht
        have HP := Lib.hid hp
        have HST := Lib.hid hst
        have HG := Lib.hid hgr
        by_cases hja : j = a
        · have g0 : decide (a < j) = false := decide_eq_false (by omega)
          have HE := Lib.hid (hp.stop (.inl hja) haj)
          have HGQ := Lib.hid (show ∀ Q, w.grownBy (wr.drewN Q) (some g) from fun Q => ⟨hgr.os, hgr.tape, hgr.output, hgr.size, hgr.block⟩)
          have HSQ := Lib.hid (show ∀ Q, StW (wr.drewN Q) base g n cap zs from fun Q => hst)
          clear ht hp hst hgr hja
          go_wp2_with fail
          go_quiet (fail)
          go_wp2_with fail
          go_roundw
          case rel => exact ⟨i + 1, zs, by go_num, by omega, by omega, HT.out, HE.out, HSQ.out _, HGQ.out _⟩
          case measure => simp [intOf]; omega
        · obtain ⟨k, hk⟩ : ∃ k, j = k + 1 := ⟨j - 1, by omega⟩
          obtain ⟨x, hx⟩ : ∃ x, zs[k]? = some x := ⟨_, List.getElem?_eq_getElem (by omega)⟩
          obtain ⟨y, hy⟩ : ∃ y, zs[j]? = some y := ⟨_, List.getElem?_eq_getElem (by omega)⟩
          have HSTEP := Lib.hid (show keyC y < keyC x → InP ((zs.set j x).set k y) a i k ∧ Turned xs ((zs.set j x).set k y) a b from fun hlt => by
            subst hk
            exact ⟨hp.step hji (by omega) (by omega) hx hy hlt, ht.swap (by omega) (by omega) (by omega) hx hy hlt⟩)
          have HSTOP := Lib.hid (show ¬ keyC y < keyC x → SrtP zs a (i + 1) from fun hlt => hp.stop (.inr ⟨k, x, y, hk, hx, hy, by omega⟩) haj)
          obtain ⟨x0, x1, x2, x3, fx0, fx1, fx2, fx3⟩ := hst.at_ hx
          obtain ⟨y0, y1, y2, y3, fy0, fy1, fy2, fy3⟩ := hst.at_ hy
          have g0 : decide (a < j) = true := decide_eq_true (by omega)
          have ij : (j : Int) - 1 = (k : Int) := by omega
          have hwk : IntKind.i64.wrap (k : Int) = (k : Int) := by rw [IntKind.wrap_i64]; omega
          have hjn : (j : Int) < (n : Int) := by omega
          have hkn : (k : Int) < (n : Int) := by omega
          have hj0 : (0 : Int) ≤ (j : Int) := by omega
          have hk0 : (0 : Int) ≤ (k : Int) := by omega
          have hkl : k < n := by omega
          have hjl : j < n := by omega
          have HCALL := Lib.hid (HF.out y x)
          have hlc := cmpC_lt y x
          have hak : a ≤ k := by omega
          have hki : k ≤ i := by omega
          have HJK := Lib.hid hk
          have HX := Lib.hid hx
          have HY := Lib.hid hy
          obtain ⟨⟨xa, xb⟩, xc, xd⟩ := x
          obtain ⟨⟨ya, yb⟩, yc, yd⟩ := y
          simp only at x0 x1 x2 x3 y0 y1 y2 y3 HCALL
          obtain ⟨cv, hcv⟩ : ∃ cv, cmpI (keyC ((ya, yb), yc, yd)) (keyC ((xa, xb), xc, xd)) = cv := ⟨_, rfl⟩
          rw [hcv] at HCALL hlc
          have HLC := Lib.hid hlc
          clear hx hy ht hp hst hgr hk hcv hlc hja
          go_wp2_with fail
          go_region_held3 (fun w' => w'.cell? ⟨g, j * 4, none⟩ = some (.int .i64 ya) ∧ w'.cell? ⟨g, j * 4 + 1, none⟩ = some (.int .i64 yb) ∧ w'.cell? ⟨g, j * 4 + 2, none⟩ = some (.int .i64 yc) ∧ w'.cell? ⟨g, j * 4 + 3, none⟩ = some (.int .i64 yd) ∧ w'.cell? ⟨g, k * 4, none⟩ = some (.int .i64 xa) ∧ w'.cell? ⟨g, k * 4 + 1, none⟩ = some (.int .i64 xb) ∧ w'.cell? ⟨g, k * 4 + 2, none⟩ = some (.int .i64 xc) ∧ w'.cell? ⟨g, k * 4 + 3, none⟩ = some (.int .i64 xd) ∧ Below wr.heap.size wr w')
            (first
              | exact ⟨y0, y1, y2, y3, x0, x1, x2, x3, Below.refl _ _⟩
              | exact ⟨y0, y1, y2, y3, x0, x1, x2, x3, (Below.refl _ _).drew⟩
              | exact ⟨cell_below hz1 y0, cell_below hz1 y1, cell_below hz1 y2, cell_below hz1 y3, cell_below hz1 x0, cell_below hz1 x1, cell_below hz1 x2, cell_below hz1 x3, hz1⟩
              | fail)
            (first
              | (go_at_fn f; refine (HCALL.out _).mono ?_; rintro e' w1 ⟨rfl, hb1⟩; have hz1 : Below wr.heap.size wr w1 := (by first | exact below_self (Below.refl _ _).drew hb1 | exact hb1))
              | fail)
          have HS1 := Lib.hid (show StW w1 base g n cap zs from own_below HST.out hz1)
          have HG1 := Lib.hid (grown2 HG.out (show wr.grownBy w1 (some g) from ⟨hz1.os, hz1.tape, hz1.output, hz1.size, fun q hq _ => hz1.block q hq⟩))
          clear x0 x1 x2 x3 fx0 fx1 fx2 fx3 y0 y1 y2 y3 fy0 fy1 fy2 fy3 hz1 hb1
          by_cases hcv : cv < 0
          · have HLT := Lib.hid (HSTEP.out (of_decide_eq_true (by rw [← HLC.out]; exact decide_eq_true hcv)))
            have hw := HS1.out.swap hjl hkl ((ya, yb), yc, yd) ((xa, xb), xc, xd)
            simp only [putC] at hw
            have HW := Lib.hid hw
            obtain ⟨x0, x1, x2, x3, fx0, fx1, fx2, fx3⟩ := HS1.out.at_ HX.out
            obtain ⟨y0, y1, y2, y3, fy0, fy1, fy2, fy3⟩ := HS1.out.at_ HY.out
            simp only at x0 x1 x2 x3 y0 y1 y2 y3
            have hlt : k < j := by have := HJK.out; omega
            clear hw
            go_wp2_with fail
            go_region
            clear x0 x1 x2 x3 fx0 fx1 fx2 fx3 y0 y1 y2 y3 fy0 fy1 fy2 fy3
            go_wp2_with fail
            go_roundw
            case rel => exact ⟨k, _, rfl, hak, hki, HLT.out.2, HLT.out.1, HW.out.1, grown2 HG1.out HW.out.2⟩
            case measure => simp [intOf]; omega
          · have HE := Lib.hid (HSTOP.out (Int.not_lt.1 (of_decide_eq_false (by rw [← HLC.out]; exact decide_eq_false hcv))))
            go_wp2_with fail
            go_roundw
            case rel => exact ⟨i + 1, zs, by go_num, by omega, by omega, HT.out, HE.out, HS1.out, HG1.out⟩
            case measure => simp [intOf]; omega
    · have HE := Lib.hid (show SrtP ys a b from fun p q x y h1 h2 h3 => hs p q x y h1 h2 (by omega))
      have H1 := Lib.hid ht
      have H2 := Lib.hid hst
      have H3 := Lib.hid hgr
      clear ht hs hst hgr
      go_wp2_with fail
      exact bodyPost_end (v := .tuple #[]) (by simp [results, go_sem]) rfl ⟨rfl, ys, H1.out, HE.out, H2.out, H3.out⟩
end Go.Proofs.Ytmgoakfnmgngoaa
/- slices.symMerge at clusters: mathematics of its three ways. No program in this text. -/
namespace Go.Proofs.Ytmgoakfnmgngoaa
open Go.RowKit

/-- The element at a has gone up to k. -/
def UpAt (xs : List Cl) (a k : Nat) (ys : List Cl) : Prop := ys.length = xs.length ∧ ∀ p, ys[p]? = if a ≤ p ∧ p < k then xs[p + 1]? else if p = k then xs[a]? else xs[p]?
theorem UpAt.start (xs : List Cl) (a : Nat) : UpAt xs a a xs := ⟨rfl, fun p => by
  by_cases h : p = a
  · rw [if_neg (by omega), if_pos h, h]
  · rw [if_neg (by omega), if_neg h]⟩
theorem UpAt.step {xs ys : List Cl} {a k : Nat} (h : UpAt xs a k ys) (ha : a ≤ k) (hk : k + 1 < xs.length) {x y : Cl} (hx : ys[k]? = some x) (hy : ys[k + 1]? = some y) : UpAt xs a (k + 1) ((ys.set k y).set (k + 1) x) := by
  have e1 := h.2 k
  rw [if_neg (by omega), if_pos rfl, hx] at e1
  have e2 := h.2 (k + 1)
  rw [if_neg (by omega), if_neg (by omega), hy] at e2
  refine ⟨by simp [h.1], fun p => ?_⟩
  rw [set2_at (by rw [h.1]; omega) (by rw [h.1]; omega)]
  by_cases h1 : p = k + 1
  · have c : ¬ (a ≤ p ∧ p < k + 1) := by omega
    rw [if_pos h1, if_neg c, if_pos h1]
    exact e1
  · rw [if_neg h1]
    by_cases h2 : p = k
    · have c : a ≤ p ∧ p < k + 1 := by omega
      rw [if_pos h2, if_pos c, h2]
      exact e2
    · rw [if_neg h2, h.2 p]
      by_cases h3 : a ≤ p ∧ p < k
      · have c : a ≤ p ∧ p < k + 1 := by omega
        rw [if_pos h3, if_pos c]
      · have c : ¬ (a ≤ p ∧ p < k + 1) := by omega
        rw [if_neg h3, if_neg h2, if_neg c, if_neg h1]
/-- One element goes into a sorted row behind it. -/
theorem up_sorted {xs ys : List Cl} {a b i : Nat} {e : Cl} (h : UpAt xs a (i - 1) ys) (hi : a + 1 ≤ i) (hib : i ≤ b) (hb : b ≤ xs.length) (he : xs[a]? = some e) (hs : SrtP xs (a + 1) b)
    (h1 : ∀ p x, a + 1 ≤ p → p < i → xs[p]? = some x → keyC x < keyC e) (h2 : ∀ p x, i ≤ p → p < b → xs[p]? = some x → keyC e ≤ keyC x) : SrtP ys a b := by
  intro p q u v hp hpq hq hu hv
  rw [h.2 p] at hu
  rw [h.2 q] at hv
  by_cases c1 : q < i - 1
  · have k1 : a ≤ p ∧ p < i - 1 := by omega
    have k2 : a ≤ q ∧ q < i - 1 := by omega
    rw [if_pos k1] at hu
    rw [if_pos k2] at hv
    exact hs (p + 1) (q + 1) u v (by omega) (by omega) (by omega) hu hv
  · have k2 : ¬ (a ≤ q ∧ q < i - 1) := by omega
    rw [if_neg k2] at hv
    by_cases c2 : q = i - 1
    · have k1 : a ≤ p ∧ p < i - 1 := by omega
      rw [if_pos c2, he] at hv
      rw [if_pos k1] at hu
      obtain rfl := Option.some.inj hv
      exact Int.le_of_lt (h1 (p + 1) u (by omega) (by omega) hu)
    · rw [if_neg c2] at hv
      by_cases c3 : p < i - 1
      · have k1 : a ≤ p ∧ p < i - 1 := by omega
        rw [if_pos k1] at hu
        exact hs (p + 1) q u v (by omega) (by omega) hq hu hv
      · have k1 : ¬ (a ≤ p ∧ p < i - 1) := by omega
        rw [if_neg k1] at hu
        by_cases c4 : p = i - 1
        · rw [if_pos c4, he] at hu
          obtain rfl := Option.some.inj hu
          exact h2 q v (by omega) hq hv
        · rw [if_neg c4] at hu
          exact hs p q u v (by omega) hpq hq hu hv
/-- The element at m has gone down to k. -/
def DnAt (xs : List Cl) (m k : Nat) (ys : List Cl) : Prop := ys.length = xs.length ∧ ∀ p, ys[p]? = if k < p ∧ p ≤ m then xs[p - 1]? else if p = k then xs[m]? else xs[p]?
theorem DnAt.start (xs : List Cl) (m : Nat) : DnAt xs m m xs := ⟨rfl, fun p => by
  by_cases h : p = m
  · rw [if_neg (by omega), if_pos h, h]
  · rw [if_neg (by omega), if_neg h]⟩
theorem DnAt.step {xs ys : List Cl} {m k : Nat} (h : DnAt xs m (k + 1) ys) (ha : k + 1 ≤ m) (hm : m < xs.length) {x y : Cl} (hx : ys[k]? = some x) (hy : ys[k + 1]? = some y) : DnAt xs m k ((ys.set (k + 1) x).set k y) := by
  have e1 := h.2 k
  rw [if_neg (by omega), if_neg (by omega), hx] at e1
  have e2 := h.2 (k + 1)
  rw [if_neg (by omega), if_pos rfl, hy] at e2
  refine ⟨by simp [h.1], fun p => ?_⟩
  rw [set2_at (by rw [h.1]; omega) (by rw [h.1]; omega)]
  by_cases h1 : p = k
  · have c : ¬ (k < p ∧ p ≤ m) := by omega
    rw [if_pos h1, if_neg c, if_pos h1]
    exact e2
  · rw [if_neg h1]
    by_cases h2 : p = k + 1
    · have c : k < p ∧ p ≤ m := by omega
      rw [if_pos h2, if_pos c, h2]
      exact e1
    · rw [if_neg h2, h.2 p]
      by_cases h3 : k + 1 < p ∧ p ≤ m
      · have c : k < p ∧ p ≤ m := by omega
        rw [if_pos h3, if_pos c]
      · have c : ¬ (k < p ∧ p ≤ m) := by omega
        rw [if_neg h3, if_neg h2, if_neg c, if_neg h1]
theorem dn_sorted {xs ys : List Cl} {a m i : Nat} {e : Cl} (h : DnAt xs m i ys) (hi : a ≤ i) (him : i ≤ m) (he : xs[m]? = some e) (hs : SrtP xs a m)
    (h1 : ∀ p x, a ≤ p → p < i → xs[p]? = some x → keyC x ≤ keyC e) (h2 : ∀ p x, i ≤ p → p < m → xs[p]? = some x → keyC e < keyC x) : SrtP ys a (m + 1) := by
  intro p q u v hp hpq hq hu hv
  rw [h.2 p] at hu
  rw [h.2 q] at hv
  by_cases c1 : i < p
  · have k1 : i < p ∧ p ≤ m := by omega
    have k2 : i < q ∧ q ≤ m := by omega
    rw [if_pos k1] at hu
    rw [if_pos k2] at hv
    exact hs (p - 1) (q - 1) u v (by omega) (by omega) (by omega) hu hv
  · have k1 : ¬ (i < p ∧ p ≤ m) := by omega
    rw [if_neg k1] at hu
    by_cases c2 : p = i
    · have k2 : i < q ∧ q ≤ m := by omega
      rw [if_pos c2, he] at hu
      rw [if_pos k2] at hv
      obtain rfl := Option.some.inj hu
      exact Int.le_of_lt (h2 (q - 1) v (by omega) (by omega) hv)
    · rw [if_neg c2] at hu
      by_cases c3 : i < q
      · have k2 : i < q ∧ q ≤ m := by omega
        rw [if_pos k2] at hv
        exact hs p (q - 1) u v hp (by omega) (by omega) hu hv
      · have k2 : ¬ (i < q ∧ q ≤ m) := by omega
        rw [if_neg k2] at hv
        by_cases c4 : q = i
        · rw [if_pos c4, he] at hv
          obtain rfl := Option.some.inj hv
          exact h1 p u hp (by omega) hu
        · rw [if_neg c4] at hv
          exact hs p q u v hp hpq (by omega) hu hv
/-- A rotation by elements. -/
theorem rot_at {xs : List Cl} {a m b : Nat} (h1 : a ≤ m) (h2 : m ≤ b) (h3 : b ≤ xs.length) (p : Nat) : (rotL xs a m b)[p]? = if p < a then xs[p]? else if p < a + (b - m) then xs[m + (p - a)]? else if p < b then xs[p - (b - m)]? else xs[p]? := by
  unfold rotL
  have la : (xs.take a).length = a := by rw [List.length_take]; omega
  have l1 : (seg xs m b).length = b - m := seg_len h3
  have l2 : (seg xs a m).length = m - a := seg_len (by omega)
  by_cases c1 : p < a
  · rw [if_pos c1, List.getElem?_append_left (by omega), List.getElem?_take, if_pos c1]
  · rw [if_neg c1, List.getElem?_append_right (by omega), la]
    by_cases c2 : p < a + (b - m)
    · rw [if_pos c2, List.getElem?_append_left (by omega), seg_at (by omega)]
    · rw [if_neg c2, List.getElem?_append_right (by omega), l1]
      by_cases c3 : p < b
      · rw [if_pos c3, List.getElem?_append_left (by omega), seg_at (by omega)]
        congr 1
        omega
      · rw [if_neg c3, List.getElem?_append_right (by omega), l2, List.getElem?_drop]
        congr 1
        omega
theorem seg_mem {xs : List Cl} {i j : Nat} {x : Cl} (h : x ∈ seg xs i j) : ∃ p, i ≤ p ∧ p < j ∧ xs[p]? = some x := by
  obtain ⟨k, hk⟩ := List.getElem?_of_mem h
  have hl := (List.getElem?_eq_some_iff.1 hk).1
  have hlt : i + k < j := by
    unfold seg at hl
    rw [List.length_drop, List.length_take] at hl
    omega
  rw [seg_at hlt] at hk
  exact ⟨i + k, by omega, hlt, hk⟩
theorem rot_turned {xs : List Cl} {a s m e b : Nat} (h1 : a ≤ s) (h2 : s ≤ m) (h3 : m ≤ e) (h4 : e ≤ b) (h5 : b ≤ xs.length) (hlt : ∀ p q x y, s ≤ p → p < m → m ≤ q → q < e → xs[p]? = some x → xs[q]? = some y → keyC y < keyC x) : Turned xs (rotL xs s m e) a b := by
  refine ⟨?_, ?_, fun p hp => ?_⟩
  · have := congrArg List.length (seg_four (xs := xs) h2 h3 (by omega))
    unfold rotL
    simp only [List.length_append] at this ⊢
    omega
  · have h := same_swap (A := xs.take s) (B := seg xs s m) (C := seg xs m e) (D := xs.drop e) (fun u hu v hv => by
      obtain ⟨p, p1, p2, p3⟩ := seg_mem hu
      obtain ⟨q, q1, q2, q3⟩ := seg_mem hv
      exact hlt p q u v p1 p2 q1 q2 p3 q3)
    rwa [← seg_four h2 h3 (by omega)] at h
  · rw [rot_at h2 h3 (by omega)]
    by_cases c1 : p < s
    · rw [if_pos c1]
    · rw [if_neg c1, if_neg (by omega), if_neg (by omega)]
/-- Turned rows have the same elements between. -/
theorem Turned.mem {xs ys : List Cl} {a b : Nat} (h : Turned xs ys a b) (hab : a ≤ b) (hb : b ≤ xs.length) {p : Nat} {x : Cl} (h1 : a ≤ p) (h2 : p < b) (hx : ys[p]? = some x) : ∃ q, a ≤ q ∧ q < b ∧ xs[q]? = some x := by
  have e1 := seg_four (xs := xs) (a := 0) (m := a) (b := b) (Nat.zero_le _) hab hb
  have hyl : b ≤ ys.length := by rw [h.len]; exact hb
  have e2 := seg_four (xs := ys) (a := 0) (m := a) (b := b) (Nat.zero_le _) hab hyl
  have f1 : seg ys 0 a = seg xs 0 a := by
    apply List.ext_getElem?
    intro k
    by_cases hk : 0 + k < a
    · rw [seg_at hk, seg_at hk]; exact h.far _ (by omega)
    · rw [List.getElem?_eq_none (by rw [seg_len (by omega)]; omega), List.getElem?_eq_none (by rw [seg_len (by omega)]; omega)]
  have f2 : ys.drop b = xs.drop b := by
    apply List.ext_getElem?
    intro k
    rw [List.getElem?_drop, List.getElem?_drop]
    exact h.far _ (by omega)
  have hs : Same (seg xs a b) (seg ys a b) := fun v => by
    have hv := h.same v
    rw [e1, e2, f1, f2] at hv
    simp only [List.take_zero, List.nil_append, ofKey_app] at hv
    exact List.append_cancel_right (List.append_cancel_left hv)
  have hm : x ∈ seg ys a b := by
    have := seg_at (l := ys) (i := a) (j := b) (k := p - a) (by omega)
    rw [show a + (p - a) = p by omega, hx] at this
    exact List.mem_of_getElem? this
  exact seg_mem ((hs.mem x).2 hm)
theorem rot_none {xs : List Cl} {s m e : Nat} (h1 : s ≤ m) (h2 : m ≤ e) (h3 : e ≤ xs.length) (h : ¬ (s < m ∧ m < e)) : rotL xs s m e = xs := by
  apply List.ext_getElem?
  intro p
  rw [rot_at h1 h2 h3]
  by_cases c1 : p < s
  · rw [if_pos c1]
  · rw [if_neg c1]
    by_cases c2 : p < s + (e - m)
    · rw [if_pos c2]; congr 1; omega
    · rw [if_neg c2]
      by_cases c3 : p < e
      · rw [if_pos c3]; congr 1; omega
      · rw [if_neg c3]
/-- What the rows are behind the rotation: four sorted rows, the first two not above the last two. -/
structure Half (xs ys : List Cl) (a s mid e b : Nat) : Prop where
  turned : Turned xs ys a b
  s1 : SrtP ys a s
  s2 : SrtP ys s mid
  s3 : SrtP ys mid e
  s4 : SrtP ys e b
  cross : ∀ (p q : Nat) (x y : Cl), a ≤ p → p < mid → mid ≤ q → q < b → ys[p]? = some x → ys[q]? = some y → keyC x ≤ keyC y
theorem merge_half {xs : List Cl} {a m b mid s e : Nat} (g1 : a ≤ s) (g2 : s ≤ m) (g3 : m ≤ e) (g4 : e ≤ b) (hb : b ≤ xs.length) (hse : s + e = mid + m) (hm1 : s ≤ mid) (hm2 : mid ≤ e) (hs1 : SrtP xs a m) (hs2 : SrtP xs m b)
    (F1 : ∀ (p q : Nat) (x y : Cl), a ≤ p → p < s → e ≤ q → q < b → xs[p]? = some x → xs[q]? = some y → keyC x ≤ keyC y)
    (F2 : ∀ (p q : Nat) (x y : Cl), s ≤ p → p < m → m ≤ q → q < e → xs[p]? = some x → xs[q]? = some y → keyC y < keyC x) : Half xs (rotL xs s m e) a s mid e b := by
  have get := fun p => rot_at (xs := xs) g2 g3 (by omega : e ≤ xs.length) p
  have z1 : ∀ p, p < s → (rotL xs s m e)[p]? = xs[p]? := fun p h => by rw [get, if_pos h]
  have z2 : ∀ p, s ≤ p → p < mid → (rotL xs s m e)[p]? = xs[m + (p - s)]? := fun p h h' => by
    have c1 : ¬ p < s := by omega
    have c2 : p < s + (e - m) := by omega
    rw [get, if_neg c1, if_pos c2]
  have z3 : ∀ p, mid ≤ p → p < e → (rotL xs s m e)[p]? = xs[p - (e - m)]? := fun p h h' => by
    have c1 : ¬ p < s := by omega
    have c2 : ¬ p < s + (e - m) := by omega
    rw [get, if_neg c1, if_neg c2, if_pos h']
  have z4 : ∀ p, e ≤ p → (rotL xs s m e)[p]? = xs[p]? := fun p h => by
    have c1 : ¬ p < s := by omega
    have c2 : ¬ p < s + (e - m) := by omega
    have c3 : ¬ p < e := by omega
    rw [get, if_neg c1, if_neg c2, if_neg c3]
  refine ⟨rot_turned g1 g2 g3 g4 hb F2, fun p q x y h1 h2 h3 hx hy => ?_, fun p q x y h1 h2 h3 hx hy => ?_, fun p q x y h1 h2 h3 hx hy => ?_, fun p q x y h1 h2 h3 hx hy => ?_, fun p q x y h1 h2 h3 h4 hx hy => ?_⟩
  · rw [z1 p (by omega)] at hx
    rw [z1 q h3] at hy
    exact hs1 p q x y h1 h2 (by omega) hx hy
  · rw [z2 p h1 (by omega)] at hx
    rw [z2 q (by omega) h3] at hy
    exact hs2 _ _ x y (by omega) (by omega) (by omega) hx hy
  · rw [z3 p h1 (by omega)] at hx
    rw [z3 q (by omega) h3] at hy
    exact hs1 _ _ x y (by omega) (by omega) (by omega) hx hy
  · rw [z4 p h1] at hx
    rw [z4 q (by omega)] at hy
    exact hs2 p q x y (by omega) h2 h3 hx hy
  · by_cases c1 : p < s
    · rw [z1 p c1] at hx
      by_cases c2 : q < e
      · rw [z3 q h3 c2] at hy
        exact hs1 _ _ x y h1 (by omega) (by omega) hx hy
      · rw [z4 q (by omega)] at hy
        exact F1 p q x y h1 c1 (by omega) h4 hx hy
    · rw [z2 p (by omega) h2] at hx
      by_cases c2 : q < e
      · rw [z3 q h3 c2] at hy
        exact Int.le_of_lt (F2 _ _ y x (by omega) (by omega) (by omega) (by omega) hy hx)
      · rw [z4 q (by omega)] at hy
        exact hs2 _ _ x y (by omega) (by omega) h4 hx hy
theorem SrtP.join {ys : List Cl} {a s b : Nat} (h1 : SrtP ys a s) (h2 : SrtP ys s b) (h : s ≤ a ∨ b ≤ s) : SrtP ys a b := fun p q x y k1 k2 k3 hx hy => by
  rcases h with h | h
  · exact h2 p q x y (by omega) k2 k3 hx hy
  · exact h1 p q x y k1 k2 (by omega) hx hy
theorem SrtP.kept {ys zs : List Cl} {a b c d : Nat} (h : SrtP ys a b) (k : Turned ys zs c d) (hf : b ≤ c ∨ d ≤ a) : SrtP zs a b := fun p q x y k1 k2 k3 hx hy => by
  rw [k.far p (by omega)] at hx
  rw [k.far q (by omega)] at hy
  exact h p q x y k1 k2 k3 hx hy
/-- Both halves sorted, all is. -/
theorem merge_end {xs ys zs ws : List Cl} {a s mid e b : Nat} (h : Half xs ys a s mid e b) (h1 : a ≤ mid) (h2 : mid ≤ b) (hb : b ≤ xs.length) (t1 : Turned ys zs a mid) (t2 : Turned zs ws mid b) (q1 : SrtP zs a mid) (q2 : SrtP ws mid b) : Turned xs ws a b ∧ SrtP ws a b := by
  have hyl : ys.length = xs.length := h.turned.len
  have hzl : zs.length = xs.length := t1.len.trans hyl
  refine ⟨h.turned.trans ((t1.wide (Nat.le_refl _) h2).trans (t2.wide h1 (Nat.le_refl _))), fun p q x y k1 k2 k3 hx hy => ?_⟩
  by_cases c1 : q < mid
  · rw [t2.far p (by omega)] at hx
    rw [t2.far q (by omega)] at hy
    exact q1 p q x y k1 k2 c1 hx hy
  · by_cases c2 : mid ≤ p
    · exact q2 p q x y c2 k2 k3 hx hy
    · rw [t2.far p (by omega)] at hx
      obtain ⟨p', a1, a2, a3⟩ := t1.mem h1 (by omega) k1 (by omega) hx
      obtain ⟨q', b1, b2, b3⟩ := t2.mem h2 (by omega) (by omega) k3 hy
      rw [t1.far q' (by omega)] at b3
      exact h.cross p' q' x y a1 a2 b1 b2 a3 b3
end Go.Proofs.Ytmgoakfnmgngoaa
/- The blocks of a stable sort: each sorted, each pair merged, all sorted. No program in this text. -/
namespace Go.Proofs.Ytmgoakfnmgngoaa

theorem SrtP.more {ys : List Cl} {a i j : Nat} (h : SrtP ys a i) (hi : ys.length ≤ i ∨ j ≤ i) : SrtP ys a j := fun p q x y h1 h2 h3 hx hy => by
  have hq : q < ys.length := by
    rcases Nat.lt_or_ge q ys.length with e | e
    · exact e
    · rw [List.getElem?_eq_none e] at hy; cases hy
  exact h p q x y h1 h2 (by omega) hx hy
theorem SrtP.from_ {ys : List Cl} {a i : Nat} (h : ys.length ≤ a) : SrtP ys a i := fun p q x y h1 h2 h3 hx hy => by
  rw [List.getElem?_eq_none (by omega)] at hx; cases hx
/-- The first q blocks of k are sorted. -/
def Fst (k q : Nat) (ys : List Cl) : Prop := ∀ r, r < q → SrtP ys (r * k) (r * k + k)
/-- From block q on each is sorted. -/
def Lst (k q : Nat) (ys : List Cl) : Prop := ∀ r, q ≤ r → SrtP ys (r * k) (r * k + k)
/-- All blocks of k are sorted. -/
def Bls (k : Nat) (ys : List Cl) : Prop := ∀ r, SrtP ys (r * k) (r * k + k)
theorem Fst.zero (k : Nat) (ys : List Cl) : Fst k 0 ys := fun r h => by omega
theorem Fst.step {k q : Nat} {xs ys : List Cl} (h : Fst k q xs) (t : Turned xs ys (q * k) (q * k + k)) (s : SrtP ys (q * k) (q * k + k)) : Fst k (q + 1) ys := fun r hr => by
  by_cases e : r = q
  · subst e; exact s
  · refine (h r (by omega)).kept t (.inl ?_)
    have := Nat.mul_le_mul_right k (show r + 1 ≤ q by omega)
    rw [Nat.add_mul] at this
    omega
theorem Fst.stop {k q n : Nat} {xs ys : List Cl} (h : Fst k q xs) (hl : xs.length = n) (hb : n ≤ q * k + k) (t : Turned xs ys (q * k) n) (s : SrtP ys (q * k) n) : Bls k ys := fun r => by
  have hyl := t.len
  rcases Nat.lt_trichotomy r q with e | e | e
  · refine (h r e).kept t (.inl ?_)
    have := Nat.mul_le_mul_right k (show r + 1 ≤ q by omega)
    rw [Nat.add_mul] at this
    omega
  · subst e; exact s.more (.inl (by omega))
  · refine SrtP.from_ ?_
    have := Nat.mul_le_mul_right k (show q + 1 ≤ r by omega)
    rw [Nat.add_mul] at this
    omega
/-- While pairs are merged: the first q pairs are sorted, and each block behind them. -/
structure Mid (k q : Nat) (ys : List Cl) : Prop where
  fst : Fst (2 * k) q ys
  lst : Lst k (2 * q) ys
theorem Mid.zero {k : Nat} {ys : List Cl} (h : Bls k ys) : Mid k 0 ys := ⟨Fst.zero _ _, fun r _ => h r⟩
theorem two_mul_mul (q k : Nat) : 2 * q * k = q * (2 * k) := by rw [Nat.mul_comm 2 q, Nat.mul_assoc]
theorem Mid.left {k q : Nat} {ys : List Cl} (h : Mid k q ys) : SrtP ys (q * (2 * k)) (q * (2 * k) + k) := by
  have := h.lst (2 * q) (Nat.le_refl _)
  rwa [two_mul_mul] at this
theorem Mid.right {k q : Nat} {ys : List Cl} (h : Mid k q ys) : SrtP ys (q * (2 * k) + k) (q * (2 * k) + 2 * k) := by
  have := h.lst (2 * q + 1) (by omega)
  rw [Nat.add_mul, two_mul_mul, Nat.one_mul] at this
  exact this.more (.inr (by omega))
theorem Mid.step {k q : Nat} {xs ys : List Cl} (h : Mid k q xs) (t : Turned xs ys (q * (2 * k)) (q * (2 * k) + 2 * k)) (s : SrtP ys (q * (2 * k)) (q * (2 * k) + 2 * k)) : Mid k (q + 1) ys := ⟨h.fst.step t s, fun r hr => by
  refine (h.lst r (by omega)).kept t (.inr ?_)
  have := Nat.mul_le_mul_right k (show 2 * q + 2 ≤ r by omega)
  rw [Nat.add_mul, two_mul_mul] at this
  omega⟩
theorem Mid.stop {k q n : Nat} {xs ys : List Cl} (h : Mid k q xs) (hl : xs.length = n) (hb : n ≤ q * (2 * k) + 2 * k) (t : Turned xs ys (q * (2 * k)) n) (s : SrtP ys (q * (2 * k)) n) : Bls (2 * k) ys := h.fst.stop hl hb t s
theorem Mid.stop0 {k q n : Nat} {xs : List Cl} (h : Mid k q xs) (hl : xs.length = n) (hb : n ≤ q * (2 * k) + k) : Bls (2 * k) xs :=
  h.fst.stop hl (by omega) (Turned.refl _ _ _) (h.left.more (.inr hb))
theorem Mid.right' {k q n : Nat} {xs : List Cl} (h : Mid k q xs) (hb : n ≤ q * (2 * k) + 2 * k) : SrtP xs (q * (2 * k) + k) n := h.right.more (.inr hb)
theorem Bls.done {k n : Nat} {xs : List Cl} (h : Bls k xs) (hl : xs.length = n) (hk : n ≤ k) : SortC xs := by
  have := h 0
  rw [Nat.zero_mul, Nat.zero_add] at this
  unfold SortC
  rw [List.pairwise_iff_getElem]
  intro p q hp hq hpq
  exact this p q _ _ (Nat.zero_le _) hpq (by omega) (List.getElem?_eq_getElem hp) (List.getElem?_eq_getElem hq)
end Go.Proofs.Ytmgoakfnmgngoaa
