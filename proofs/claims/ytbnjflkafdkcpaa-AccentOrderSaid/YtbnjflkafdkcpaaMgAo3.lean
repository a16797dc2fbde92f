/- Texts of one claim, one behind the other. -/
import Derived.BigQuiet
import Derived.Test.YtbnjflkafdkcpaaMgAo1
import Derived.Test.YtbnjflkafdkcpaaMgAo2
/- The reference's falls, walked: whether a group stands from a place on, falling. -/
namespace Go.Proofs.Ytbnjflkafdkcpaa
open Go.RowKit

set_option maxRecDepth 100000 in
set_option maxHeartbeats 1500000 in
theorem raFalls_any (A : Option Addr) (n c i a b : Nat) (o : List Int) (w : World) (hr : Rd w 1 A n (o.map (Value.int .i64))) (hn : n ≤ 100000) (hi : i ≤ 100000) (hab : a < b) (hb : b ≤ 100000) :
    Calls Try.prog 30 #[.slice A n c, .int .i64 (i : Int), .agg #[.int .i64 (a : Int), .int .i64 (b : Int)]] w fun e w' => e = .returned (.bool (fallB o i ((a : Int), (b : Int)))) ∧ Below w.heap.size w w' := by
  have hlen : o.length = n := by simpa using hr.len1
  have hg : lenG ((a : Int), (b : Int)) = b - a := by unfold lenG; simp only; omega
  obtain ⟨m, hm⟩ : ∃ m, b - a = m := ⟨_, rfl⟩
  rw [hm] at hg
  have hbm : (b : Int) - (a : Int) = (m : Int) := by omega
  have HFB := Lib.hid (show fallB o i ((a : Int), (b : Int)) = decide (i + m ≤ n ∧ ∀ k, k < m → o.getD (i + k) 0 = (b : Int) - 1 - (k : Int)) by unfold fallB; rw [hg, hlen])
  have hbx := heap_alloc_new w (.cells #[.int .i64 (a : Int), .int .i64 (b : Int)] 31)
  have HBN := Lib.hid (below_new w (.cells #[.int .i64 (a : Int), .int .i64 (b : Int)] 31))
  obtain ⟨W, hW⟩ : ∃ W, w.alloc (.cells #[.int .i64 (a : Int), .int .i64 (b : Int)] 31) = W := ⟨_, rfl⟩
  obtain ⟨bx, hbe⟩ : ∃ bx, w.heap.size = bx := ⟨_, rfl⟩
  rw [hW] at hbx HBN
  rw [hbe] at hbx
  have c0 : W.cell? ⟨bx, 0, none⟩ = some (.int .i64 (a : Int)) := hp_cell (j := 0) hbx rfl
  have c1 : W.cell? ⟨bx, 1, none⟩ = some (.int .i64 (b : Int)) := hp_cell (j := 1) hbx rfl
  have HR := Lib.hid (hr.below HBN.out)
  have HLEN := Lib.hid hlen
  have HW := Lib.hid hW
  have HBE := Lib.hid hbe
  have HC1 := Lib.hid c1
  obtain ⟨q, hq⟩ : ∃ q : Int, (n : Int) - (m : Int) = q := ⟨_, rfl⟩
  have HQ := Lib.hid hq
  clear hr hlen hg hbx hW hbe
  go_enter Try.func30, Try.ntmps30
  by_cases hfit : i + m ≤ n
  · have hqi : ¬ q < (i : Int) := by omega
    have HF := Lib.hid hfit
    clear hfit
    go_wp2
    rw [HBE.out, HW.out]
    go_loopw [8] (fun s wr => ∃ k q : Nat, k ≤ m ∧ s = .int .i64 (k : Int) ∧ (∀ j, j < k → o.getD (i + j) 0 = (b : Int) - 1 - (j : Int)) ∧ wr = W.drewN q) (fun s _ => m - (intOf s).toNat)
    case atStart => exact ⟨0, 0, Nat.zero_le _, rfl, fun j hj => by omega, rfl⟩
    case round =>
      obtain ⟨k, q', hk, rfl, hall, rfl⟩ := hrel
      have HALL := Lib.hid hall
      clear hall
      by_cases hlt : k < m
      · obtain ⟨x, hx⟩ : ∃ x, o[i + k]? = some x := ⟨_, List.getElem?_eq_getElem (by rw [HLEN.out]; have := HF.out; omega)⟩
        have hxd : o.getD (i + k) 0 = x := by rw [List.getD_eq_getElem?_getD, hx]; rfl
        obtain ⟨ad, rfl, _, hcell⟩ := HR.out.at_ (show i + k < n by have := HF.out; omega)
        have cx := hcell (.int .i64 x) (by rw [List.getElem?_map, hx]; rfl)
        obtain ⟨p, hp⟩ : ∃ p, i + k = p := ⟨_, rfl⟩
        rw [hp] at cx
        have hik : (i : Int) + (k : Int) = (p : Int) := by omega
        have hpn : (p : Int) < (n : Int) := by have := HF.out; omega
        have hki : (k : Int) < (m : Int) := by omega
        obtain ⟨y, hy⟩ : ∃ y : Int, (b : Int) - 1 - (k : Int) = y := ⟨_, rfl⟩
        have hb1 : (b : Int) - 1 = ((b - 1 : Nat) : Int) := by omega
        have HY := Lib.hid hy
        have HXD := Lib.hid hxd
        obtain ⟨bb, hbb⟩ : ∃ bb : Int, (b : Int) - 1 = bb := ⟨_, rfl⟩
        rw [hbb] at hy
        have c1 := HC1.out
        clear hx hxd hcell hb1 hp
        by_cases hxy : x = y
        · subst hxy
          have HN := Lib.hid (show ∀ j, j < k + 1 → o.getD (i + j) 0 = (b : Int) - 1 - (j : Int) from fun j hj => by
            by_cases e : j = k
            · subst e
              rw [HXD.out, HY.out]
            · exact HALL.out j (by omega))
          have g : (x != x) = false := by simp
          go_wp2
          go_quiet (fail)
          go_wp2
          go_roundw
          case rel => exact ⟨k + 1, _, by omega, by go_num, HN.out, rfl⟩
          case measure => simp [intOf]; omega
        · have g : (x != y) = true := by simp [hxy]
          have HN := Lib.hid (show fallB o i ((a : Int), (b : Int)) = false by
            rw [HFB.out]
            refine decide_eq_false ?_
            rintro ⟨_, h⟩
            have := h k hlt
            rw [HXD.out, HY.out] at this
            exact hxy this)
          clear hxy
          go_wp2
          go_quiet (fail)
          go_wp2
          go_ret
          exact ⟨by rw [HN.out]; rfl, below_drewN (below_drewN HBN.out _) _⟩
      · obtain rfl : k = m := by omega
        have HN := Lib.hid (show fallB o i ((a : Int), (b : Int)) = true by
          rw [HFB.out]
          exact decide_eq_true ⟨HF.out, HALL.out⟩)
        go_wp2
        go_ret
        exact ⟨by rw [HN.out]; rfl, below_drewN HBN.out _⟩
  · have hqi : q < (i : Int) := by omega
    have HN := Lib.hid (show fallB o i ((a : Int), (b : Int)) = false by
      rw [HFB.out]
      exact decide_eq_false fun h => hfit h.1)
    clear hfit
    have HB2 : Hid (Below w.heap.size w (w.alloc (.cells #[.int .i64 (a : Int), .int .i64 (b : Int)] 31))) := Lib.hid (by rw [HW.out]; exact HBN.out)
    have c0' := c0
    have c1' := c1
    rw [← HW.out, ← HBE.out] at c0' c1'
    go_wp2
    go_ret
    exact ⟨by rw [HN.out]; rfl, HB2.out⟩
end Go.Proofs.Ytbnjflkafdkcpaa
/- slices.Equal at []int: whether the two slices read alike; the world is as it was, but for draws. -/
namespace Go.Proofs.Ytbnjflkafdkcpaa
open Go.RowKit

theorem take_eq_succ {xs ys : List Int} {k : Nat} (h : xs.take k = ys.take k) {x : Int} (h1 : xs[k]? = some x) (h2 : ys[k]? = some x) : xs.take (k + 1) = ys.take (k + 1) := by
  rw [List.take_add_one, List.take_add_one, h, h1, h2]

set_option maxRecDepth 100000 in
set_option maxHeartbeats 1000000 in
theorem equalInt_same (n : Nat) (A B : Option Addr) (c d : Nat) (xs ys : List Int) (w : World) (hxn : xs.length = n) (hyn : ys.length = n)
    (hx : Rd w 1 A n (xs.map (Value.int .i64))) (hy : Rd w 1 B n (ys.map (Value.int .i64))) (hn : n ≤ maxLen) :
    Calls Try.prog 14 #[.slice A n c, .slice B n d] w fun e w' => e = .returned (.bool (decide (xs = ys))) ∧ ∃ q, w' = w.drewN q := by
  unfold maxLen at hn
  have HX := Lib.hid hxn
  have HY := Lib.hid hyn
  clear hxn hyn
  go_enter Try.func14, Try.ntmps14
  go_wp2
  go_loopw [13] (fun i wr => ∃ k q : Nat, k ≤ n ∧ i = .int .i64 k ∧ wr = w.drewN q ∧ xs.take k = ys.take k) (fun i _ => n - (intOf i).toNat)
  case atStart => exact ⟨0, 0, Nat.zero_le _, rfl, rfl, rfl⟩
  case round =>
    obtain ⟨k, q, hk, rfl, rfl, ht⟩ := hrel
    have HT := Lib.hid ht
    clear ht
    by_cases hlt : k < n
    · obtain ⟨x, hxk⟩ : ∃ x, xs[k]? = some x := ⟨_, List.getElem?_eq_getElem (by rw [HX.out]; exact hlt)⟩
      obtain ⟨y, hyk⟩ : ∃ y, ys[k]? = some y := ⟨_, List.getElem?_eq_getElem (by rw [HY.out]; exact hlt)⟩
      obtain ⟨a, rfl, _, ha⟩ := hx.at_ hlt
      obtain ⟨b, rfl, _, hb⟩ := hy.at_ hlt
      have ca : w.cell? (a.add k) = some (.int .i64 x) := ha _ (by rw [List.getElem?_map, hxk]; rfl)
      have cb : w.cell? (b.add k) = some (.int .i64 y) := hb _ (by rw [List.getElem?_map, hyk]; rfl)
      have HXK := Lib.hid hxk
      have HYK := Lib.hid hyk
      clear hxk hyk ha hb
      by_cases he : x = y
      · subst he
        go_wp2
        go_quiet (fail)
        go_wp2
        go_roundw
        case rel => exact ⟨k + 1, _, by omega, by go_num, rfl, take_eq_succ HT.out HXK.out HYK.out⟩
        case measure => simp [intOf]; omega
      · have hne : (x == y) = false := by simpa using he
        have hne' : (x != y) = true := by simpa using he
        have hf : decide (xs = ys) = false := decide_eq_false (fun e => he (by have h1 := HXK.out; rw [e, HYK.out] at h1; injection h1 with h1; exact h1.symm))
        clear he
        go_wp2
        go_quiet (fail)
        go_wp2
        go_ret
        exact ⟨retB (by simp [hf]), _, World.drewN_drewN _ _ _⟩
    · have hkn : k = n := by omega
      have htr : decide (xs = ys) = true := decide_eq_true (by
        have h := HT.out
        rwa [List.take_of_length_le (by rw [HX.out]; omega), List.take_of_length_le (by rw [HY.out]; omega)] at h)
      clear hkn
      go_wp2
      go_ret
      exact ⟨retB (by simp [htr]), _, rfl⟩

theorem equalInt_any (A B : Option Addr) (n m c d : Nat) (xs ys : List Int) (w : World) (hx : Rd w 1 A n (xs.map (Value.int .i64))) (hy : Rd w 1 B m (ys.map (Value.int .i64))) (hn : n ≤ maxLen) (hm : m ≤ maxLen) :
    Calls Try.prog 14 #[.slice A n c, .slice B m d] w fun e w' => e = .returned (.bool (decide (xs = ys))) ∧ ∃ q, w' = w.drewN q := by
  have hxl : xs.length = n := by simpa using hx.len1
  have hyl : ys.length = m := by simpa using hy.len1
  by_cases h : n = m
  · subst h
    exact equalInt_same n A B c d xs ys w hxl hyl hx hy hn
  · have hne : decide (xs = ys) = false := decide_eq_false (fun e => h (by rw [← hxl, ← hyl, e]))
    have h1 : ((n : Int) == m) = false := by simp; omega
    have h2 : ((n : Int) != m) = true := by simp; omega
    clear hxl hyl
    go_enter Try.func14, Try.ntmps14
    go_wp2
    go_ret
    exact ⟨retB (by simp [hne]), 0, rfl⟩
theorem equalInt_b (A B : Option Addr) (n m c d : Nat) (xs ys : List Int) (w : World) (hx : Rd w 1 A n (xs.map (Value.int .i64))) (hy : Rd w 1 B m (ys.map (Value.int .i64))) (hn : n ≤ maxLen) (hm : m ≤ maxLen) :
    Calls Try.prog 14 #[.slice A n c, .slice B m d] w fun e w' => e = .returned (.bool (decide (xs = ys))) ∧ Below w.heap.size w w' :=
  (equalInt_any A B n m c d xs ys w hx hy hn hm).mono fun _ _ ⟨he, q, hq⟩ => ⟨he, hq ▸ drewBelow q⟩
end Go.Proofs.Ytbnjflkafdkcpaa
/- Runs as mathematics: the places of runs as they are seen are in the order in which places are seen. No function of the program. -/
namespace Go.Proofs.Ytbnjflkafdkcpaa
open Go.RowKit

theorem revR_app {α : Type} {p : α → Bool} : ∀ (a acc l : List α), (∀ x ∈ a, p x = true) → revR p acc (a ++ l) = revR p (a.reverse ++ acc) l
  | [], _, _, _ => rfl
  | x :: a, acc, l, h => by
    rw [List.cons_append, revR, if_pos (h x (by simp)), revR_app a (x :: acc) l fun y hy => h y (by simp [hy])]
    simp
theorem revR_off {α : Type} {p : α → Bool} : ∀ (a acc l : List α), a ≠ [] → (∀ x ∈ a, p x = false) → revR p acc (a ++ l) = acc ++ a ++ revR p [] l
  | [], _, _, h, _ => absurd rfl h
  | [x], acc, l, _, h => by
    rw [List.cons_append, revR, if_neg (by rw [h x (by simp)]; decide)]
    simp
  | x :: y :: a, acc, l, _, h => by
    rw [List.cons_append, revR, if_neg (by rw [h x (by simp)]; decide), revR_off (y :: a) [] l (by simp) fun z hz => h z (by simp [hz])]
    simp
/-- A run's places, turned round or not. -/
structure Rn where
  lo : Nat
  hi : Nat
  lev : Int
def plR (r : Rn) : List Nat := (List.range (r.hi - r.lo)).map fun k => r.lo + k
def blR (t : Int → Bool) (r : Rn) : List Nat := if t r.lev = true then (plR r).reverse else plR r
theorem blR_mem {t : Int → Bool} {r : Rn} {i : Nat} : i ∈ blR t r ↔ i ∈ plR r := by
  unfold blR
  split
  · exact List.mem_reverse
  · exact Iff.rfl
theorem blR_ne {t : Int → Bool} {r : Rn} (h : r.lo < r.hi) : blR t r ≠ [] := by
  intro e
  have : r.lo ∈ blR t r := by
    rw [blR_mem, plR, List.mem_map]
    exact ⟨0, by rw [List.mem_range]; omega, by omega⟩
  rw [e] at this
  cases this
def flR (t : Int → Bool) (R : List Rn) : List Nat := R.flatMap (blR t)
theorem flR_app (t : Int → Bool) (a b : List Rn) : flR t (a ++ b) = flR t a ++ flR t b := by simp [flR]
theorem flR_cons (t : Int → Bool) (r : Rn) (b : List Rn) : flR t (r :: b) = blR t r ++ flR t b := by simp [flR]
def turT (v : Int) (t : Int → Bool) (L : Int) : Bool := if v ≤ L then !(t L) else t L
theorem blR_tur {v : Int} {t : Int → Bool} {r : Rn} (h : v ≤ r.lev) : blR (turT v t) r = (blR t r).reverse := by
  unfold blR turT
  rw [if_pos h]
  cases t r.lev <;> simp
theorem blR_same {v : Int} {t : Int → Bool} {r : Rn} (h : ¬ v ≤ r.lev) : blR (turT v t) r = blR t r := by
  unfold blR turT
  rw [if_neg h]
/-- Turning runs, and each one's places, turns the places. -/
theorem rev_runs {v : Int} {t : Int → Bool} {p : Nat → Bool} : ∀ (R acc : List Rn), (∀ r ∈ R, r.lo < r.hi ∧ ∀ i ∈ plR r, p i = decide (v ≤ r.lev)) → (∀ r ∈ acc, v ≤ r.lev) → revR p (flR (turT v t) acc) (flR t R) = flR (turT v t) (revR (fun r => decide (v ≤ r.lev)) acc R)
  | [], acc, _, _ => by simp [revR, flR]
  | r :: R, acc, h, ha => by
    obtain ⟨h1, h2⟩ := h r (by simp)
    have hR : ∀ r ∈ R, r.lo < r.hi ∧ ∀ i ∈ plR r, p i = decide (v ≤ r.lev) := fun x hx => h x (by simp [hx])
    rw [flR_cons, revR]
    by_cases hv : v ≤ r.lev
    · rw [if_pos (decide_eq_true hv), revR_app _ _ _ (fun i hi => by rw [h2 i (blR_mem.1 hi)]; exact decide_eq_true hv), ← blR_tur hv, ← flR_cons]
      exact rev_runs R (r :: acc) hR (fun x hx => by
        rcases List.mem_cons.1 hx with rfl | hx
        · exact hv
        · exact ha x hx)
    · rw [if_neg (by rw [decide_eq_false hv]; decide), revR_off _ _ _ (blR_ne h1) (fun i hi => by rw [h2 i (blR_mem.1 hi)]; exact decide_eq_false hv), flR_app, flR_cons, blR_same hv, List.append_assoc]
      congr 2
      exact rev_runs R [] hR (by simp)
/-- Runs as they are seen. -/
def visB (ls : List Int) : Nat → List Rn → List Rn
  | 0, R => R
  | v + 1, R => visB ls v (if oddB ls ((v + 1 : Nat) : Int) = true then revR (fun r => decide (((v + 1 : Nat) : Int) ≤ r.lev)) [] R else R)
def turA (ls : List Int) : Nat → (Int → Bool) → Int → Bool
  | 0, t => t
  | v + 1, t => turA ls v (if oddB ls ((v + 1 : Nat) : Int) = true then turT ((v + 1 : Nat) : Int) t else t)
theorem vis_runs (ls : List Int) : ∀ (v : Nat) (t : Int → Bool) (R : List Rn), (∀ r ∈ R, r.lo < r.hi ∧ ∀ i ∈ plR r, ls.getD i 0 = r.lev) → visA ls v (flR t R) = flR (turA ls v t) (visB ls v R)
  | 0, _, _, _ => rfl
  | v + 1, t, R, h => by
    rw [visA, visB, turA]
    by_cases ho : oddB ls ((v + 1 : Nat) : Int) = true
    · rw [if_pos ho, if_pos ho, if_pos ho]
      have h1 := rev_runs (v := ((v + 1 : Nat) : Int)) (t := t) (p := fun i => decide (((v + 1 : Nat) : Int) ≤ ls.getD i 0)) R [] (fun r hr => ⟨(h r hr).1, fun i hi => by simp only [(h r hr).2 i hi]⟩) (by simp)
      have h2 : flR (turT ((v + 1 : Nat) : Int) t) [] = [] := rfl
      rw [h2] at h1
      rw [h1]
      exact vis_runs ls v _ _ fun r hr => h r (by
        have := (revR_perm (fun r : Rn => decide (((v + 1 : Nat) : Int) ≤ r.lev)) R []).mem_iff.1 hr
        simpa using this)
    · rw [if_neg ho, if_neg ho, if_neg ho]
      exact vis_runs ls v t R h
/-- Above all levels nothing is turned. -/
theorem visA_top {ls : List Int} {v : Nat} (h : ∀ x ∈ ls, x ≤ v) (o : List Nat) : ∀ k, visA ls (v + k) o = visA ls v o
  | 0 => rfl
  | k + 1 => by
    rw [← Nat.add_assoc, visA]
    have : revR (fun i => decide (((v + k + 1 : Nat) : Int) ≤ ls.getD i 0)) [] o = o := by
      refine revR_none o fun i _ => decide_eq_false ?_
      rw [List.getD_eq_getElem?_getD]
      rcases hi : ls[i]? with _ | x
      · simp; omega
      · have := h x (List.mem_of_getElem? hi)
        simp
        omega
    rw [this]
    split <;> exact visA_top h o k
theorem most_le : ∀ {ls : List Int} {x : Int}, x ∈ ls → x ≤ mostF ls
  | y :: l, x, h => by
    rw [mostF]
    rcases List.mem_cons.1 h with rfl | h
    · omega
    · have := most_le h
      omega
theorem most_nonneg : ∀ ls : List Int, 0 ≤ mostF ls
  | [] => Int.le_refl 0
  | x :: l => by
    have := most_nonneg l
    rw [mostF]
    omega
theorem most_top {n : Int} (hn : 0 ≤ n) : ∀ {ls : List Int}, (∀ x ∈ ls, x ≤ n) → mostF ls ≤ n
  | [], _ => hn
  | x :: l, h => by
    rw [mostF]
    have := most_top hn fun y hy => h y (List.mem_cons_of_mem _ hy)
    have := h x (by simp)
    omega
/-- The order of places, from the greatest level of all. -/
theorem vis_126 {ls : List Int} (h : ∀ x ∈ ls, 0 ≤ x ∧ x ≤ 126) : visF ls = visA ls 126 (List.range ls.length) := by
  have hm : ls.map heldF = ls := by
    rw [List.map_congr_left (g := id) fun x hx => by
      have := h x hx
      unfold heldF
      simp only [id]
      omega]
    exact List.map_id ls
  unfold visF
  rw [hm]
  have h1 := most_nonneg ls
  have h2 := most_top (by decide : (0 : Int) ≤ 126) fun x hx => (h x hx).2
  have h3 := visA_top (ls := ls) (v := (mostF ls).toNat) (fun x hx => by have := most_le hx; omega) (List.range ls.length) (126 - (mostF ls).toNat)
  rw [show (mostF ls).toNat + (126 - (mostF ls).toNat) = 126 by omega] at h3
  exact h3.symm
theorem oddB_mono {ls : List Int} {a b : Int} (hab : a ≤ b) (h : oddB ls a = true) : oddB ls b = true := by
  unfold oddB at h ⊢
  rw [List.any_eq_true] at h ⊢
  obtain ⟨x, hx, hd⟩ := h
  have hd := of_decide_eq_true hd
  exact ⟨x, hx, decide_eq_true ⟨hd.1, by omega⟩⟩
/-- How often a level's runs are turned: as often as there are levels from the least odd one up to it. -/
theorem tur_at {ls : List Int} {low : Nat} (hlow : ∀ v : Nat, oddB ls v = true ↔ low ≤ v) (L : Nat) : ∀ (v : Nat) (t : Int → Bool), turA ls v t L = (if low ≤ min v L ∧ 1 ≤ min v L ∧ (min v L - low) % 2 = 0 then !(t L) else t L) ∨ low = 0
  | 0, t => by
    left
    rw [turA, if_neg (by omega)]
  | v + 1, t => by
    rcases tur_at hlow L v (if oddB ls ((v + 1 : Nat) : Int) = true then turT ((v + 1 : Nat) : Int) t else t) with h | h
    · by_cases h0 : low = 0
      · exact .inr h0
      left
      rw [turA, h]
      by_cases ho : low ≤ v + 1
      · rw [if_pos ((hlow (v + 1)).2 ho)]
        unfold turT
        by_cases hv : v + 1 ≤ L
        · rw [if_pos (show ((v + 1 : Nat) : Int) ≤ (L : Int) by omega)]
          have e1 : min v L = v := by omega
          have e2 : min (v + 1) L = v + 1 := by omega
          rw [e1, e2]
          by_cases hc : (v + 1 - low) % 2 = 0
          · rw [if_neg (by omega), if_pos (by omega)]
          · rw [if_pos (by omega), if_neg (by omega)]
            simp
        · rw [if_neg (show ¬ ((v + 1 : Nat) : Int) ≤ (L : Int) by omega)]
          have e1 : min v L = L := by omega
          have e2 : min (v + 1) L = L := by omega
          rw [e1, e2]
      · rw [if_neg (fun h => ho ((hlow (v + 1)).1 h)), if_neg (by omega), if_neg (by omega)]
    · exact .inr h
end Go.Proofs.Ytbnjflkafdkcpaa
/- The runs of levels as mathematics: they are parts, neighbours have unlike levels. No function of the program. -/
namespace Go.Proofs.Ytbnjflkafdkcpaa
open Go.RowKit

/-- Runs with one more level behind them. -/
def stepR (R : List Rg) (i : Nat) (x : Int) : List Rg := match R.getLast? with
  | some r => if r.2.2 = x then R.dropLast ++ [(r.1, (i : Int) + 1, x)] else R ++ [((i : Int), (i : Int) + 1, x)]
  | none => R ++ [((i : Int), (i : Int) + 1, x)]
def logR (ls : List Int) : Nat → List Rg
  | 0 => []
  | k + 1 => stepR (logR ls k) k (ls.getD k 0)
theorem stepR_len (R : List Rg) (i : Nat) (x : Int) : (stepR R i x).length ≤ R.length + 1 := by
  unfold stepR
  split
  · split
    · simp
    · simp
  · simp
theorem logR_len (ls : List Int) : ∀ k, (logR ls k).length ≤ k
  | 0 => Nat.le_refl 0
  | k + 1 => by
    have := logR_len ls k
    have := stepR_len (logR ls k) k (ls.getD k 0)
    rw [logR]
    omega
theorem stepR_nil (i : Nat) (x : Int) : stepR [] i x = [((i : Int), (i : Int) + 1, x)] := rfl
theorem stepR_same (R : List Rg) (a b : Int) (i : Nat) (x : Int) : stepR (R ++ [(a, b, x)]) i x = R ++ [(a, (i : Int) + 1, x)] := by
  unfold stepR
  simp
theorem stepR_new (R : List Rg) (a b c : Int) (i : Nat) (x : Int) (h : c ≠ x) : stepR (R ++ [(a, b, c)]) i x = R ++ [(a, b, c)] ++ [((i : Int), (i : Int) + 1, x)] := by
  unfold stepR
  simp [h]
theorem parts_snoc (s : Sp) (n : Int) : ∀ (l : List Sp) (e : Int), partsFrom e l s.1 = true → rightB s = true → s.2 = n → partsFrom e (l ++ [s]) n = true
  | [], e, h, h1, h2 => by
    have h : e = s.1 := by simpa [partsFrom] using h
    simp [partsFrom, h1, h2, h]
  | t :: l, e, h, h1, h2 => by
    simp only [partsFrom, Bool.and_eq_true] at h
    rw [List.cons_append]
    simp only [partsFrom, Bool.and_eq_true]
    exact ⟨h.1, parts_snoc s n l t.2 h.2 h1 h2⟩
theorem parts_last (s : Sp) (n : Int) : ∀ (l : List Sp) (e : Int), partsFrom e (l ++ [s]) n = true → partsFrom e l s.1 = true ∧ rightB s = true ∧ s.2 = n
  | [], e, h => by
    simp only [List.nil_append, partsFrom, Bool.and_eq_true, beq_iff_eq] at h
    exact ⟨by simp [partsFrom, h.1.2], h.1.1, h.2⟩
  | t :: l, e, h => by
    rw [List.cons_append] at h
    simp only [partsFrom, Bool.and_eq_true] at h
    obtain ⟨h1, h2, h3⟩ := parts_last s n l t.2 h.2
    exact ⟨by simp only [partsFrom, Bool.and_eq_true]; exact ⟨h.1, h1⟩, h2, h3⟩
/-- What holds of the runs of the first places. -/
structure LogOk (ls : List Int) (R : List Rg) (k : Nat) : Prop where
  parts : partsFrom 0 (R.map fun r => (r.1, r.2.1)) k = true
  unlike : ∀ (i : Nat) (r s : Rg), R[i]? = some r → R[i + 1]? = some s → r.2.2 ≠ s.2.2
  lev : ∀ r ∈ R, ∀ i : Nat, r.1 ≤ i → (i : Int) < r.2.1 → ls.getD i 0 = r.2.2
theorem LogOk.nil (ls : List Int) : LogOk ls [] 0 := ⟨rfl, by simp, by simp⟩
theorem LogOk.step {ls : List Int} {R : List Rg} {k : Nat} (h : LogOk ls R k) : LogOk ls (stepR R k (ls.getD k 0)) (k + 1) := by
  obtain ⟨x, hx⟩ : ∃ x, ls.getD k 0 = x := ⟨_, rfl⟩
  rw [hx]
  rcases List.eq_nil_or_concat R with rfl | ⟨R0, ⟨a, b, e⟩, rfl⟩
  · rw [stepR_nil]
    have hk : k = 0 := by
      have := h.parts
      simp [partsFrom] at this
      omega
    subst hk
    refine ⟨rfl, ?_, ?_⟩
    · intro i r s h1 h2
      simp at h2
    · intro r hr i h1 h2
      simp at hr
      subst hr
      simp at h1 h2
      obtain rfl : i = 0 := by omega
      exact hx
  · rw [List.concat_eq_append] at h ⊢
    have hp := h.parts
    rw [List.map_append] at hp
    obtain ⟨p1, p2, p3⟩ := parts_last (a, b) k _ 0 hp
    simp only at p1 p3
    have hr : 0 ≤ a ∧ a < b := by simpa [rightB] using p2
    by_cases hxe : e = x
    · subst hxe
      rw [stepR_same]
      refine ⟨?_, ?_, ?_⟩
      · rw [List.map_append]
        exact parts_snoc (a, (k : Int) + 1) _ _ 0 p1 (by simp [rightB]; omega) rfl
      · intro i r s h1 h2
        have hl := (List.getElem?_eq_some_iff.1 h2).1
        rw [List.length_append, List.length_singleton] at hl
        rw [List.getElem?_append_left (by omega)] at h1
        by_cases hi : i + 1 < R0.length
        · rw [List.getElem?_append_left hi] at h2
          exact h.unlike i r s (by rw [List.getElem?_append_left (by omega)]; exact h1) (by rw [List.getElem?_append_left hi]; exact h2)
        · rw [List.getElem?_append_right (by omega), show i + 1 - R0.length = 0 by omega] at h2
          obtain rfl := Option.some.inj h2
          exact h.unlike i r (a, b, e) (by rw [List.getElem?_append_left (by omega)]; exact h1) (by rw [List.getElem?_append_right (by omega), show i + 1 - R0.length = 0 by omega]; rfl)
      · intro r hrr i h1 h2
        rcases List.mem_append.1 hrr with hrr | hrr
        · exact h.lev r (by simp [hrr]) i h1 h2
        · rw [List.mem_singleton] at hrr
          subst hrr
          simp only at h1 h2
          by_cases hik : i = k
          · rw [hik]; exact hx
          · exact h.lev (a, b, e) (by simp) i h1 (by simp only; omega)
    · rw [stepR_new _ _ _ _ _ _ hxe]
      refine ⟨?_, ?_, ?_⟩
      · rw [List.map_append]
        exact parts_snoc ((k : Int), (k : Int) + 1) _ _ 0 h.parts (by simp [rightB]; omega) rfl
      · intro i r s h1 h2
        have hl := (List.getElem?_eq_some_iff.1 h2).1
        rw [List.length_append, List.length_singleton] at hl
        rw [List.getElem?_append_left (by omega)] at h1
        by_cases hi : i + 1 < (R0 ++ [(a, b, e)]).length
        · rw [List.getElem?_append_left hi] at h2
          exact h.unlike i r s h1 h2
        · rw [List.getElem?_append_right (by omega), show i + 1 - (R0 ++ [(a, b, e)]).length = 0 by omega] at h2
          obtain rfl := Option.some.inj h2
          rw [List.length_append, List.length_singleton] at hi hl
          rw [List.getElem?_append_right (by omega), show i - R0.length = 0 by omega] at h1
          obtain rfl := Option.some.inj h1
          exact hxe
      · intro r hrr i h1 h2
        rcases List.mem_append.1 hrr with hrr | hrr
        · exact h.lev r hrr i h1 h2
        · rw [List.mem_singleton] at hrr
          subst hrr
          simp only at h1 h2
          obtain rfl : i = k := by omega
          exact hx
theorem log_ok (ls : List Int) : ∀ k, LogOk ls (logR ls k) k
  | 0 => LogOk.nil ls
  | k + 1 => by rw [logR]; exact (log_ok ls k).step
end Go.Proofs.Ytbnjflkafdkcpaa
/- The least odd level of runs. No function of the program. -/
namespace Go.Proofs.Ytbnjflkafdkcpaa
open Go.RowKit

/-- The least odd level so far; 0: there is none. -/
def lowS (m : Int) (x : Int) : Int := if x % 2 = 1 ∧ (m = 0 ∨ x < m) then x else m
def lowF (l : List Rg) : Int := (l.map fun r => heldF r.2.2).foldl lowS 0
theorem low_next {l : List Rg} {i : Nat} {r : Rg} (h : l[i]? = some r) : lowF (l.take (i + 1)) = lowS (lowF (l.take i)) (heldF r.2.2) := by
  unfold lowF
  rw [List.take_add_one, h]
  simp
theorem lowS_in {m x : Int} (hm : 0 ≤ m ∧ m ≤ 126) (hx : 0 ≤ x ∧ x ≤ 126) : 0 ≤ lowS m x ∧ lowS m x ≤ 126 := by unfold lowS; split <;> omega
end Go.Proofs.Ytbnjflkafdkcpaa
/- A pass that turns parts, with what stands ahead already turned. No function of the program. -/
namespace Go.Proofs.Ytbnjflkafdkcpaa
open Go.RowKit

/-- A pass at places, with what stands ahead already turned. -/
def tgF {α : Type} (b : Bool) (p : α → Bool) (a r : List α) : List α := if b = true then a ++ revR p [] r else a ++ r
theorem tg_run {α : Type} {b : Bool} {p : α → Bool} {a pre suf : List α} (h : ∀ x ∈ pre, p x = true) (hs : suf = [] ∨ ∃ y s, suf = y :: s ∧ p y = false) : tgF b p a (pre ++ suf) = tgF b p (a ++ (if b = true then pre.reverse else pre)) suf := by
  cases b with
  | false => simp [tgF]
  | true =>
    simp only [tgF, if_true]
    rw [revR_app _ _ _ h, List.append_nil, List.append_assoc]
    congr 1
    rcases hs with rfl | ⟨y, s, rfl, hy⟩
    · simp [revR]
    · rw [revR, revR, if_neg (by rw [hy]; decide), if_neg (by rw [hy]; decide)]
      rfl
theorem tg_skip {α : Type} {b : Bool} {p : α → Bool} {a s : List α} {y : α} (hy : p y = false) : tgF b p a (y :: s) = tgF b p (a ++ [y]) s := by
  cases b with
  | false => simp [tgF]
  | true =>
    simp only [tgF, if_true]
    rw [revR, if_neg (by rw [hy]; decide)]
    simp
theorem tg_end {α : Type} (b : Bool) (p : α → Bool) (a : List α) : tgF b p a [] = a := by
  cases b <;> simp [tgF, revR]
/-- Where the next part begins. -/
theorem tg_move {α : Type} {b : Bool} {p : α → Bool} {a B suf : List α} {la hi : Nat} (hla : a.length = la) (hh : la + B.length = hi) (hs : suf = [] ∨ ∃ y s, suf = y :: s ∧ p y = false) (hne : B = [] → suf ≠ []) :
    ∃ (a2 r2 : List α) (ml : Nat), a2 ++ r2 = a ++ B ++ suf ∧ a2.length = ml + 1 ∧ tgF b p (a ++ B) suf = tgF b p a2 r2 ∧ (if (la : Int) < (hi : Int) - 1 then (hi : Int) - 1 else (la : Int)) = (ml : Int) := by
  cases B with
  | nil =>
    rcases hs with rfl | ⟨y, s, rfl, hy⟩
    · exact absurd rfl (hne rfl)
    · refine ⟨a ++ [y], s, la, by simp, by simp [hla], ?_, ?_⟩
      · rw [tg_skip hy, List.append_nil]
      · simp at hh
        rw [if_neg (by omega)]
  | cons x B =>
    simp only [List.length_cons] at hh
    refine ⟨a ++ x :: B, suf, hi - 1, rfl, by simp; omega, rfl, ?_⟩
    split <;> omega
end Go.Proofs.Ytbnjflkafdkcpaa
/- Runs as they are seen, as mathematics. No function of the program. -/
namespace Go.Proofs.Ytbnjflkafdkcpaa
open Go.RowKit

/-- Runs turned, level by level, down to the least odd one. -/
def visGA (low : Int) : Nat → List Rg → List Rg
  | 0, R => R
  | v + 1, R => if low ≤ ((v + 1 : Nat) : Int) then visGA low v (revR (fun r => decide (((v + 1 : Nat) : Int) ≤ heldF r.2.2)) [] R) else R
def visG (R : List Rg) : List Rg := if 0 < lowF R then visGA (lowF R) 126 R else R
theorem visGA_stop {low : Int} : ∀ {v : Nat} {R : List Rg}, (v : Int) < low → visGA low v R = R
  | 0, _, _ => rfl
  | v + 1, R, h => by rw [visGA, if_neg (by omega)]
theorem visGA_go {low : Int} {v : Nat} {R : List Rg} (h : low ≤ ((v + 1 : Nat) : Int)) : visGA low (v + 1) R = visGA low v (tgF true (fun r => decide (((v + 1 : Nat) : Int) ≤ heldF r.2.2)) [] R) := by
  rw [visGA, if_pos h]
  rfl
theorem low_fold : ∀ (l : List Int) (m : Int), 0 ≤ m ∧ m ≤ 126 → (∀ x ∈ l, 0 ≤ x ∧ x ≤ 126) → 0 ≤ l.foldl lowS m ∧ l.foldl lowS m ≤ 126
  | [], _, h, _ => h
  | x :: l, m, h, hl => low_fold l (lowS m x) (lowS_in h (hl x (by simp))) fun y hy => hl y (by simp [hy])
theorem lowF_in (R : List Rg) : 0 ≤ lowF R ∧ lowF R ≤ 126 := low_fold _ 0 (by decide) (by
  intro x hx
  obtain ⟨r, _, rfl⟩ := List.mem_map.1 hx
  unfold heldF
  omega)
end Go.Proofs.Ytbnjflkafdkcpaa
/- The places of runs, as mathematics. No function of the program. -/
namespace Go.Proofs.Ytbnjflkafdkcpaa
open Go.RowKit

/-- The k-th place of a run. -/
def plK (r : Rg) (k : Nat) : Int := if r.2.2 % 2 ≠ 0 then r.2.1 - 1 - (k : Int) else r.1 + (k : Int)
def plI (r : Rg) : List Int := if rightB (r.1, r.2.1) = true then (List.range (r.2.1 - r.1).toNat).map (plK r) else []
/-- The places of runs. -/
def ordI (l : List Rg) : List Int := l.flatMap plI
theorem ordI_next {l : List Rg} {i : Nat} {r : Rg} (h : l[i]? = some r) : ordI (l.take (i + 1)) = ordI (l.take i) ++ plI r := by
  rw [List.take_add_one, h]
  simp [ordI]
theorem plI_len (r : Rg) (h : rightB (r.1, r.2.1) = true → r.2.1 ≤ 1000) : (plI r).length ≤ 1000 := by
  unfold plI
  split
  · rename_i hr
    have := h hr
    have hr' : 0 ≤ r.1 ∧ r.1 < r.2.1 := by simpa [rightB] using hr
    rw [List.length_map, List.length_range]
    omega
  · exact Nat.zero_le _
end Go.Proofs.Ytbnjflkafdkcpaa
/- The places of runs as they are seen are in the order in which places are seen. No function of the program. -/
namespace Go.Proofs.Ytbnjflkafdkcpaa
open Go.RowKit

def toRn (r : Rg) : Rn := ⟨r.1.toNat, r.2.1.toNat, r.2.2⟩
theorem revR_map {α β : Type} (f : α → β) (p : β → Bool) : ∀ l acc : List α, revR p (acc.map f) (l.map f) = (revR (fun x => p (f x)) acc l).map f
  | [], acc => rfl
  | x :: l, acc => by
    rw [List.map_cons, revR, revR]
    by_cases h : p (f x) = true
    · rw [if_pos h, if_pos h]
      exact revR_map f p l (x :: acc)
    · rw [if_neg h, if_neg h, List.map_append, List.map_cons]
      congr 2
      exact revR_map f p l []
theorem revR_congr {α : Type} {p q : α → Bool} : ∀ {l acc : List α}, (∀ x ∈ l, p x = q x) → revR p acc l = revR q acc l
  | [], _, _ => rfl
  | x :: l, acc, h => by
    rw [revR, revR, h x (by simp), revR_congr (acc := x :: acc) fun y hy => h y (by simp [hy]), revR_congr (acc := []) fun y hy => h y (by simp [hy])]
/-- Parts, flattened. -/
theorem fl_parts (t : Int → Bool) (ht : ∀ L, t L = false) : ∀ (R : List Rg) (e n : Nat), partsFrom e (R.map fun r => (r.1, r.2.1)) n = true → flR t (R.map toRn) = List.range' e (n - e)
  | [], e, n, h => by
    have h : (e : Int) = n := by simpa [partsFrom] using h
    rw [show n - e = 0 by omega]
    rfl
  | r :: R, e, n, h => by
    rw [List.map_cons] at h
    simp only [partsFrom, Bool.and_eq_true, beq_iff_eq] at h
    obtain ⟨⟨h1, h2⟩, h3⟩ := h
    have hr : 0 ≤ r.1 ∧ r.1 < r.2.1 := by simpa [rightB] using h1
    have e1 : (r.2.1.toNat : Int) = r.2.1 := by omega
    rw [← e1] at h3
    have ih := fl_parts t ht R r.2.1.toNat n h3
    have hle : r.2.1.toNat ≤ n := by
      have : ∀ (l : List Sp) (e n : Int), partsFrom e l n = true → e ≤ n := by
        intro l
        induction l with
        | nil =>
          intro e n h
          have h : e = n := by simpa [partsFrom] using h
          omega
        | cons s l ih =>
          intro e n h
          simp only [partsFrom, Bool.and_eq_true, beq_iff_eq] at h
          have := ih _ _ h.2
          have : 0 ≤ s.1 ∧ s.1 < s.2 := by simpa [rightB] using h.1.1
          omega
      have := this _ _ _ h3
      omega
    rw [List.map_cons, flR_cons, ih, blR, ht, if_neg (by decide)]
    have hp : plR (toRn r) = List.range' e (r.2.1.toNat - e) := by
      unfold plR toRn
      simp only
      rw [show r.1.toNat = e by omega, List.range'_eq_map_range]
    obtain ⟨m, hm⟩ : ∃ m, r.2.1.toNat = e + m := ⟨r.2.1.toNat - e, by omega⟩
    rw [hm] at hle
    rw [hp, hm, show e + m - e = m by omega, List.range'_append_1, show m + (n - (e + m)) = n - e by omega]
theorem visB_stay {ls : List Int} : ∀ (v : Nat) (R : List Rn), oddB ls v = false → visB ls v R = R
  | 0, _, _ => rfl
  | v + 1, R, h => by
    rw [visB, if_neg (by rw [h]; decide), visB_stay v R]
    rw [Bool.eq_false_iff] at h ⊢
    exact fun h2 => h (oddB_mono (by omega) h2)
theorem turA_stay {ls : List Int} : ∀ (v : Nat) (t : Int → Bool), oddB ls v = false → turA ls v t = t
  | 0, _, _ => rfl
  | v + 1, t, h => by
    rw [turA, if_neg (by rw [h]; decide), turA_stay v t]
    rw [Bool.eq_false_iff] at h ⊢
    exact fun h2 => h (oddB_mono (by omega) h2)
/-- The runs that both see. -/
theorem visB_vis {ls : List Int} {low : Int} (hlow : ∀ v : Nat, oddB ls v = true ↔ low ≤ v) : ∀ (v : Nat) (R : List Rg), (∀ r ∈ R, 0 ≤ r.2.2 ∧ r.2.2 ≤ 126) → visB ls v (R.map toRn) = (visGA low v R).map toRn
  | 0, _, _ => rfl
  | v + 1, R, h => by
    by_cases ho : low ≤ ((v + 1 : Nat) : Int)
    · rw [visB, visGA, if_pos ho, if_pos ((hlow (v + 1)).2 ho)]
      have e := revR_map toRn (fun r => decide (((v + 1 : Nat) : Int) ≤ r.lev)) R []
      rw [List.map_nil] at e
      rw [e, revR_congr (q := fun r => decide (((v + 1 : Nat) : Int) ≤ heldF r.2.2)) (fun r hr => by
        have := h r hr
        have : heldF r.2.2 = r.2.2 := by unfold heldF; omega
        rw [this]
        rfl)]
      exact visB_vis hlow v _ fun r hr => h r (by simpa using (revR_perm (fun r : Rg => decide (((v + 1 : Nat) : Int) ≤ heldF r.2.2)) R []).mem_iff.1 hr)
    · rw [visGA, if_neg ho, visB_stay]
      rw [Bool.eq_false_iff]
      exact fun h2 => ho ((hlow (v + 1)).1 h2)
theorem visGA_perm (low : Int) : ∀ (v : Nat) (R : List Rg), (visGA low v R).Perm R
  | 0, R => .refl R
  | v + 1, R => by
    rw [visGA]
    split
    · exact (visGA_perm low v _).trans (by simpa using revR_perm (fun r : Rg => decide (((v + 1 : Nat) : Int) ≤ heldF r.2.2)) R [])
    · exact .refl R
theorem visG_perm (R : List Rg) : (visG R).Perm R := by
  unfold visG
  split
  · exact visGA_perm _ _ _
  · exact .refl R
/-- A run's places, turned where its level is odd. -/
theorem plI_bl {t : Int → Bool} {r : Rg} (hr : rightB (r.1, r.2.1) = true) (ht : t r.2.2 = decide (r.2.2 % 2 ≠ 0)) : plI r = (blR t (toRn r)).map fun i => ((i : Nat) : Int) := by
  have hr' : 0 ≤ r.1 ∧ r.1 < r.2.1 := by simpa [rightB] using hr
  rw [plI, if_pos hr, blR]
  have e : (toRn r).lev = r.2.2 := rfl
  rw [e, ht]
  by_cases ho : r.2.2 % 2 ≠ 0
  · rw [if_pos (decide_eq_true ho)]
    apply List.ext_getElem
    · simp [plR, toRn]; omega
    · intro i h1 h2
      simp [plR, toRn] at h1 h2 ⊢
      simp [plK, ho]
      omega
  · rw [if_neg (by rw [decide_eq_false ho]; decide)]
    apply List.ext_getElem
    · simp [plR, toRn]; omega
    · intro i h1 h2
      simp [plR, toRn] at h1 h2 ⊢
      have ho2 : r.2.2 % 2 = 0 := by omega
      simp [plK, ho2]
      omega
theorem ord_fl {t : Int → Bool} : ∀ R : List Rg, (∀ r ∈ R, rightB (r.1, r.2.1) = true ∧ t r.2.2 = decide (r.2.2 % 2 ≠ 0)) → ordI R = (flR t (R.map toRn)).map fun i => ((i : Nat) : Int)
  | [], _ => rfl
  | r :: R, h => by
    have e : ordI (r :: R) = plI r ++ ordI R := by simp [ordI]
    rw [e, List.map_cons, flR_cons, List.map_append, ord_fl R fun x hx => h x (by simp [hx]), plI_bl (h r (by simp)).1 (h r (by simp)).2]
/-- What the least odd level is. -/
def LowOk (S : List Int) (m : Int) : Prop := (m = 0 ∧ ∀ x ∈ S, x % 2 ≠ 1) ∨ (0 < m ∧ m % 2 = 1 ∧ m ∈ S ∧ ∀ x ∈ S, x % 2 = 1 → m ≤ x)
theorem LowOk.step {S : List Int} {m x : Int} (h : LowOk S m) (hx : 0 ≤ x) : LowOk (S ++ [x]) (lowS m x) := by
  unfold lowS
  rcases h with ⟨rfl, h⟩ | ⟨h0, h1, h2, h3⟩
  · by_cases ho : x % 2 = 1
    · rw [if_pos ⟨ho, .inl rfl⟩]
      refine .inr ⟨by omega, ho, by simp, fun y hy hy1 => ?_⟩
      rcases List.mem_append.1 hy with hy | hy
      · exact absurd hy1 (h y hy)
      · simp at hy; omega
    · rw [if_neg (fun h => ho h.1)]
      refine .inl ⟨rfl, fun y hy => ?_⟩
      rcases List.mem_append.1 hy with hy | hy
      · exact h y hy
      · simp at hy; rw [hy]; exact ho
  · by_cases ho : x % 2 = 1 ∧ (m = 0 ∨ x < m)
    · rw [if_pos ho]
      refine .inr ⟨by omega, ho.1, by simp, fun y hy hy1 => ?_⟩
      rcases List.mem_append.1 hy with hy | hy
      · have := h3 y hy hy1; omega
      · simp at hy; omega
    · rw [if_neg ho]
      refine .inr ⟨h0, h1, by simp [h2], fun y hy hy1 => ?_⟩
      rcases List.mem_append.1 hy with hy | hy
      · exact h3 y hy hy1
      · simp at hy
        subst hy
        omega
theorem LowOk.fold : ∀ (l S : List Int) (m : Int), LowOk S m → (∀ x ∈ l, 0 ≤ x) → LowOk (S ++ l) (l.foldl lowS m)
  | [], S, m, h, _ => by simpa using h
  | x :: l, S, m, h, hl => by
    have := LowOk.fold l (S ++ [x]) (lowS m x) (h.step (hl x (by simp))) fun y hy => hl y (by simp [hy])
    simpa using this
theorem parts_mem {n : Int} : ∀ {l : List Sp} {e : Int}, partsFrom e l n = true → e ≤ n ∧ ∀ s ∈ l, rightB s = true ∧ e ≤ s.1 ∧ s.2 ≤ n
  | [], e, h => by
    have h : e = n := by simpa [partsFrom] using h
    exact ⟨by omega, by simp⟩
  | s :: l, e, h => by
    simp only [partsFrom, Bool.and_eq_true, beq_iff_eq] at h
    obtain ⟨h1, h2⟩ := parts_mem h.2
    have hr : 0 ≤ s.1 ∧ s.1 < s.2 := by simpa [rightB] using h.1.1
    refine ⟨by omega, fun t ht => ?_⟩
    rcases List.mem_cons.1 ht with rfl | ht
    · exact ⟨h.1.1, by omega, h1⟩
    · have := h2 t ht
      exact ⟨this.1, by omega, this.2.2⟩
/-- The places of runs as they are seen are in the order in which places are seen. -/
theorem runs_order {ls : List Int} (h : ∀ x ∈ ls, 0 ≤ x ∧ x ≤ 126) : ordI (visG (logR ls ls.length)) = (visF ls).map fun i => ((i : Nat) : Int) := by
  have ho := log_ok ls ls.length
  obtain ⟨R, hR⟩ : ∃ R, logR ls ls.length = R := ⟨_, rfl⟩
  rw [hR] at ho ⊢
  have hrt : ∀ r ∈ R, rightB (r.1, r.2.1) = true ∧ 0 ≤ r.1 ∧ r.1 < r.2.1 ∧ r.2.1 ≤ ls.length := fun r hr => by
    have := (parts_mem ho.parts).2 (r.1, r.2.1) (List.mem_map.2 ⟨r, hr, rfl⟩)
    have h2 : 0 ≤ r.1 ∧ r.1 < r.2.1 := by simpa [rightB] using this.1
    exact ⟨this.1, h2.1, h2.2, this.2.2⟩
  have hpl : ∀ r ∈ R, ∀ i ∈ plR (toRn r), ls.getD i 0 = r.2.2 := fun r hr i hi => by
    obtain ⟨k, hk, rfl⟩ := List.mem_map.1 hi
    rw [List.mem_range] at hk
    obtain ⟨_, h1, h2, _⟩ := hrt r hr
    simp only [toRn] at hk ⊢
    exact ho.lev r hr _ (by omega) (by omega)
  have hlv : ∀ r ∈ R, r.2.2 ∈ ls := fun r hr => by
    obtain ⟨_, h1, h2, h3⟩ := hrt r hr
    have e := ho.lev r hr r.1.toNat (by omega) (by omega)
    have hl : r.1.toNat < ls.length := by omega
    rw [List.getD_eq_getElem?_getD, List.getElem?_eq_getElem hl] at e
    simp only [Option.getD_some] at e
    rw [← e]
    exact List.getElem_mem hl
  have hfl := fl_parts (fun _ => false) (fun _ => rfl) R 0 ls.length ho.parts
  rw [Nat.sub_zero, ← List.range_eq_range'] at hfl
  have hbk : ∀ x ∈ ls, ∃ r ∈ R, r.2.2 = x := fun x hx => by
    obtain ⟨i, hi, rfl⟩ := List.mem_iff_getElem.1 hx
    have hm : i ∈ flR (fun _ => false) (R.map toRn) := by rw [hfl]; exact List.mem_range.2 hi
    obtain ⟨q, hq, hiq⟩ := List.mem_flatMap.1 hm
    obtain ⟨r, hr, rfl⟩ := List.mem_map.1 hq
    have e := hpl r hr i (blR_mem.1 hiq)
    rw [List.getD_eq_getElem?_getD, List.getElem?_eq_getElem hi] at e
    exact ⟨r, hr, by rw [← e]; rfl⟩
  have hlow : LowOk (R.map fun r => heldF r.2.2) (lowF R) := by
    have := LowOk.fold (R.map fun r => heldF r.2.2) [] 0 (.inl ⟨rfl, by simp⟩) (by
      intro x hx
      obtain ⟨r, _, rfl⟩ := List.mem_map.1 hx
      unfold heldF
      omega)
    rw [List.nil_append] at this
    exact this
  have hhl : ∀ r ∈ R, heldF r.2.2 = r.2.2 := fun r hr => by
    have := h _ (hlv r hr)
    unfold heldF
    omega
  rw [vis_126 h]
  rcases hlow with ⟨h0, hev⟩ | ⟨h0, h1, h2, h3⟩
  · have hev2 : ∀ x ∈ ls, x % 2 = 0 := fun x hx => by
      obtain ⟨r, hr, rfl⟩ := hbk x hx
      have := hev _ (List.mem_map.2 ⟨r, hr, rfl⟩)
      rw [hhl r hr] at this
      omega
    have hno : oddB ls ((126 : Nat) : Int) = false := by
      rw [Bool.eq_false_iff]
      intro hc
      unfold oddB at hc
      rw [List.any_eq_true] at hc
      obtain ⟨x, hx, hd⟩ := hc
      have := hev2 x hx
      have := of_decide_eq_true hd
      omega
    rw [visA_stay 126 _ hno, visG, if_neg (by omega), ← hfl]
    exact ord_fl R fun r hr => ⟨(hrt r hr).1, by
      have := hev2 _ (hlv r hr)
      simp [this]⟩
  · obtain ⟨low, hl⟩ : ∃ low : Nat, lowF R = (low : Int) := ⟨(lowF R).toNat, by omega⟩
    rw [hl] at h0 h1 h2 h3
    have hod : ∀ v : Nat, oddB ls v = true ↔ low ≤ v := fun v => by
      unfold oddB
      rw [List.any_eq_true]
      constructor
      · rintro ⟨x, hx, hd⟩
        have hd := of_decide_eq_true hd
        obtain ⟨r, hr, rfl⟩ := hbk x hx
        have := h3 _ (List.mem_map.2 ⟨r, hr, rfl⟩) (by rw [hhl r hr]; exact hd.1)
        rw [hhl r hr] at this
        omega
      · intro hv
        obtain ⟨r, hr, he⟩ := List.mem_map.1 h2
        rw [hhl r hr] at he
        exact ⟨r.2.2, hlv r hr, decide_eq_true ⟨by rw [he]; exact h1, by omega⟩⟩
    have hvb := visB_vis (ls := ls) (low := (low : Int)) (fun v => by rw [hod v]; omega) 126 R (fun r hr => h _ (hlv r hr))
    have hvr := vis_runs ls 126 (fun _ => false) (R.map toRn) (fun q hq => by
      obtain ⟨r, hr, rfl⟩ := List.mem_map.1 hq
      obtain ⟨_, a1, a2, _⟩ := hrt r hr
      exact ⟨by simp only [toRn]; omega, fun i hi => hpl r hr i hi⟩)
    rw [hfl, hvb] at hvr
    have hvg : visG R = visGA (low : Int) 126 R := by unfold visG; rw [hl, if_pos h0]
    rw [hvr, hvg]
    refine ord_fl _ fun r hr => ?_
    have hr := (visGA_perm (low : Int) 126 R).mem_iff.1 hr
    refine ⟨(hrt r hr).1, ?_⟩
    have hb := h _ (hlv r hr)
    obtain ⟨L, hL⟩ : ∃ L : Nat, r.2.2 = (L : Int) := ⟨r.2.2.toNat, by omega⟩
    rw [hL] at hb ⊢
    rcases tur_at hod L 126 (fun _ => false) with ht | ht
    · rw [ht]
      by_cases hpar : (L : Int) % 2 ≠ 0
      · have hlL : low ≤ L := by
          have := h3 _ (List.mem_map.2 ⟨r, hr, rfl⟩) (by rw [hhl r hr, hL]; omega)
          rw [hhl r hr, hL] at this
          omega
        rw [if_pos (by omega), decide_eq_true hpar]
        rfl
      · rw [if_neg (by omega), decide_eq_false hpar]
    · omega
end Go.Proofs.Ytbnjflkafdkcpaa
/- In the order of levels each group falls; turned, it rises; what is answered is an order. No function of the program. -/
namespace Go.Proofs.Ytbnjflkafdkcpaa
open Go.RowKit

theorem parts_find : ∀ {l : List Sp} {e n : Int}, partsFrom e l n = true → ∀ i, e ≤ i → i < n → ∃ j s, l[j]? = some s ∧ s.1 ≤ i ∧ i < s.2 ∧ (s.2 < n → ∃ t, l[j + 1]? = some t ∧ t.1 = s.2 ∧ t.1 < t.2)
  | [], e, n, h, i, h1, h2 => by
    simp only [partsFrom, beq_iff_eq] at h
    omega
  | s :: l, e, n, h, i, h1, h2 => by
    simp only [partsFrom, Bool.and_eq_true, beq_iff_eq] at h
    obtain ⟨⟨hr, he⟩, hp⟩ := h
    by_cases hi : i < s.2
    · refine ⟨0, s, rfl, by omega, hi, fun hn => ?_⟩
      cases l with
      | nil =>
        simp only [partsFrom, beq_iff_eq] at hp
        omega
      | cons t l =>
        simp only [partsFrom, Bool.and_eq_true, beq_iff_eq] at hp
        have := of_decide_eq_true hp.1.1
        exact ⟨t, rfl, hp.1.2, this.2⟩
    · obtain ⟨j, t, h3, h4⟩ := parts_find hp i (by omega) h2
      exact ⟨j + 1, t, by simpa using h3, by simpa using h4⟩
theorem vis_falls {ls : List Int} {ms : List Bool} (h : ∀ x ∈ ls, 0 ≤ x ∧ x ≤ 126) {a b : Nat} (hg : GrpOk ls ms a b) : ∃ p, fallB ((visF ls).map fun i => ((i : Nat) : Int)) p ((a : Int), (b : Int)) = true := by
  have hlt := hg.lt
  have hle := hg.le
  have hlog := log_ok ls ls.length
  obtain ⟨R, hR⟩ : ∃ R, logR ls ls.length = R := ⟨_, rfl⟩
  rw [hR] at hlog
  obtain ⟨j, s, hs, h1, h2, hnext⟩ := parts_find hlog.parts (a : Int) (by omega) (by omega)
  rw [List.getElem?_map] at hs
  obtain ⟨r, hr, hrs⟩ := Option.map_eq_some_iff.1 hs
  subst hrs
  simp only at h1 h2 hnext
  have hmem := List.mem_of_getElem? hr
  have hlev := hlog.lev r hmem a h1 h2
  have hb : (b : Int) ≤ r.2.1 := by
    rcases Int.lt_or_le r.2.1 (b : Int) with hlt2 | hge
    · exfalso
      obtain ⟨t, ht, t1, t2⟩ := hnext (by omega)
      rw [List.getElem?_map] at ht
      obtain ⟨q, hq, hqt⟩ := Option.map_eq_some_iff.1 ht
      subst hqt
      simp only at t1 t2
      have hne := hlog.unlike j r q hr hq
      have hm := (hg.marks r.2.1.toNat (by omega) (by omega)).2
      have hl2 := hlog.lev q (List.mem_of_getElem? hq) r.2.1.toNat (by omega) (by omega)
      rw [hl2, hlev] at hm
      exact hne hm.symm
    · exact hge
  have hodd : r.2.2 % 2 ≠ 0 := by rw [← hlev]; exact hg.odd
  have hin : r ∈ visG R := (visG_perm R).mem_iff.2 hmem
  obtain ⟨X, Y, hXY⟩ := List.append_of_mem hin
  have ho := runs_order h
  rw [hR, hXY] at ho
  have hright : rightB (r.1, r.2.1) = true := by
    have := (parts_mem hlog.parts).2 (r.1, r.2.1) (List.mem_map.2 ⟨r, hmem, rfl⟩)
    exact this.1
  have hr0 := of_decide_eq_true hright
  simp only at hr0
  have hpl : plI r = (List.range (r.2.1 - r.1).toNat).map (plK r) := by unfold plI; rw [if_pos hright]
  have hcat : (visF ls).map (fun i => ((i : Nat) : Int)) = ordI X ++ (plI r ++ ordI Y) := by
    rw [← ho]
    unfold ordI
    rw [List.flatMap_append, List.flatMap_cons]
  refine ⟨(ordI X).length + (r.2.1 - b).toNat, ?_⟩
  have hpll : (plI r).length = (r.2.1 - r.1).toNat := by rw [hpl]; simp
  have hlen : lenG ((a : Int), (b : Int)) = b - a := by unfold lenG; simp only; omega
  have hat : ∀ k, k < b - a → ((visF ls).map (fun i => ((i : Nat) : Int)))[(ordI X).length + (r.2.1 - b).toNat + k]? = some ((b : Int) - 1 - (k : Int)) := fun k hk => by
    rw [hcat, List.getElem?_append_right (by omega), List.getElem?_append_left (by rw [hpll]; omega), hpl, List.getElem?_map, List.getElem?_range (by omega), Option.map_some]
    unfold plK
    rw [if_pos hodd]
    congr 1
    omega
  unfold fallB
  rw [decide_eq_true_eq, hlen]
  refine ⟨?_, fun k hk => ?_⟩
  · have := (List.getElem?_eq_some_iff.1 (hat (b - a - 1) (by omega))).1
    omega
  · rw [List.getD_eq_getElem?_getD, hat k hk]
    rfl
section
variable {ls : List Int} {ms : List Bool} {o : List Int}
/-- Numbers of a group are turned in it, where it falls. -/
theorem tur_in (hf : ∀ s ∈ grpF ls ms, ∃ p, fallB o p s = true) {s : Sp} (hs : s ∈ grpF ls ms) {v : Int} (hv : s.1 ≤ v ∧ v < s.2) : turV o (grpF ls ms) v = s.1 + s.2 - 1 - v := by
  obtain ⟨p, hp⟩ := hf s hs
  have hit : hitA o s v = true := by
    unfold hitA
    rw [Bool.and_eq_true, decide_eq_true_eq, List.any_eq_true]
    refine ⟨hv, p, ?_, hp⟩
    have h := (of_decide_eq_true hp).1
    rw [List.mem_range]
    unfold lenG at h
    omega
  refine tur_some hit _ _ (fun t ht hh => ?_) (.inl hs)
  unfold hitA at hh
  rw [Bool.and_eq_true, decide_eq_true_eq] at hh
  exact grp_same ht hs hh.1 hv
theorem tur_out {v : Int} (h : ∀ s ∈ grpF ls ms, ¬ (s.1 ≤ v ∧ v < s.2)) : turV o (grpF ls ms) v = v := by
  refine tur_none _ _ fun s hs => ?_
  unfold hitA
  rw [Bool.and_eq_false_iff]
  exact .inl (decide_eq_false (h s hs))
/-- Turned twice a number is itself; it stays within. -/
theorem tur_twice (hf : ∀ s ∈ grpF ls ms, ∃ p, fallB o p s = true) (v : Int) : turV o (grpF ls ms) (turV o (grpF ls ms) v) = v := by
  by_cases h : ∃ s ∈ grpF ls ms, s.1 ≤ v ∧ v < s.2
  · obtain ⟨s, hs, hv⟩ := h
    rw [tur_in hf hs hv, tur_in hf hs (by omega)]
    omega
  · rw [tur_out fun s hs hv => h ⟨s, hs, hv⟩, tur_out fun s hs hv => h ⟨s, hs, hv⟩]
theorem tur_range (hf : ∀ s ∈ grpF ls ms, ∃ p, fallB o p s = true) {v : Int} (h0 : 0 ≤ v ∧ v < ls.length) : 0 ≤ turV o (grpF ls ms) v ∧ turV o (grpF ls ms) v < ls.length := by
  by_cases h : ∃ s ∈ grpF ls ms, s.1 ≤ v ∧ v < s.2
  · obtain ⟨s, hs, hv⟩ := h
    rw [tur_in hf hs hv]
    obtain ⟨a, b, rfl, hg⟩ := grp_mem hs
    have := hg.le
    simp only at hv ⊢
    omega
  · rw [tur_out fun s hs hv => h ⟨s, hs, hv⟩]
    exact h0
/-- What is answered is an order. -/
theorem acc_perm (hf : ∀ s ∈ grpF ls ms, ∃ p, fallB o p s = true) (hn : o.Nodup) (hr : ∀ v ∈ o, 0 ≤ v ∧ v < ls.length) : (accF o (grpF ls ms)).Nodup ∧ ∀ v ∈ accF o (grpF ls ms), 0 ≤ v ∧ v < ls.length := by
  rw [acc_map hn]
  constructor
  · unfold List.Nodup
    rw [List.pairwise_map]
    refine hn.imp fun {x y} hxy e => hxy ?_
    rw [← tur_twice hf x, e, tur_twice hf y]
  · intro v hv
    obtain ⟨x, hx, rfl⟩ := List.mem_map.1 hv
    exact tur_range hf (hr x hx)
/-- Each group rises from somewhere on. -/
theorem acc_rises (hf : ∀ s ∈ grpF ls ms, ∃ p, fallB o p s = true) (hn : o.Nodup) {s : Sp} (hs : s ∈ grpF ls ms) : ∃ p : Nat, ∀ k, k < lenG s → (accF o (grpF ls ms))[p + k]? = some (s.1 + (k : Int)) := by
  obtain ⟨p, hp⟩ := hf s hs
  refine ⟨p, fun k hk => ?_⟩
  rw [acc_map hn, List.getElem?_map, fall_at hp hk, Option.map_some, tur_in hf hs (by unfold lenG at hk; omega)]
  congr 1
  omega
end
theorem vis_all {ls : List Int} {ms : List Bool} (h : ∀ x ∈ ls, 0 ≤ x ∧ x ≤ 126) : ∀ s ∈ grpF ls ms, ∃ p, fallB ((visF ls).map fun i => ((i : Nat) : Int)) p s = true := fun s hs => by
  obtain ⟨a, b, rfl, hg⟩ := grp_mem hs
  exact vis_falls h hg
end Go.Proofs.Ytbnjflkafdkcpaa
/- The reference's Held, places, odd, turn, walked. -/
namespace Go.Proofs.Ytbnjflkafdkcpaa
open Go.RowKit

set_option maxRecDepth 100000 in
set_option maxHeartbeats 2000000 in
theorem roPlaces_any (n : Nat) (w : World) (hn : n ≤ 100000) :
    Calls Try.prog 33 #[.int .i64 n] w fun e w' => ∃ v, e = .returned v ∧ w'.ownsRow w.heap.size 3 1 v n ((List.range n).map fun i => .int .i64 ((i : Nat) : Int)) ∧ Below w.heap.size w w' := by
  go_enter Try.func33, Try.ntmps33
  go_wp2
  go_loopw [3, 4] (fun v i wr => ∃ k : Nat, k ≤ n ∧ i = .int .i64 (k : Int) ∧ wr.ownsRow w.heap.size 3 1 v k ((List.range k).map fun i => .int .i64 ((i : Nat) : Int)) ∧ Below w.heap.size w wr) (fun _ i _ => n - (intOf i).toNat)
  case atStart => exact ⟨0, Nat.zero_le _, rfl, ⟨rfl, .inl ⟨rfl, rfl⟩⟩, Below.refl _ _⟩
  case round =>
    obtain ⟨k, hk, rfl, hO, hb⟩ := hrel
    have HO := Lib.hid hO
    have HB := Lib.hid hb
    clear hO hb
    by_cases hlt : k < n
    · have hkn : (k : Int) < (n : Int) := by omega
      have hk5 : (k : Int) ≤ 100000 := by omega
      have hsz := HB.out.size
      go_wp2_with (first
        | (at_builtin; refine wpList_app rfl _ _ _ rfl intSliceM (by decide) _ k _ rfl (HO.out.alloc _) ⟨wr.heap.size, 0, none⟩ 1 1 [.int .i64 (k : Int)] rfl rfl (cells_new wr [.int .i64 (k : Int)] 3) (oneInt _ _) (by omega) (by unfold maxLen; omega) (Nat.le_trans hsz (by simp)) ?_; intro v1 w3 hown3 hg3 hat3)
        | fail)
      have HO3 : Hid (w3.ownsRow w.heap.size 3 1 v1 (k + 1) ((List.range (k + 1)).map fun i => .int .i64 ((i : Nat) : Int))) := Lib.hid (by rw [List.range_succ, List.map_append]; exact hown3)
      have HB3 := Lib.hid (below_app (HB.out.alloc hsz _) hg3 (HO.out.alloc _) (Nat.le_trans hsz (by simp)))
      clear hown3 hg3 hat3
      go_roundw
      case rel => exact ⟨k + 1, by omega, by go_num, HO3.out, HB3.out⟩
      case measure => simp [intOf]; omega
    · obtain rfl : k = n := by omega
      go_wp2
      go_ret
      exact ⟨_, rfl, HO.out, HB.out⟩
set_option maxRecDepth 100000 in
set_option maxHeartbeats 2000000 in
theorem roHeld_any (A : Option Addr) (n c : Nat) (ls : List Int) (w : World) (hr : Rd w 1 A n (ls.map (Value.int .i64))) (hn : n ≤ 100000) :
    Calls Try.prog 32 #[.slice A n c] w fun e w' => ∃ v, e = .returned v ∧ w'.ownsRow w.heap.size 3 1 v n ((ls.map heldF).map (Value.int .i64)) ∧ Below w.heap.size w w' := by
  have hl : ls.length = n := by simpa using hr.len1
  have HL := Lib.hid hl
  have HR := Lib.hid hr
  clear hl hr
  go_enter Try.func32, Try.ntmps32
  go_wp2
  go_loopw [3, 4] (fun v i wr => ∃ k : Nat, k ≤ n ∧ i = .int .i64 (k : Int) ∧ wr.ownsRow w.heap.size 3 1 v k (((ls.map heldF).take k).map (Value.int .i64)) ∧ Below w.heap.size w wr) (fun _ i _ => n - (intOf i).toNat)
  case atStart => exact ⟨0, Nat.zero_le _, rfl, ⟨rfl, .inl ⟨rfl, rfl⟩⟩, Below.refl _ _⟩
  case round =>
    obtain ⟨k, hk, rfl, hO, hb⟩ := hrel
    have HO := Lib.hid hO
    have HB := Lib.hid hb
    clear hO hb
    by_cases hlt : k < n
    · obtain ⟨x, hx⟩ : ∃ x, ls[k]? = some x := ⟨_, List.getElem?_eq_getElem (by rw [HL.out]; exact hlt)⟩
      obtain ⟨ad, rfl, hab, hcell⟩ := (HR.out.below HB.out).at_ hlt
      have cx : wr.cell? (ad.add k) = some (.int .i64 x) := hcell _ (by rw [List.getElem?_map, hx]; rfl)
      have hkn : (k : Int) < (n : Int) := by omega
      have hk0 : (0 : Int) ≤ (k : Int) := by omega
      have hk5 : (k : Int) ≤ 100000 := by omega
      have hsz := HB.out.size
      have HN := Lib.hid (show (ls.map heldF).take (k + 1) = (ls.map heldF).take k ++ [heldF x] by rw [List.take_add_one, List.getElem?_map, hx]; rfl)
      clear hx hcell
      by_cases h0 : x < 0
      · have hh : heldF x = 0 := by unfold heldF; omega
        rw [hh] at HN
        go_wp2_with (first
          | (at_builtin; refine wpList_app rfl _ _ _ rfl intSliceM (by decide) _ k _ rfl (HO.out.alloc _) ⟨wr.heap.size, 0, none⟩ 1 1 [.int .i64 0] rfl rfl (cells_new wr [.int .i64 0] 3) (oneInt _ _) (by omega) (by unfold maxLen; omega) (Nat.le_trans hsz (by simp)) ?_; intro v1 w3 hown3 hg3 hat3)
          | fail)
        have HO3 : Hid (w3.ownsRow w.heap.size 3 1 v1 (k + 1) (((ls.map heldF).take (k + 1)).map (Value.int .i64))) := Lib.hid (by rw [HN.out, List.map_append]; exact hown3)
        have HB3 := Lib.hid (below_app (HB.out.alloc hsz _) hg3 (HO.out.alloc _) (Nat.le_trans hsz (by simp)))
        clear hown3 hg3 hat3
        go_roundw
        case rel => exact ⟨k + 1, by omega, by go_num, HO3.out, HB3.out⟩
        case measure => simp [intOf]; omega
      · by_cases h1 : 126 < x
        · have hh : heldF x = 126 := by unfold heldF; omega
          rw [hh] at HN
          go_wp2_with (first
            | (at_builtin; refine wpList_app rfl _ _ _ rfl intSliceM (by decide) _ k _ rfl (HO.out.alloc _) ⟨wr.heap.size, 0, none⟩ 1 1 [.int .i64 126] rfl rfl (cells_new wr [.int .i64 126] 3) (oneInt _ _) (by omega) (by unfold maxLen; omega) (Nat.le_trans hsz (by simp)) ?_; intro v1 w3 hown3 hg3 hat3)
            | fail)
          have HO3 : Hid (w3.ownsRow w.heap.size 3 1 v1 (k + 1) (((ls.map heldF).take (k + 1)).map (Value.int .i64))) := Lib.hid (by rw [HN.out, List.map_append]; exact hown3)
          have HB3 := Lib.hid (below_app (HB.out.alloc hsz _) hg3 (HO.out.alloc _) (Nat.le_trans hsz (by simp)))
          clear hown3 hg3 hat3
          go_roundw
          case rel => exact ⟨k + 1, by omega, by go_num, HO3.out, HB3.out⟩
          case measure => simp [intOf]; omega
        · have hh : heldF x = x := by unfold heldF; omega
          rw [hh] at HN
          go_wp2_with (first
            | (at_builtin; refine wpList_app rfl _ _ _ rfl intSliceM (by decide) _ k _ rfl (HO.out.alloc _) ⟨wr.heap.size, 0, none⟩ 1 1 [.int .i64 x] rfl rfl (cells_new wr [.int .i64 x] 3) (oneInt _ _) (by omega) (by unfold maxLen; omega) (Nat.le_trans hsz (by simp)) ?_; intro v1 w3 hown3 hg3 hat3)
            | fail)
          have HO3 : Hid (w3.ownsRow w.heap.size 3 1 v1 (k + 1) (((ls.map heldF).take (k + 1)).map (Value.int .i64))) := Lib.hid (by rw [HN.out, List.map_append]; exact hown3)
          have HB3 := Lib.hid (below_app (HB.out.alloc hsz _) hg3 (HO.out.alloc _) (Nat.le_trans hsz (by simp)))
          clear hown3 hg3 hat3
          go_roundw
          case rel => exact ⟨k + 1, by omega, by go_num, HO3.out, HB3.out⟩
          case measure => simp [intOf]; omega
    · obtain rfl : k = n := by omega
      have HT := Lib.hid (show (ls.map heldF).take k = ls.map heldF from List.take_of_length_le (by rw [List.length_map, HL.out]; exact Nat.le_refl _))
      rw [HT.out] at HO
      go_wp2
      go_ret
      exact ⟨_, rfl, HO.out, HB.out⟩
theorem odd_next {ls : List Int} {v x : Int} {k : Nat} (h : ls[k]? = some x) (hd : ¬ (x % 2 = 1 ∧ x ≤ v)) : oddB (ls.drop k) v = oddB (ls.drop (k + 1)) v := by
  rw [List.drop_eq_getElem_cons (List.getElem?_eq_some_iff.1 h).1, (List.getElem?_eq_some_iff.1 h).2]
  unfold oddB
  rw [List.any_cons, decide_eq_false hd, Bool.false_or]
theorem odd_here {ls : List Int} {v x : Int} {k : Nat} (h : ls[k]? = some x) (hd : x % 2 = 1 ∧ x ≤ v) : oddB (ls.drop k) v = true := by
  rw [List.drop_eq_getElem_cons (List.getElem?_eq_some_iff.1 h).1, (List.getElem?_eq_some_iff.1 h).2]
  unfold oddB
  rw [List.any_cons, decide_eq_true hd, Bool.true_or]
set_option maxRecDepth 100000 in
set_option maxHeartbeats 2000000 in
theorem roOdd_any (A : Option Addr) (n c : Nat) (ls : List Int) (v : Int) (b : Bool) (hb : oddB ls v = b) (w : World) (hr : Rd w 1 A n (ls.map (Value.int .i64))) (hn : n ≤ 100000) (hp : ∀ x ∈ ls, 0 ≤ x) :
    Calls Try.prog 34 #[.slice A n c, .int .i64 v] w fun e w' => e = .returned (.bool b) ∧ ∃ q, w' = w.drewN q := by
  have hl : ls.length = n := by simpa using hr.len1
  have HL := Lib.hid hl
  have HR := Lib.hid hr
  have HV := Lib.hid hb
  have HP := Lib.hid hp
  clear hl hr hb hp
  go_enter Try.func34, Try.ntmps34
  go_wp2
  go_loopw [5] (fun j wr => ∃ k q : Nat, k ≤ n ∧ j = .int .i64 (k : Int) ∧ oddB (ls.drop k) v = b ∧ wr = w.drewN q) (fun j _ => n - (intOf j).toNat)
  case atStart => exact ⟨0, 0, Nat.zero_le _, rfl, HV.out, rfl⟩
  case round =>
    obtain ⟨k, q, hk, rfl, he, rfl⟩ := hrel
    have HE := Lib.hid he
    clear he
    by_cases hlt : k < n
    · obtain ⟨x, hx⟩ : ∃ x, ls[k]? = some x := ⟨_, List.getElem?_eq_getElem (by rw [HL.out]; exact hlt)⟩
      obtain ⟨ad, rfl, hab, hcell⟩ := HR.out.at_ hlt
      have cx : w.cell? (ad.add k) = some (.int .i64 x) := hcell _ (by rw [List.getElem?_map, hx]; rfl)
      have hx0 := HP.out x (List.mem_of_getElem? hx)
      have HX := Lib.hid hx
      have hkn : (k : Int) < (n : Int) := by omega
      have hk0 : (0 : Int) ≤ (k : Int) := by omega
      have hk5 : (k : Int) ≤ 100000 := by omega
      have htm : Int.tmod x 2 = x % 2 := Int.tmod_eq_emod_of_nonneg hx0
      clear hx hcell
      by_cases h1 : x % 2 = 1
      · rw [h1] at htm
        by_cases h2 : x ≤ v
        · have d2 : decide (x ≤ v) = true := decide_eq_true h2
          obtain rfl : true = b := (odd_here HX.out ⟨h1, h2⟩).symm.trans HE.out
          clear h1 h2
          go_wp2
          go_ret
          exact ⟨rfl, q, rfl⟩
        · have d2 : decide (x ≤ v) = false := decide_eq_false h2
          have HN := Lib.hid ((odd_next HX.out (fun h => h2 h.2)).symm.trans HE.out)
          clear h1 h2
          go_wp2
          go_roundw
          case rel => exact ⟨k + 1, q, by omega, by go_num, HN.out, rfl⟩
          case measure => simp [intOf]; omega
      · have h10 : x % 2 = 0 := by omega
        rw [h10] at htm
        have HN := Lib.hid ((odd_next (v := v) HX.out (fun h => h1 h.1)).symm.trans HE.out)
        clear h1 h10
        go_wp2
        go_roundw
        case rel => exact ⟨k + 1, q, by omega, by go_num, HN.out, rfl⟩
        case measure => simp [intOf]; omega
    · have hkn : ¬ (k : Int) < (n : Int) := by omega
      have he := HE.out
      rw [List.drop_eq_nil_of_le (by rw [HL.out]; omega)] at he
      obtain rfl : false = b := he
      go_wp2
      go_ret
      exact ⟨rfl, q, rfl⟩
end Go.Proofs.Ytbnjflkafdkcpaa
/- The reference's turn, walked. -/
namespace Go.Proofs.Ytbnjflkafdkcpaa
open Go.RowKit

def nV (xs : List Nat) : List Value := xs.map fun i => .int .i64 ((i : Nat) : Int)
theorem nV_len (xs : List Nat) : (nV xs).length = xs.length := by simp [nV]
theorem nV_at {xs : List Nat} {k i : Nat} (h : xs[k]? = some i) : (nV xs)[k]? = some (.int .i64 (i : Int)) := by unfold nV; rw [List.getElem?_map, h]; rfl
theorem nV_swap (a mm r : List Nat) (x y : Nat) : ((nV (a ++ (x :: mm ++ [y]) ++ r)).set a.length (.int .i64 (y : Int))).set (a.length + (mm.length + 1)) (.int .i64 (x : Int)) = nV ((a ++ [y]) ++ mm ++ (x :: r)) := by
  have e1 : (nV (a ++ (x :: mm ++ [y]) ++ r)).set a.length (.int .i64 (y : Int)) = nV ((a ++ [y]) ++ mm ++ (y :: r)) := by
    unfold nV
    rw [← List.map_set]
    congr 1
    rw [List.append_assoc, List.set_append_right _ _ (Nat.le_refl _), Nat.sub_self]
    simp
  rw [e1]
  unfold nV
  rw [← List.map_set]
  congr 1
  rw [List.set_append_right _ _ (by simp)]
  simp
theorem two_ends {m : List Nat} (h : 1 < m.length) : ∃ x mm y, m = x :: mm ++ [y] := by
  cases m with
  | nil => simp at h
  | cons x l =>
    refine ⟨x, l.dropLast, l.getLast (by intro e; subst e; simp at h), ?_⟩
    rw [List.cons_append, List.dropLast_concat_getLast]
set_option maxRecDepth 100000 in
set_option maxHeartbeats 2000000 in
theorem roTurn_any (g n cv : Nat) (a m r : List Nat) (base : Nat) (w : World) (ho : w.ownsRow base 3 1 (.slice (some ⟨g, 0, none⟩) n cv) n (nV (a ++ m ++ r))) (_hcv : n ≤ cv) (hn : n ≤ 100000) :
    Calls Try.prog 35 #[.slice (some ⟨g, 0, none⟩) n cv, .int .i64 (a.length : Nat), .int .i64 ((a.length + m.length : Nat) : Int)] w fun e w' => (∃ v, e = .returned v) ∧ w'.ownsRow base 3 1 (.slice (some ⟨g, 0, none⟩) n cv) n (nV (a ++ m.reverse ++ r)) ∧ Below base w w' := by
  have HL0 := Lib.hid ho
  have hlen : a.length + m.length + r.length = n := by have := ho.1; rw [nV_len] at this; simp at this; omega
  clear ho
  go_enter Try.func35, Try.ntmps35
  go_wp2
  go_loopw [1, 2] (fun lo hi wr => ∃ a' m' r' : List Nat, lo = .int .i64 (a'.length : Nat) ∧ hi = .int .i64 ((a'.length + m'.length : Nat) : Int) ∧ a'.length + m'.length + r'.length = n ∧ a ++ m.reverse ++ r = a' ++ m'.reverse ++ r' ∧ wr.ownsRow base 3 1 (.slice (some ⟨g, 0, none⟩) n cv) n (nV (a' ++ m' ++ r')) ∧ Below base w wr) (fun lo hi _ => (intOf hi - intOf lo).toNat)
  case atStart => exact ⟨a, m, r, rfl, rfl, hlen, rfl, HL0.out, Below.refl _ _⟩
  case round =>
    obtain ⟨a', m', r', rfl, rfl, hl, he, hO, hb⟩ := hrel
    have HE := Lib.hid he
    have HO := Lib.hid hO
    have HB := Lib.hid hb
    clear he hO hb
    by_cases hm : 1 < m'.length
    · obtain ⟨x, mm, y, rfl⟩ := two_ends hm
      obtain ⟨la, hla⟩ : ∃ la, a'.length = la := ⟨_, rfl⟩
      obtain ⟨lm, hlm⟩ : ∃ lm, mm.length = lm := ⟨_, rfl⟩
      have hml : (x :: mm ++ [y]).length = lm + 2 := by simp; omega
      have HLA := Lib.hid hla
      have HLM := Lib.hid hlm
      rw [hml] at hl
      rw [hml, hla]
      have cx : wr.cell? ⟨g, la, none⟩ = some (.int .i64 (x : Int)) := by
        rw [HO.out.cellAt la (by omega), nV_at]
        rw [List.append_assoc, List.getElem?_append_right (by omega), show la - a'.length = 0 by omega]
        rfl
      have cy : wr.cell? ⟨g, la + (lm + 1), none⟩ = some (.int .i64 (y : Int)) := by
        rw [HO.out.cellAt _ (by omega), nV_at]
        rw [List.append_assoc, List.getElem?_append_right (by omega), show la + (lm + 1) - a'.length = lm + 1 by omega, List.getElem?_append_left (by rw [hml]; omega), List.cons_append, List.getElem?_cons_succ, List.getElem?_append_right (by omega), show lm - mm.length = 0 by omega]
        rfl
      have fx := (own_slot HO.out (j := la) (by omega)).2
      have HO1 := Lib.hid ((HO.out.stored la (.int .i64 (y : Int))).1)
      obtain ⟨⟨u1, cu1⟩, fu1⟩ := own_slot HO1.out (j := la + (lm + 1)) (by omega)
      have fy := (own_slot HO.out (j := la + (lm + 1)) (by omega)).2
      have HO2 := Lib.hid (show ((wr.setCell ⟨g, la, none⟩ (.int .i64 (y : Int))).setCell ⟨g, la + (lm + 1), none⟩ (.int .i64 (x : Int))).ownsRow base 3 1 (.slice (some ⟨g, 0, none⟩) n cv) n (nV ((a' ++ [y]) ++ mm ++ (x :: r'))) by
        have h := (HO1.out.stored (la + (lm + 1)) (.int .i64 (x : Int))).1
        rw [← nV_swap a' mm r' x y, HLA.out, HLM.out]
        exact h)
      have HB2 := Lib.hid ((HB.out.setCell (p := ⟨g, la, none⟩) (HO.out.lt g rfl).1 (.int .i64 (y : Int))).setCell (p := ⟨g, la + (lm + 1), none⟩) (HO.out.lt g rfl).1 (.int .i64 (x : Int)))
      have HE2 := Lib.hid (HE.out.trans (show a' ++ (x :: mm ++ [y]).reverse ++ r' = (a' ++ [y]) ++ mm.reverse ++ (x :: r') by simp))
      obtain ⟨lb, hlb⟩ : ∃ lb, la + (lm + 1) = lb := ⟨_, rfl⟩
      rw [hlb] at cy cu1 fu1 fy HO2 HB2
      rw [show la + (lm + 2) = lb + 1 by omega]
      have i2 : (1 : Int) < ((lb : Int) + 1) - (la : Int) := by omega
      have i3 : (0 : Int) ≤ (la : Int) := by omega
      have i4 : (la : Int) < (n : Int) := by omega
      have i5 : (0 : Int) ≤ (lb : Int) := by omega
      have i6 : (lb : Int) < (n : Int) := by omega
      have i7 : ((lb : Int) + 1) - 1 = (lb : Int) := by omega
      have HLB := Lib.hid hlb
      clear hlm hml hla hlb
      go_wp2
      go_region
      have HO3 := Lib.hid (own_below HO2.out (Below.refl _ _).drew)
      have HB3 := Lib.hid HB2.out.drew
      go_wp2
      go_roundw
      case rel =>
        have q1 := HLA.out
        have q2 := HLM.out
        have q3 := HLB.out
        have p1 : (la : Int) + 1 = (((a' ++ [y]).length : Nat) : Int) := by simp; omega
        have p2 : (lb : Int) = (((a' ++ [y]).length + mm.length : Nat) : Int) := by simp; omega
        have p3 : (a' ++ [y]).length + mm.length + (x :: r').length = n := by simp; omega
        exact ⟨a' ++ [y], mm, x :: r', by rw [← p1], by rw [← p2], p3, HE2.out, HO3.out, HB3.out⟩
      case measure => simp [intOf]; have := HLB.out; omega
    · have i2 : ¬ (1 : Int) < ((a'.length + m'.length : Nat) : Int) - (a'.length : Int) := by omega
      have HT := Lib.hid (show a ++ m.reverse ++ r = a' ++ m' ++ r' by
        rw [HE.out]
        congr 2
        match m', hm with
        | [], _ => rfl
        | [z], _ => rfl
        | _ :: _ :: _, h => simp at h)
      go_wp2
      go_end0
      exact ⟨⟨_, rfl⟩, by rw [← List.append_assoc, HT.out]; exact HO.out, HB.out⟩
end Go.Proofs.Ytbnjflkafdkcpaa
