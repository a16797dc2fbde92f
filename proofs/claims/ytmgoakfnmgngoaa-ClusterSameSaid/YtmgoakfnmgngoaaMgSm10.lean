/- Texts of one claim, one behind the other. -/
import Derived.Deep.RegionHeld3
import Derived.Deep.RegionLaw
import Derived.Test.YtmgoakfnmgngoaaMgSm2
/- The reference's whole: joins all that lies between places that belong together. -/
namespace Go.Proofs.Ytmgoakfnmgngoaa
open Go.RowKit

/-- What hull tells of a number that stands at k: a span within the list, from at most k to more than k. -/
theorem hullFrom_up (v : Int) : ∀ (l : List Int) (k : Nat) (a b : Nat), a ≤ b → b ≤ k → ∃ a' b' : Nat, hullFrom v l k ((a : Int), (b : Int)) = ((a' : Int), (b' : Int)) ∧ a' ≤ b' ∧ b' ≤ k + l.length ∧ b ≤ b' ∧ (a < b → a' < b') ∧ (∀ x ∈ l, (x == v) = true → a' < b')
  | [], k, a, b, h, hk => ⟨a, b, rfl, h, by simpa using hk, Nat.le_refl _, fun h => h, by simp⟩
  | x :: l, k, a, b, h, hk => by
    cases hx : x == v with
    | false =>
      rw [hullFrom_no hx]
      obtain ⟨a', b', e, h1, h2, h3, h4, h5⟩ := hullFrom_up v l (k + 1) a b h (by omega)
      refine ⟨a', b', e, h1, by simp; omega, h3, h4, ?_⟩
      intro y hy hyv
      rcases List.mem_cons.1 hy with rfl | hy
      · rw [hx] at hyv; cases hyv
      · exact h5 y hy hyv
    | true =>
      cases hb : (b : Int) == 0 with
      | true =>
        rw [hullFrom_first hx hb, show ((k : Int) + 1) = ((k + 1 : Nat) : Int) by omega]
        obtain ⟨a', b', e, h1, h2, h3, h4, h5⟩ := hullFrom_up v l (k + 1) k (k + 1) (by omega) (by omega)
        exact ⟨a', b', e, h1, by simp; omega, by omega, fun _ => h4 (by omega), fun y _ _ => h4 (by omega)⟩
      | false =>
        rw [hullFrom_more hx hb, show ((k : Int) + 1) = ((k + 1 : Nat) : Int) by omega]
        obtain ⟨a', b', e, h1, h2, h3, h4, h5⟩ := hullFrom_up v l (k + 1) a (k + 1) (by omega) (by omega)
        exact ⟨a', b', e, h1, by simp; omega, by omega, fun _ => h4 (by omega), fun y _ _ => h4 (by omega)⟩
theorem hullN_at {xs : List Int} {k : Nat} {v : Int} (h : xs[k]? = some v) : ∃ a b : Nat, hullN xs v = ((a : Int), (b : Int)) ∧ a < b ∧ b ≤ xs.length := by
  obtain ⟨a, b, e, h1, h2, h3, h4, h5⟩ := hullFrom_up v xs 0 0 0 (Nat.le_refl _) (Nat.le_refl _)
  exact ⟨a, b, e, h5 v (List.mem_of_getElem? h) (by simp), by omega⟩

theorem grown_of_below {w w' : World} (row : Option Nat) (hb : Below w.heap.size w w') : w.grownBy w' row := ⟨hb.os, hb.tape, hb.output, hb.size, fun k hk _ => hb.block k hk⟩
theorem own_belowS {w w' : World} {base : Nat} {e : TypeId} {size n : Nat} {v : Value} {xs : List Value} (h : w.ownsRow base e size v n xs) (hb : Below w.heap.size w w') : w'.ownsRow base e size v n xs :=
  h.kept (grown_of_below none hb) (Classical.em _)

theorem below_drewL {w w' : World} (h : Below w.drew.heap.size w.drew w') : Below w.heap.size w w' := ⟨h.os, h.tape, h.output, h.size, h.block⟩

/-- One step of whole: the list with its hull set to the least, and whether something changed. -/
def wholeStep (s : List Int × Bool) (k : Nat) : List Int × Bool :=
  let h := hullN s.1 (s.1.getD k 0)
  let y := leastS s.1 h.1.toNat h.2.toNat
  (setTo s.1 h.1.toNat h.2.toNat y, changedB s.1 h.1.toNat h.2.toNat y || s.2)
def wholeFrom (m : Nat) (k : Nat) (s : List Int × Bool) : List Int × Bool := (List.range' k (m - k)).foldl wholeStep s
theorem wholeFrom_succ {m k : Nat} (s : List Int × Bool) (h : k < m) : wholeFrom m k s = wholeFrom m (k + 1) (wholeStep s k) := by
  unfold wholeFrom
  rw [show m - k = (m - (k + 1)) + 1 by omega, List.range'_succ]
  rfl
theorem wholeFrom_end (m : Nat) (s : List Int × Bool) : wholeFrom m m s = s := by simp [wholeFrom]
theorem wholeStep_at {xs : List Int} {b : Bool} {k lo hi : Nat} {v : Int} (h : xs[k]? = some v) (hh : hullN xs v = ((lo : Int), (hi : Int))) : wholeStep (xs, b) k = (setTo xs lo hi (leastS xs lo hi), changedB xs lo hi (leastS xs lo hi) || b) := by
  unfold wholeStep
  simp only [List.getD_eq_getElem?_getD, h, Option.getD_some, hh, Int.toNat_natCast]

set_option maxRecDepth 100000 in
set_option maxHeartbeats 4000000 in
theorem refWhole_any (base g c n : Nat) (xs : List Int) (w : World) (hxn : xs.length = n) (hown : w.ownsRow base 3 1 (.slice (some ⟨g, 0, none⟩) n c) n (xs.map (Value.int .i64))) (hbase : base ≤ w.heap.size) (hn : n ≤ 100000000) :
    Calls Try.prog 85 #[.slice (some ⟨g, 0, none⟩) n c] w fun e w' =>
      e = .returned (.bool (wholeFrom n 0 (xs, false)).2) ∧ w'.ownsRow base 3 1 (.slice (some ⟨g, 0, none⟩) n c) n ((wholeFrom n 0 (xs, false)).1.map (Value.int .i64)) ∧ w.grownBy w' (some g) := by
  have HL := Lib.hid hxn
  clear hxn
  go_enter Try.func85, Try.ntmps85
  go_wp2
  go_loopw [3, 4] (fun b i wr => ∃ (k : Nat) (ys : List Int) (bb : Bool), k ≤ n ∧ i = .int .i64 k ∧ b = .bool bb ∧ wholeFrom n 0 (xs, false) = wholeFrom n k (ys, bb) ∧ ys.length = n ∧ wr.ownsRow base 3 1 (.slice (some ⟨g, 0, none⟩) n c) n (ys.map (Value.int .i64)) ∧ w.grownBy wr (some g)) (fun _ i _ => n - (intOf i).toNat)
  case atStart =>
    exact ⟨0, xs, false, Nat.zero_le _, rfl, rfl, rfl, HL.out, hown, World.grownBy.refl w _⟩
  case round =>
    obtain ⟨k, ys, bb, hk, rfl, rfl, hh, hyl, hownr, hgr⟩ := hrel
    have HH := Lib.hid hh
    have HY := Lib.hid hyl
    clear hh hyl
    by_cases hlt : k < n
    · obtain ⟨v, hvk⟩ : ∃ v, ys[k]? = some v := ⟨_, List.getElem?_eq_getElem (by rw [HY.out]; omega)⟩
      have ck : wr.cell? ⟨g, k, none⟩ = some (.int .i64 v) := by
        rw [hownr.cellAt k (by omega), List.getElem?_map, hvk]; rfl
      obtain ⟨lo, hi, hhu, hlh, hhn⟩ := hullN_at hvk
      rw [HY.out] at hhn
      have HW := Lib.hid (wholeStep_at (b := bb) hvk hhu)
      have HU := Lib.hid hhu
      clear hvk hhu
      go_wp2_with fail
      refine (refHullN_any (some ⟨g, 0, none⟩) n c ys v wr (Rd.of_own hownr) hn).mono ?_
      rintro e w1 ⟨rfl, hb1⟩
      rw [HU.out]
      have hown1 := own_belowS hownr hb1
      have hg1 := grown_two hgr (grown_of_below (some g) hb1)
      have hs1 : wr.heap.size ≤ w1.heap.size := hb1.size
      clear hownr hgr hb1 ck
      dsimp only
      go_wp2_with fail
      have hown2 := hown1.alloc (Obj.cells #[.int .i64 (lo : Int), .int .i64 (hi : Int)] 31)
      have hg2 := grown_two hg1 (World.grownBy_alloc w1 (Obj.cells #[.int .i64 (lo : Int), .int .i64 (hi : Int)] 31) (some g))
      have e0 : (w1.alloc (Obj.cells #[.int .i64 (lo : Int), .int .i64 (hi : Int)] 31)).cell? ⟨w1.heap.size, 0, none⟩ = some (.int .i64 (lo : Int)) := by rw [World.cell?_alloc_at _ _ _ _ rfl]; rfl
      have e1 : (w1.alloc (Obj.cells #[.int .i64 (lo : Int), .int .i64 (hi : Int)] 31)).cell? ⟨w1.heap.size, 1, none⟩ = some (.int .i64 (hi : Int)) := by rw [World.cell?_alloc_at _ _ _ _ rfl]; rfl
      have hgb : g < w1.heap.size := (hown1.lt g rfl).2
      have hbase1 : base ≤ w1.heap.size := Nat.le_trans hbase hg1.size
      have hbase2 : base ≤ (w1.alloc (Obj.cells #[.int .i64 (lo : Int), .int .i64 (hi : Int)] 31)).heap.size := Nat.le_trans hbase1 (by simp)
      generalize (w1.alloc (Obj.cells #[.int .i64 (lo : Int), .int .i64 (hi : Int)] 31)) = w2 at *
      generalize w1.heap.size = b at *
      clear hown1 hg1 hs1
      have hown2d := hown2.drew
      have hrd2 := Rd.of_own hown2d
      have hlo : lo < n := by omega
      have hle : lo ≤ hi := by omega
      have hbw : b < w2.heap.size := cell_lt e0
      have hbg : some b ≠ some g := by simp; omega
      cases hcb : changedB ys lo hi (leastS ys lo hi) with
      | true =>
        first
          | (go_region_law (first
              | (go_simp; go_at_call 83; refine (refLeast_any (some ⟨g, 0, none⟩) n c lo hi ys _ hrd2 hlo hhn hn).mono ?_; rintro e w3 ⟨rfl, hbL⟩; have x0 := cell_below hbL e0; have x1 := cell_below hbL e1)
              | (go_simp; go_at_call 84; refine (refSame_any base g c n lo hi ys (leastS ys lo hi) _ HY.out (own_belowS hown2d hbL) (Nat.le_trans hbase2 hbL.size) hle hhn hn).mono ?_; rintro e w4 ⟨rfl, hown4, hg4⟩; rw [hcb]; have y0 := (hg4.cell_far _ (Nat.lt_of_lt_of_le hbw hbL.size) hbg).trans x0; have y1 := (hg4.cell_far _ (Nat.lt_of_lt_of_le hbw hbL.size) hbg).trans x1)
              | fail))
          | fail
        all_goals
          have HW2 := Lib.hid (show wholeStep (ys, bb) k = (setTo ys lo hi (leastS ys lo hi), true) by rw [HW.out, hcb]; rfl)
          have HT := Lib.hid (show (setTo ys lo hi (leastS ys lo hi)).length = n by rw [setTo_len _ hle (by rw [HY.out]; exact hhn), HY.out])
          have hg5 := grown_two (grown_two hg2 (grown_of_below (some g) (below_drewL hbL))) hg4
          go_wp2
          go_roundw
          case rel => exact ⟨k + 1, _, true, by omega, by go_num, rfl, by rw [HH.out, wholeFrom_succ _ hlt, HW2.out], HT.out, hown4, hg5⟩
          case measure => simp [intOf]; omega
      | false =>
        go_region_held3 (fun w' => w'.cell? ⟨b, 0, none⟩ = some (.int .i64 (lo : Int)) ∧ w'.cell? ⟨b, 1, none⟩ = some (.int .i64 (hi : Int)))
          (first | go_keep | exact ⟨cell_below hbL e0, cell_below hbL e1⟩ | exact ⟨(hg4.cell_far _ (Nat.lt_of_lt_of_le hbw hbL.size) hbg).trans (cell_below hbL e0), (hg4.cell_far _ (Nat.lt_of_lt_of_le hbw hbL.size) hbg).trans (cell_below hbL e1)⟩)
          (first
            | (go_at_call 83; refine (refLeast_any (some ⟨g, 0, none⟩) n c lo hi ys _ hrd2 hlo hhn hn).mono ?_; rintro e w3 ⟨rfl, hbL⟩)
            | (go_at_call 84; refine (refSame_any base g c n lo hi ys (leastS ys lo hi) _ HY.out (own_belowS hown2d hbL) (Nat.le_trans hbase2 hbL.size) hle hhn hn).mono ?_; rintro e w4 ⟨rfl, hown4, hg4⟩; rw [hcb]))
        have HW2 := Lib.hid (show wholeStep (ys, bb) k = (setTo ys lo hi (leastS ys lo hi), bb) by rw [HW.out, hcb]; rfl)
        have HT := Lib.hid (show (setTo ys lo hi (leastS ys lo hi)).length = n by rw [setTo_len _ hle (by rw [HY.out]; exact hhn), HY.out])
        have hg5 := grown_two (grown_two hg2 (grown_of_below (some g) (below_drewL hbL))) hg4
        go_wp2
        go_roundw
        case rel => exact ⟨k + 1, _, bb, by omega, by go_num, rfl, by rw [HH.out, wholeFrom_succ _ hlt, HW2.out], HT.out, hown4, hg5⟩
        case measure => simp [intOf]; omega
    · have HZ := Lib.hid (show wholeFrom n 0 (xs, false) = (ys, bb) by rw [HH.out, show k = n by omega, wholeFrom_end])
      go_wp2
      go_ret
      exact ⟨retB (by rw [HZ.out]), by rw [HZ.out]; exact hownr, hgr⟩
end Go.Proofs.Ytmgoakfnmgngoaa
