/- Texts of one claim, one behind the other. -/
import Derived.Laws.MakeOwn
import Derived.BigRegion
import Derived.Laws.StructEq
import Derived.Test.YtnmefomipldalaaMgN1
import Derived.Test.YtnmefomipldalaaMgN2
/- The reference's least of the numbers of a span, and the hull of a number. -/
namespace Go.Proofs.Ytnmefomipldalaa
open Go.RowKit

def leastStep (n x : Int) : Int := if x < n then x else n
def leastS (xs : List Int) (lo hi : Nat) : Int := ((xs.drop lo).take (hi - lo)).foldl leastStep (xs.getD lo 0)
theorem takeCons {xs : List Int} {k hi : Nat} {x : Int} (h : xs[k]? = some x) (hk : k < hi) : (xs.drop k).take (hi - k) = x :: (xs.drop (k + 1)).take (hi - (k + 1)) := by
  rw [dropCons h, show hi - k = (hi - (k + 1)) + 1 by omega, List.take_succ_cons]

set_option maxRecDepth 100000 in
set_option maxHeartbeats 1000000 in
theorem refLeast_any (A : Option Addr) (n c lo hi : Nat) (xs : List Int) (w : World) (hr : Rd w 1 A n (xs.map (Value.int .i64))) (hlt : lo < n) (hhn : hi ≤ n) (hn : n ≤ 100000000) :
    Calls Try.prog 83 #[.slice A n c, .agg #[.int .i64 (lo : Int), .int .i64 (hi : Int)]] w fun e w' => e = .returned (.int .i64 (leastS xs lo hi)) ∧ Below w.heap.size w w' := by
  have hlen : xs.length = n := by have := hr.1; rw [List.length_map] at this; omega
  have HL := Lib.hid hlen
  clear hlen
  obtain ⟨x0, hx0⟩ : ∃ x, xs[lo]? = some x := ⟨_, List.getElem?_eq_getElem (by rw [HL.out]; exact hlt)⟩
  obtain ⟨ad, rfl, hab, hc0⟩ := hr.at_ hlt
  have c0 : w.cell? (ad.add lo) = some (.int .i64 x0) := hc0 _ (by rw [List.getElem?_map, hx0]; rfl)
  have HS := Lib.hid (show leastS xs lo hi = ((xs.drop lo).take (hi - lo)).foldl leastStep x0 by unfold leastS; rw [List.getD_eq_getElem?_getD, hx0]; rfl)
  clear hx0 hc0
  have hba : Below w.heap.size w (w.alloc (Obj.cells #[.int .i64 (lo : Int), .int .i64 (hi : Int)] 31)) := (Below.refl _ _).alloc (Nat.le_refl _) _
  have c0a := (hba.cell (by rw [blockAdd]; exact hab)).trans c0
  go_enter Try.func83, Try.ntmps83
  go_wp2
  go_loop [5, 6] (fun y i => ∃ (k : Nat) (y' : Int), lo ≤ k ∧ (k ≤ hi ∨ k = lo) ∧ i = .int .i64 k ∧ y = .int .i64 y' ∧ leastS xs lo hi = ((xs.drop k).take (hi - k)).foldl leastStep y') (fun _ i => hi - (intOf i).toNat)
  case atStart => exact ⟨lo, x0, Nat.le_refl _, .inr rfl, rfl, rfl, HS.out⟩
  case round =>
    obtain ⟨k, y, hlk, hk, rfl, rfl, hh⟩ := hrel
    have HH := Lib.hid hh
    clear hh
    by_cases hlt : k < hi
    · obtain ⟨x, hxk⟩ : ∃ x, xs[k]? = some x := ⟨_, List.getElem?_eq_getElem (by rw [HL.out]; omega)⟩
      have HD := Lib.hid (takeCons hxk hlt)
      obtain ⟨ad', e', _, hck⟩ := hr.at_ (k := k) (by omega)
      injection e' with e'
      subst e'
      have ck : w.cell? (ad.add k) = some (.int .i64 x) := hck _ (by rw [List.getElem?_map, hxk]; rfl)
      have cka := (hba.cell (by rw [blockAdd]; exact hab)).trans ck
      clear hxk hck
      go_wp2
      all_goals
        go_round
        case rel => exact ⟨k + 1, leastStep y x, by omega, .inl (by omega), by go_num, by first | rfl | (simp only [leastStep]; first | rw [if_pos ‹_›] | rw [if_neg ‹_›] | rw [if_neg (by omega)]), by rw [HH.out, HD.out]; rfl⟩
        case measure => simp [intOf]; omega
    · have HZ := Lib.hid (show leastS xs lo hi = y by rw [HH.out, show hi - k = 0 by omega]; rfl)
      go_wp2
      go_ret
      exact ⟨retI HZ.out.symm, hba⟩
end Go.Proofs.Ytnmefomipldalaa
/- The reference's hull of a number. -/
namespace Go.Proofs.Ytnmefomipldalaa
open Go.RowKit

/-- From the first place with a number to behind the last one. -/
def hullFrom (v : Int) : List Int → Nat → Sp → Sp
  | [], _, st => st
  | x :: l, k, st => hullFrom v l (k + 1) (if (x == v) = true then (if (st.2 == 0) = true then (k : Int) else st.1, (k : Int) + 1) else st)
def hullN (xs : List Int) (v : Int) : Sp := hullFrom v xs 0 (0, 0)
theorem hullFrom_no {v x : Int} {l : List Int} {k : Nat} {st : Sp} (h : (x == v) = false) : hullFrom v (x :: l) k st = hullFrom v l (k + 1) st := by
  rw [hullFrom, if_neg (by rw [h]; decide)]
theorem hullFrom_first {v x a b : Int} {l : List Int} {k : Nat} (h : (x == v) = true) (hb : (b == 0) = true) : hullFrom v (x :: l) k (a, b) = hullFrom v l (k + 1) (k, (k : Int) + 1) := by
  rw [hullFrom, if_pos h, if_pos hb]
theorem hullFrom_more {v x a b : Int} {l : List Int} {k : Nat} (h : (x == v) = true) (hb : (b == 0) = false) : hullFrom v (x :: l) k (a, b) = hullFrom v l (k + 1) (a, (k : Int) + 1) := by
  rw [hullFrom, if_pos h, if_neg (by simp only [hb]; decide)]
theorem SpanBlk.put1 {w : World} {b : Nat} {s : Sp} (h : SpanBlk w b s) (y : Int) : SpanBlk (w.setCell ⟨b, 1, none⟩ (.int .i64 y)) b (s.1, y) := by
  obtain ⟨h0, h1, h2, h3⟩ := h
  refine ⟨?_, World.cell?_setCell_same (h := h1) .., ?_, ?_⟩
  · exact (World.cell?_setCell_other (h := by simp) ..).trans h0
  · rw [World.frozen?_setCell]; exact h2
  · rw [World.frozen?_setCell]; exact h3
theorem SpanBlk.far1 {w : World} {b b' : Nat} {s : Sp} (h : SpanBlk w b s) (hne : b ≠ b') (v : Value) : SpanBlk (w.setCell ⟨b', 1, none⟩ v) b s := by
  obtain ⟨h0, h1, h2, h3⟩ := h
  refine ⟨?_, ?_, ?_, ?_⟩
  · exact (World.cell?_setCell_other (h := by first | (simp; done) | (simp; omega)) ..).trans h0
  · exact (World.cell?_setCell_other (h := by first | (simp; done) | (simp; omega)) ..).trans h1
  · rw [World.frozen?_setCell]; exact h2
  · rw [World.frozen?_setCell]; exact h3

set_option maxRecDepth 100000 in
set_option maxHeartbeats 2000000 in
theorem refHullN_any (A : Option Addr) (n c : Nat) (xs : List Int) (v : Int) (w : World) (hr : Rd w 1 A n (xs.map (Value.int .i64))) (hn : n ≤ 100000000) :
    Calls Try.prog 55 #[.slice A n c, .int .i64 v] w fun e w' => e = .returned (.agg #[.int .i64 (hullN xs v).1, .int .i64 (hullN xs v).2]) ∧ Below w.heap.size w w' := by
  have hlen : xs.length = n := by have := hr.1; rw [List.length_map] at this; omega
  have HL := Lib.hid hlen
  clear hlen
  go_enter Try.func55, Try.ntmps55
  go_wp2
  go_loopw [6] (fun i wr => ∃ (k : Nat) (st : Sp), k ≤ n ∧ i = .int .i64 k ∧ hullN xs v = hullFrom v (xs.drop k) k st ∧ SpanBlk wr w.heap.size (0, 0) ∧ SpanBlk wr (w.heap.size + 1) st ∧ w.heap.size + 1 < wr.heap.size ∧ Below w.heap.size w wr) (fun i _ => n - (intOf i).toNat)
  case atStart =>
    refine ⟨0, (0, 0), Nat.zero_le _, rfl, rfl, ?_, ?_, by simp, ((Below.refl _ _).alloc (Nat.le_refl _) _).alloc (by simp) _⟩
    · refine ⟨?_, ?_, ?_, ?_⟩ <;> simp [go_sem]
    · refine ⟨?_, ?_, ?_, ?_⟩ <;> simp [go_sem]
  case round =>
    obtain ⟨k, st, hk, rfl, hh, ⟨r0, r1, r2, r3⟩, ⟨t0, t1, t2, t3⟩, hsz, hb⟩ := hrel
    have HH := Lib.hid hh
    clear hh
    by_cases hlt : k < n
    · obtain ⟨s, hsk⟩ : ∃ s, xs[k]? = some s := ⟨_, List.getElem?_eq_getElem (by rw [HL.out]; exact hlt)⟩
      have HD := Lib.hid (dropCons hsk)
      obtain ⟨ad, rfl, hab, hck⟩ := hr.at_ hlt
      have ck := (hb.cell (by rw [blockAdd]; exact hab)).trans (hck (.int .i64 s) (by rw [List.getElem?_map, hsk]; rfl))
      clear hsk hck
      obtain ⟨x, y⟩ := st
      simp only at r0 r1 t0 t1
      cases he : s == v with
      | false =>
        have HS := Lib.hid (hullFrom_no (l := xs.drop (k + 1)) (k := k) (st := (x, y)) he)
        go_wp2
        go_roundw
        case rel => exact ⟨k + 1, (x, y), by omega, by go_num, by rw [HH.out, HD.out, HS.out], ⟨r0, r1, r2, r3⟩, ⟨t0, t1, t2, t3⟩, hsz, hb⟩
        case measure => simp [intOf]; omega
      | true =>
        have B0 : SpanBlk wr w.heap.size (0, 0) := ⟨r0, r1, r2, r3⟩
        have B1 : SpanBlk wr (w.heap.size + 1) (x, y) := ⟨t0, t1, t2, t3⟩
        cases hy : y == 0 with
        | false =>
          have HS := Lib.hid (hullFrom_more (a := x) (l := xs.drop (k + 1)) (k := k) he hy)
          have HP := Lib.hid (B1.put1 ((k : Int) + 1))
          have HF := Lib.hid (B0.far1 (b' := w.heap.size + 1) (by omega) (.int .i64 ((k : Int) + 1)))
          have hbe := hb.setCell (p := ⟨w.heap.size + 1, 1, none⟩) (by simp) (.int .i64 ((k : Int) + 1))
          clear B0 B1
          go_wp2
          go_roundw
          case rel => exact ⟨k + 1, (x, (k : Int) + 1), by omega, by go_num, by rw [HH.out, HD.out, HS.out], HF.out, HP.out, by simpa [World.setCell] using hsz, hbe⟩
          case measure => simp [intOf]; omega
        | true =>
          have HS := Lib.hid (hullFrom_first (a := x) (l := xs.drop (k + 1)) (k := k) he hy)
          have HP := Lib.hid (B1.put (k : Int) ((k : Int) + 1))
          have HF := Lib.hid (B0.far (b' := w.heap.size + 1) (by omega) (.int .i64 (k : Int)) (.int .i64 ((k : Int) + 1)))
          have hbe := (hb.setCell (p := ⟨w.heap.size + 1, 0, none⟩) (by simp) (.int .i64 (k : Int))).setCell (p := ⟨w.heap.size + 1, 1, none⟩) (by simp) (.int .i64 ((k : Int) + 1))
          clear B0 B1
          go_wp2
          go_roundw
          case rel => exact ⟨k + 1, (k, (k : Int) + 1), by omega, by go_num, by rw [HH.out, HD.out, HS.out], HF.out, HP.out, by simpa [World.setCell] using hsz, hbe⟩
          case measure => simp [intOf]; omega
    · have HZ := Lib.hid (show hullN xs v = st by rw [HH.out, List.drop_eq_nil_of_le (by rw [HL.out]; omega)]; rfl)
      obtain ⟨x, y⟩ := st
      simp only at r0 r1 t0 t1
      have hbe := (hb.setCell (p := ⟨w.heap.size, 0, none⟩) (Nat.le_refl _) (.int .i64 x)).setCell (p := ⟨w.heap.size, 1, none⟩) (Nat.le_refl _) (.int .i64 y)
      have HR := Lib.hid (SpanBlk.put (w := wr) (b := w.heap.size) (s := (0, 0)) ⟨r0, r1, r2, r3⟩ x y)
      go_wp2
      generalize ((wr.setCell ⟨w.heap.size, 0, none⟩ (.int .i64 x)).setCell ⟨w.heap.size, 1, none⟩ (.int .i64 y)) = w5 at *
      obtain ⟨u0, u1, _, _⟩ := HR.out
      simp only at u0 u1
      exact bodyPost_ret (v := .agg #[.int .i64 x, .int .i64 y]) (by simp [results, Try.results55, go_sem, u0, u1]) rfl ⟨by rw [HZ.out], hbe⟩
end Go.Proofs.Ytnmefomipldalaa
/- Clusters: cells of a slice of clusters; the reference's Identity, and where clusters end on either side. -/
namespace Go.Proofs.Ytnmefomipldalaa
open Go.RowKit

def identS (n : Nat) : List Cl := (List.range n).map fun i : Nat => (((i : Int), (i : Int) + 1), ((i : Int), (i : Int) + 1))
theorem identS_succ (k : Nat) : identS (k + 1) = identS k ++ [(((k : Int), (k : Int) + 1), ((k : Int), (k : Int) + 1))] := by simp [identS, List.range_succ]
theorem identS_len (k : Nat) : (identS k).length = k := by simp [identS]

set_option maxRecDepth 100000 in
set_option maxHeartbeats 2000000 in
theorem refIdentity_any (m : Int) (w : World) (hm : m ≤ 1000000) :
    Calls Try.prog 24 #[.int .i64 m] w fun e w' => ∃ v, e = .returned v ∧ w'.ownsRow w.heap.size 33 4 v m.toNat (cellsC (identS m.toNat)) ∧ Below w.heap.size w w' := by
  go_enter Try.func24, Try.ntmps24
  go_wp2
  go_loopw [3, 4] (fun v i wr => ∃ k : Nat, k ≤ m.toNat ∧ i = .int .i64 k ∧ wr.ownsRow w.heap.size 33 4 v k (cellsC (identS k)) ∧ Below w.heap.size w wr) (fun _ i _ => (m - intOf i).toNat)
  case atStart => exact ⟨0, Nat.zero_le _, rfl, ⟨rfl, .inl ⟨rfl, rfl⟩⟩, Below.refl _ _⟩
  case round =>
    obtain ⟨k, hk, rfl, hown, hb⟩ := hrel
    have HS := Lib.hid (show cellsC (identS (k + 1)) = cellsC (identS k) ++ [.int .i64 (k : Int), .int .i64 ((k : Int) + 1), .int .i64 (k : Int), .int .i64 ((k : Int) + 1)] by rw [identS_succ, cellsC_snoc])
    by_cases hlt : (k : Int) < m
    · have hnw := cells_new (wr.alloc (.cells #[.int .i64 (k : Int), .int .i64 ((k : Int) + 1)] 31)) [.int .i64 (k : Int), .int .i64 ((k : Int) + 1), .int .i64 (k : Int), .int .i64 ((k : Int) + 1)] 33
      rw [World.size_alloc] at hnw
      have HW := Lib.hid hnw
      have hown' := (hown.alloc (.cells #[.int .i64 (k : Int), .int .i64 ((k : Int) + 1)] 31)).alloc (.cells #[.int .i64 (k : Int), .int .i64 ((k : Int) + 1), .int .i64 (k : Int), .int .i64 ((k : Int) + 1)] 33)
      clear hnw
      have hb2 := (hb.alloc hb.size (.cells #[.int .i64 (k : Int), .int .i64 ((k : Int) + 1)] 31)).alloc (Nat.le_trans hb.size (by simp)) (.cells #[.int .i64 (k : Int), .int .i64 ((k : Int) + 1), .int .i64 (k : Int), .int .i64 ((k : Int) + 1)] 33)
      go_wp2_with (at_builtin; refine wpList_app rfl _ _ _ rfl clusSlice (by decide) u3 k _ rfl hown' ⟨wr.heap.size + 1, 0, none⟩ 1 1 _ rfl rfl HW.out (oneInt4 _ _ _ _ _) (by omega) (by unfold maxLen; omega) hb2.size ?_; intro v1 w1 hown1 hg1 hat1)
      have hgr := below_app hb2 hg1 hown' hb2.size
      go_roundw
      case rel => exact ⟨k + 1, by omega, by go_num, by rw [HS.out]; exact hown1, hgr⟩
      case measure => simp [intOf]; omega
    · have HK := Lib.hid (show k = m.toNat by omega)
      go_wp2
      go_ret
      exact ⟨u3, rfl, by rw [← HK.out]; exact hown, hb⟩

def insStep (n : Int) (c : Cl) : Int := if n < c.1.2 then c.1.2 else n
def insS (l : List Cl) : Int := l.foldl insStep 0
set_option maxRecDepth 100000 in
set_option maxHeartbeats 1000000 in
theorem ref_ins_any (A : Option Addr) (n c : Nat) (l : List Cl) (w : World) (hr : Rd w 4 A n (cellsC l)) (hn : n ≤ maxLen) :
    Calls Try.prog 58 #[.slice A n c] w fun e w' => e = .returned (.int .i64 (insS l)) ∧ w' = w := by
  have hlen : l.length = n := by have := hr.1; rw [cellsC_len] at this; omega
  have HL := Lib.hid hlen
  clear hlen
  unfold maxLen at hn
  go_enter Try.func58, Try.ntmps58
  go_wp2
  go_loop [3, 4] (fun x i => ∃ (k : Nat) (y : Int), k ≤ n ∧ i = .int .i64 k ∧ x = .int .i64 y ∧ insS l = (l.drop k).foldl insStep y) (fun _ i => n - (intOf i).toNat)
  case atStart => exact ⟨0, 0, Nat.zero_le _, rfl, rfl, rfl⟩
  case round =>
    obtain ⟨k, y, hk, rfl, rfl, hh⟩ := hrel
    have HH := Lib.hid hh
    clear hh
    by_cases hlt : k < n
    · obtain ⟨s, hsk⟩ : ∃ s, l[k]? = some s := ⟨_, List.getElem?_eq_getElem (by rw [HL.out]; exact hlt)⟩
      have HD := Lib.hid (dropCons hsk)
      obtain ⟨ad, rfl, hab, c1, c2, c3, c4⟩ := hr.clus hsk
      clear hsk
      obtain ⟨⟨s1, s2⟩, s3, s4⟩ := s
      simp only at c1 c2 c3 c4
      go_wp2
      all_goals
        go_round
        case rel => exact ⟨k + 1, insStep y ((s1, s2), (s3, s4)), by omega, by go_num, by first | rfl | (simp only [insStep]; first | rw [if_pos ‹_›] | rw [if_neg ‹_›] | rw [if_neg (by omega)]), by rw [HH.out, HD.out]; rfl⟩
        case measure => simp [intOf]; omega
    · have HZ := Lib.hid (show insS l = y by rw [HH.out, List.drop_eq_nil_of_le (by rw [HL.out]; omega)]; rfl)
      go_wp2
      go_ret
      exact ⟨retI HZ.out.symm, rfl⟩

def outsStep (n : Int) (c : Cl) : Int := if n < c.2.2 then c.2.2 else n
def outsS (l : List Cl) : Int := l.foldl outsStep 0
set_option maxRecDepth 100000 in
set_option maxHeartbeats 1000000 in
theorem ref_outs_any (A : Option Addr) (n c : Nat) (l : List Cl) (w : World) (hr : Rd w 4 A n (cellsC l)) (hn : n ≤ maxLen) :
    Calls Try.prog 59 #[.slice A n c] w fun e w' => e = .returned (.int .i64 (outsS l)) ∧ w' = w := by
  have hlen : l.length = n := by have := hr.1; rw [cellsC_len] at this; omega
  have HL := Lib.hid hlen
  clear hlen
  unfold maxLen at hn
  go_enter Try.func59, Try.ntmps59
  go_wp2
  go_loop [3, 4] (fun x i => ∃ (k : Nat) (y : Int), k ≤ n ∧ i = .int .i64 k ∧ x = .int .i64 y ∧ outsS l = (l.drop k).foldl outsStep y) (fun _ i => n - (intOf i).toNat)
  case atStart => exact ⟨0, 0, Nat.zero_le _, rfl, rfl, rfl⟩
  case round =>
    obtain ⟨k, y, hk, rfl, rfl, hh⟩ := hrel
    have HH := Lib.hid hh
    clear hh
    by_cases hlt : k < n
    · obtain ⟨s, hsk⟩ : ∃ s, l[k]? = some s := ⟨_, List.getElem?_eq_getElem (by rw [HL.out]; exact hlt)⟩
      have HD := Lib.hid (dropCons hsk)
      obtain ⟨ad, rfl, hab, c1, c2, c3, c4⟩ := hr.clus hsk
      clear hsk
      obtain ⟨⟨s1, s2⟩, s3, s4⟩ := s
      simp only at c1 c2 c3 c4
      go_wp2
      all_goals
        go_round
        case rel => exact ⟨k + 1, outsStep y ((s1, s2), (s3, s4)), by omega, by go_num, by first | rfl | (simp only [outsStep]; first | rw [if_pos ‹_›] | rw [if_neg ‹_›] | rw [if_neg (by omega)]), by rw [HH.out, HD.out]; rfl⟩
        case measure => simp [intOf]; omega
    · have HZ := Lib.hid (show outsS l = y by rw [HH.out, List.drop_eq_nil_of_le (by rw [HL.out]; omega)]; rfl)
      go_wp2
      go_ret
      exact ⟨retI HZ.out.symm, rfl⟩
end Go.Proofs.Ytnmefomipldalaa
/- The reference's linked: which places of what goes in are in a link. -/
namespace Go.Proofs.Ytnmefomipldalaa
open Go.RowKit

/-- All from lo on, below k, is true. -/
def fillB (xs : List Bool) (lo k : Nat) : List Bool := xs.take lo ++ List.replicate (k - lo) true ++ xs.drop k
theorem fillB_len {xs : List Bool} {lo k : Nat} (h : lo ≤ k) (hk : k ≤ xs.length) : (fillB xs lo k).length = xs.length := by
  simp [fillB]; omega
theorem fillB_start (xs : List Bool) (lo : Nat) : fillB xs lo lo = xs := by simp [fillB]
theorem fillB_step {xs : List Bool} {lo k : Nat} (h : lo ≤ k) (hk : k < xs.length) : (fillB xs lo k).set k true = fillB xs lo (k + 1) := by
  obtain ⟨x, hx⟩ : ∃ x, xs[k]? = some x := ⟨_, List.getElem?_eq_getElem hk⟩
  have hl : (xs.take lo ++ List.replicate (k - lo) true).length = k := by simp; omega
  unfold fillB
  rw [List.set_append_right _ _ (by omega), hl, dropCons hx]
  have e : k + 1 - lo = (k - lo) + 1 := by omega
  rw [e, List.replicate_succ']
  simp
def linkStep (out : List Bool) (c : Cl) : List Bool := fillB out c.1.1.toNat c.1.2.toNat
def linkedS (n : Nat) (l : List Cl) : List Bool := l.foldl linkStep (List.replicate n false)

set_option maxRecDepth 100000 in
set_option maxHeartbeats 2000000 in
theorem refLinked_any (A : Option Addr) (n m c : Nat) (l : List Cl) (w : World) (hr : Rd w 4 A m (cellsC l)) (hm : m ≤ 200000000) (hn : n ≤ 100000000) (hin : ∀ x ∈ l, ∃ lo hi : Nat, x.1 = ((lo : Int), (hi : Int)) ∧ lo ≤ hi ∧ hi ≤ n) :
    Calls Try.prog 52 #[.int .i64 (n : Int), .slice A m c] w fun e w' => ∃ v, e = .returned v ∧ w'.ownsRow w.heap.size 4 1 v n ((linkedS n l).map Value.bool) ∧ Below w.heap.size w w' := by
  have hlen : l.length = m := by have := hr.1; rw [cellsC_len] at this; omega
  have HL := Lib.hid hlen
  clear hlen
  go_enter Try.func52, Try.ntmps52
  go_wp2_with (at_make; refine wpList_mkFull rfl _ _ _ rfl (base := w.heap.size) (z := .bool false) (bytes := 1) Try.underlying77 (by kernel_rfl) rfl _ _ n rfl rfl rfl rfl (by omega) (by unfold maxLen; omega) (Nat.le_refl _) ?_; intro w0 hown0 hg0)
  have hb0 : Below w.heap.size w w0 := (Below.refl _ _).grown hg0 (Nat.le_refl _) (fun k h => by cases h)
  go_loopw [6] (fun i wr => ∃ (k : Nat) (xs : List Bool), k ≤ m ∧ i = .int .i64 k ∧ linkedS n l = (l.drop k).foldl linkStep xs ∧ xs.length = n ∧ wr.ownsRow w.heap.size 4 1 (.slice (some ⟨w.heap.size, 0, none⟩) n n) n (xs.map Value.bool) ∧ Below w.heap.size w wr) (fun i _ => m - (intOf i).toNat)
  case atStart =>
    exact ⟨0, List.replicate n false, Nat.zero_le _, rfl, rfl, by simp, by rw [List.map_replicate]; exact hown0, hb0⟩
  case round =>
    obtain ⟨k, xs, hk, rfl, hh, hxl, hown, hb⟩ := hrel
    have HH := Lib.hid hh
    have HX := Lib.hid hxl
    clear hh hxl hown0 hg0 hb0
    by_cases hlt : k < m
    · obtain ⟨s, hsk⟩ : ∃ s, l[k]? = some s := ⟨_, List.getElem?_eq_getElem (by rw [HL.out]; exact hlt)⟩
      have HD := Lib.hid (dropCons hsk)
      obtain ⟨lo, hi, hs, hlh, hhn⟩ := hin s (List.mem_of_getElem? hsk)
      obtain ⟨ad, rfl, hab, c1, c2, c3, c4⟩ := hr.clus hsk
      clear hsk c3 c4
      obtain ⟨⟨s1, s2⟩, s3, s4⟩ := s
      injection hs with e1 e2
      subst e1 e2
      simp only at c1 c2
      have c1' := (hb.cell (by rw [blockAdd]; exact hab)).trans c1
      have c2' := (hb.cell (p := ⟨(ad.add (k * 4)).block, (ad.add (k * 4)).off + 1, none⟩) (by show (ad.add (k * 4)).block < _; rw [blockAdd]; exact hab)).trans c2
      go_wp2
      go_loopw [7] (fun i ws => ∃ j : Nat, lo ≤ j ∧ j ≤ hi ∧ i = .int .i64 j ∧ ws.ownsRow w.heap.size 4 1 (.slice (some ⟨w.heap.size, 0, none⟩) n n) n ((fillB xs lo j).map Value.bool) ∧ Below w.heap.size w ws) (fun i _ => hi - (intOf i).toNat)
      case atStart => exact ⟨lo, Nat.le_refl _, hlh, rfl, by rw [fillB_start]; exact hown, hb⟩
      case round =>
        obtain ⟨j, hlj, hjh, rfl, hownr, hbr⟩ := hrel
        clear c1' c2'
        have d2 := (hbr.cell (p := ⟨(ad.add (k * 4)).block, (ad.add (k * 4)).off + 1, none⟩) (by show (ad.add (k * 4)).block < _; rw [blockAdd]; exact hab)).trans c2
        by_cases hjt : j < hi
        · have HS := Lib.hid (fillB_step (xs := xs) hlj (by rw [HX.out]; omega))
          have hfx := hownr.frozenAt j
          obtain ⟨bj, hbj⟩ : ∃ bj, wr.cell? ⟨w.heap.size, j, none⟩ = some bj := ⟨_, by rw [hownr.cellAt j (by omega)]; exact List.getElem?_eq_getElem (by rw [List.length_map, fillB_len hlj (by rw [HX.out]; omega), HX.out]; omega)⟩
          have hst := hownr.stored j (.bool true)
          rw [← List.map_set] at hst
          have HST := Lib.hid hst
          have hbe := hbr.setCell (p := ⟨w.heap.size, j, none⟩) (Nat.le_refl _) (.bool true)
          clear hst
          go_wp2
          go_roundw
          case rel => exact ⟨j + 1, by omega, by omega, by go_num, by rw [← HS.out]; exact HST.out.1, hbe⟩
          case measure => simp [intOf]; omega
        · have HJ := Lib.hid (show j = hi by omega)
          have hle : (fillB xs lo hi).length = n := by rw [fillB_len hlh (by rw [HX.out]; exact hhn), HX.out]
          have HE := Lib.hid hle
          clear hle
          go_wp2
          go_roundw
          case rel => exact ⟨k + 1, fillB xs lo hi, by omega, by go_num, by rw [HH.out, HD.out]; rfl, HE.out, by rw [← HJ.out]; exact hownr, hbr⟩
          case measure => simp [intOf]; omega
    · have HZ := Lib.hid (show linkedS n l = xs by rw [HH.out, List.drop_eq_nil_of_le (by rw [HL.out]; omega)]; rfl)
      go_wp2
      go_ret
      exact ⟨_, rfl, by rw [HZ.out]; exact hown, hb⟩
end Go.Proofs.Ytnmefomipldalaa
/- The reference's ahead: joins the places ahead of all that are in a link to the next one. -/
namespace Go.Proofs.Ytnmefomipldalaa
open Go.RowKit

def aheadFrom : List Bool → Nat → List Cl
  | [], _ => []
  | true :: _, k => if 0 < k then [((0, (k : Int) + 1), (0, 0))] else []
  | false :: l, k => aheadFrom l (k + 1)
def aheadS (l : List Bool) : List Cl := aheadFrom l 0

def AheadGives (l : List Bool) (w : World) (e : Ending) (w' : World) : Prop := ∃ A' n' c', e = .returned (.slice A' n' c') ∧ n' ≤ 1 ∧ Rd w' 4 A' n' (cellsC (aheadS l)) ∧ Below w.heap.size w w'

set_option maxRecDepth 100000 in
set_option maxHeartbeats 1000000 in
theorem refAhead_any (A : Option Addr) (n c : Nat) (l : List Bool) (w : World) (hr : Rd w 1 A n (l.map Value.bool)) (hn : n ≤ 100000000) :
    Calls Try.prog 53 #[.slice A n c] w (AheadGives l w) := by
  have hlen : l.length = n := by have := hr.1; rw [List.length_map] at this; omega
  have HL := Lib.hid hlen
  clear hlen
  go_enter Try.func53, Try.ntmps53
  go_wp2
  go_loop [3] (fun i => ∃ k : Nat, k ≤ n ∧ i = .int .i64 k ∧ aheadS l = aheadFrom (l.drop k) k) (fun i => n - (intOf i).toNat)
  case atStart => exact ⟨0, Nat.zero_le _, rfl, rfl⟩
  case round =>
    obtain ⟨k, hk, rfl, hh⟩ := hrel
    have HH := Lib.hid hh
    clear hh
    by_cases hlt : k < n
    · obtain ⟨x, hxk⟩ : ∃ x, l[k]? = some x := ⟨_, List.getElem?_eq_getElem (by rw [HL.out]; exact hlt)⟩
      have HD := Lib.hid (dropCons hxk)
      obtain ⟨ad, rfl, hab, hck⟩ := hr.at_ hlt
      have ck := hck (.bool x) (by rw [List.getElem?_map, hxk]; rfl)
      clear hxk hck
      cases x with
      | false =>
        go_wp2
        go_round
        case rel => exact ⟨k + 1, by omega, by go_num, by rw [HH.out, HD.out]; rfl⟩
        case measure => simp [intOf]; omega
      | true =>
        by_cases h0 : 0 < k
        · have HZ := Lib.hid (show aheadS l = [((0, (k : Int) + 1), (0, 0))] by rw [HH.out, HD.out]; exact if_pos h0)
          go_wp2
          go_ret
          exact ⟨_, _, _, rfl, Nat.le_refl _, by rw [HZ.out]; exact ⟨rfl, fun _ => ⟨_, rfl, by simp, cells_new w [.int .i64 0, .int .i64 ((k : Int) + 1), .int .i64 0, .int .i64 0] _⟩⟩, below_new w _⟩
        · have HZ := Lib.hid (show aheadS l = [] by rw [HH.out, HD.out]; exact if_neg h0)
          go_wp2
          go_ret
          exact ⟨_, _, _, rfl, by omega, by rw [HZ.out]; exact Rd.nil_, Below.refl _ _⟩
    · have HZ := Lib.hid (show aheadS l = [] by rw [HH.out, List.drop_eq_nil_of_le (by rw [HL.out]; omega)]; rfl)
      go_wp2
      go_ret
      exact ⟨_, _, _, rfl, by omega, by rw [HZ.out]; exact Rd.nil_, Below.refl _ _⟩
end Go.Proofs.Ytnmefomipldalaa
/- refRight_any. -/
namespace Go.Proofs.Ytnmefomipldalaa
open Go.RowKit

theorem refRight_any (lo hi : Int) (w : World) :
    Calls Try.prog 80 #[.agg #[.int .i64 lo, .int .i64 hi]] w fun e w' => e = .returned (.bool (rightB (lo, hi))) ∧ Below w.heap.size w w' := by
  have hc : lo < 0 ∨ (0 ≤ lo ∧ lo < hi) ∨ (0 ≤ lo ∧ hi ≤ lo) := by omega
  rcases hc with h | ⟨h, h'⟩ | ⟨h, h'⟩ <;>
    (go_enter Try.func80, Try.ntmps80
     go_wp2
     go_ret
     refine ⟨retB ?_, below_new _ _⟩
     simp [rightB]
     try omega)

end Go.Proofs.Ytnmefomipldalaa
/- make of ints, as a run. -/
namespace Go.Proofs.Ytnmefomipldalaa
open Go.RowKit
theorem mk_intsZ (n : Nat) (hn : n ≤ 100000000) (w : World) : (Instr.makeSlice 46 (.int .i64 (n : Int)) (.int .i64 (n : Int))).run Try.prog w = .ok (.slice (some ⟨w.heap.size, 0, none⟩) n n) (w.alloc (.cells (intsZ (List.replicate n 0)).toArray 3)) := by
  have hin : (Try.prog.info? 3).map (fun i => (i.zero, i.size, i.bytes)) = some (some (.int .i64 0), 1, 8) := by kernel_rfl
  obtain ⟨i, h1, h2, h3, h4⟩ := info_parts hin
  have h := run_make (P := Try.prog) w 46 3 i (.int .i64 0) Try.underlying46 h1 h2 .i64 .i64 n n (by omega) (Int.le_refl _) (by rw [h4]; omega) (by omega)
  rw [h3] at h
  simp only [Int.toNat_natCast, Nat.mul_one] at h
  rw [h]
  refine congrArg (fun c => Result.ok _ (w.alloc (.cells c _))) ?_
  apply Array.toList_inj.1
  rw [show (Value.int .i64 0).cells = #[.int .i64 0] from rfl, toList_madeCells_one]
  simp [intsZ]
end Go.Proofs.Ytnmefomipldalaa
/- slices.Reverse at []int: the row, the other way round. -/
namespace Go.Proofs.Ytnmefomipldalaa
open Go.RowKit

/-- After k exchanges from both ends. -/
def RvAt (xs ys : List Int) (n k : Nat) : Prop := ys.length = n ∧ ∀ p, p < n → ys[p]? = if p < k ∨ n ≤ p + k then xs[n - 1 - p]? else xs[p]?
theorem RvAt.step {xs ys : List Int} {n k : Nat} (h : RvAt xs ys n k) (hk : k + (k + 1) < n) {a b : Int} (ha : ys[k]? = some a) (hb : ys[n - 1 - k]? = some b) : RvAt xs ((ys.set k b).set (n - 1 - k) a) n (k + 1) := by
  refine ⟨by simp [h.1], fun p hp => ?_⟩
  have h1 := h.2 k (by omega)
  rw [if_neg (by omega), ha] at h1
  have h2 := h.2 (n - 1 - k) (by omega)
  rw [if_neg (by omega), hb] at h2
  by_cases e1 : p = n - 1 - k
  · subst e1
    rw [List.getElem?_set_self (by simp [h.1]; omega), if_pos (by omega), show n - 1 - (n - 1 - k) = k by omega]
    exact h1
  · rw [List.getElem?_set_ne (fun e => e1 e.symm)]
    by_cases e2 : p = k
    · subst e2
      rw [List.getElem?_set_self (by rw [h.1]; omega), if_pos (by omega)]
      exact h2
    · rw [List.getElem?_set_ne (fun e => e2 e.symm), h.2 p hp]
      by_cases e3 : p < k ∨ n ≤ p + k
      · rw [if_pos e3, if_pos (by omega)]
      · rw [if_neg e3, if_neg (by omega)]
theorem RvAt.done {xs ys : List Int} {n k : Nat} (h : RvAt xs ys n k) (hx : xs.length = n) (hk : n ≤ k + (k + 1)) : ys = xs.reverse := by
  apply List.ext_getElem?
  intro p
  by_cases hp : p < n
  · rw [h.2 p hp, List.getElem?_reverse (by omega), hx]
    by_cases e : p < k ∨ n ≤ p + k
    · rw [if_pos e]
    · rw [if_neg e, show n - 1 - p = p by omega]
  · rw [List.getElem?_eq_none (by rw [h.1]; omega), List.getElem?_eq_none (by simp; omega)]
theorem grownRv {a b c : World} {row : Option Nat} (h : a.grownBy b row) (k : b.grownBy c row) : a.grownBy c row :=
  ⟨k.os.trans h.os, k.tape.trans h.tape, k.output.trans h.output, Nat.le_trans h.size k.size, fun i hi hr => (k.block i (Nat.lt_of_lt_of_le hi h.size) hr).trans (h.block i hi hr)⟩
set_option maxRecDepth 100000 in
set_option maxHeartbeats 1000000 in
theorem reverseI_any (base g c n : Nat) (xs : List Int) (w : World) (hown : w.ownsRow base 3 1 (.slice (some ⟨g, 0, none⟩) n c) n (xs.map (Value.int .i64))) (hn : n ≤ 200000000) :
    Calls Try.prog 88 #[.slice (some ⟨g, 0, none⟩) n c] w fun e w' => e = .returned (.tuple #[]) ∧ w'.ownsRow base 3 1 (.slice (some ⟨g, 0, none⟩) n c) n (xs.reverse.map (Value.int .i64)) ∧ w.grownBy w' (some g) := by
  have hlen : xs.length = n := by have := hown.1; rw [List.length_map] at this; omega
  have HL := Lib.hid hlen
  have HO := Lib.hid hown
  have HR0 := Lib.hid (show RvAt xs xs n 0 from ⟨hlen, fun p hp => by rw [if_neg (by omega)]⟩)
  clear hlen hown
  go_enter Try.func88, Try.ntmps88
  go_wp2_with fail
  go_loopw [2, 3] (fun i j ws => ∃ (k : Nat) (jj : Int) (ys : List Int), i = .int .i64 (k : Int) ∧ j = .int .i64 jj ∧ jj = (n : Int) - 1 - (k : Int) ∧ k ≤ n ∧ RvAt xs ys n k ∧ ws.ownsRow base 3 1 (.slice (some ⟨g, 0, none⟩) n c) n (ys.map (Value.int .i64)) ∧ w.grownBy ws (some g)) (fun i _ _ => n - (intOf i).toNat)
  case atStart => exact ⟨0, (n : Int) - 1, xs, rfl, rfl, by omega, Nat.zero_le _, HR0.out, HO.out, World.grownBy.refl w _⟩
  case round =>
    obtain ⟨k, jj, ys, rfl, rfl, hjj, hkn, hrv, hownr, hgr⟩ := hrel
    by_cases hlt : (k : Int) < jj
    · obtain ⟨jn, hjn⟩ : ∃ jn : Nat, jj = (jn : Int) := ⟨jj.toNat, by omega⟩
      subst hjn
      have hjn2 : jn = n - 1 - k := by omega
      have hkj : k < jn := by omega
      have hjl : jn < n := by omega
      have HJ := Lib.hid hjj
      have HJ2 := Lib.hid hjn2
      obtain ⟨a, ha⟩ : ∃ a, ys[k]? = some a := ⟨_, List.getElem?_eq_getElem (by rw [hrv.1]; omega)⟩
      obtain ⟨b, hb⟩ : ∃ b, ys[jn]? = some b := ⟨_, List.getElem?_eq_getElem (by rw [hrv.1]; omega)⟩
      have ck : wr.cell? ⟨g, k, none⟩ = some (.int .i64 a) := by rw [hownr.cellAt k (by omega), List.getElem?_map, ha]; rfl
      have cj : wr.cell? ⟨g, jn, none⟩ = some (.int .i64 b) := by rw [hownr.cellAt jn (by omega), List.getElem?_map, hb]; rfl
      have fk := hownr.frozenAt k
      have fj := hownr.frozenAt jn
      have HRV := Lib.hid (show RvAt xs ((ys.set k b).set jn a) n (k + 1) by rw [hjn2] at hb ⊢; exact hrv.step (by omega) ha hb)
      have HOW := Lib.hid (show ∀ W, W = ((wr.setCell ⟨g, k, none⟩ (.int .i64 b)).setCell ⟨g, jn, none⟩ (.int .i64 a)).drew → W.ownsRow base 3 1 (.slice (some ⟨g, 0, none⟩) n c) n (((ys.set k b).set jn a).map (Value.int .i64)) ∧ w.grownBy W (some g) from fun W e => by
        have h1 := hownr.stored k (.int .i64 b)
        rw [← List.map_set] at h1
        have h2 := h1.1.stored jn (.int .i64 a)
        rw [← List.map_set] at h2
        have h3 := grownRv (grownRv hgr h1.2) h2.2
        rw [e]
        exact ⟨h2.1, ⟨h3.os, h3.tape, h3.output, h3.size, h3.block⟩⟩)
      clear hjj hjn2 ha hb hrv hownr hgr
      go_wp2_with fail
      go_region
      clear ck cj fk fj
      go_wp2_with fail
      go_roundw
      case rel => exact ⟨k + 1, (jn : Int) - 1, _, by go_num, rfl, by have := HJ.out; omega, by omega, HRV.out, (HOW.out _ rfl).1, (HOW.out _ rfl).2⟩
      case measure => simp [intOf]; omega
    · have HD := Lib.hid (hrv.done HL.out (by omega))
      have HO2 := Lib.hid hownr
      rw [HD.out] at HO2
      have HG := Lib.hid hgr
      clear hrv hownr hgr hjj
      go_wp2_with fail
      exact bodyPost_end (v := .tuple #[]) (by simp [results, go_sem]) rfl ⟨rfl, by rw [← List.map_reverse]; exact HO2.out, HG.out⟩
set_option maxRecDepth 100000 in
set_option maxHeartbeats 1000000 in
theorem reverseI_v (base n : Nat) (v : Value) (xs : List Int) (w : World) (hown : w.ownsRow base 3 1 v n (xs.map (Value.int .i64))) (hn : n ≤ 200000000) :
    Calls Try.prog 88 #[v] w fun e w' => e = .returned (.tuple #[]) ∧ w'.ownsRow base 3 1 v n (xs.reverse.map (Value.int .i64)) ∧ w.grownBy w' v.ownBlock := by
  rcases hown.2 with ⟨rfl, rfl⟩ | ⟨g, c, _, rfl, _⟩
  · have hx : xs = [] := by
      have := hown.1
      rw [List.length_map] at this
      exact List.eq_nil_of_length_eq_zero (by omega)
    subst hx
    have HO := Lib.hid hown
    clear hown
    go_enter Try.func88, Try.ntmps88
    go_wp2_with fail
    refine wp_loop_rounds 1 ?_
    rw [rounds_succ]
    go_wp2_with fail
    exact bodyPost_end (v := .tuple #[]) (by simp [results, go_sem]) rfl ⟨rfl, HO.out, World.grownBy.refl w _⟩
  · exact reverseI_any base g c n xs w hown hn
end Go.Proofs.Ytnmefomipldalaa
/- cells' told, walked: the codes of a part of the cells, in a row of the call's own. -/
namespace Go.Proofs.Ytnmefomipldalaa
open Go.RowKit

theorem intSliceT : SliceOf Try.prog 46 3 1 8 := .mk_ (z := .int .i64 0) Try.underlying46 (by kernel_rfl) rfl
set_option maxRecDepth 100000 in
set_option maxHeartbeats 2000000 in
theorem told_any (base b gc n lo hi : Nat) (R : List RC) (va : Value) (ah : List Int) (w : World) (hC : CellsAt w base b gc n R va ah) (h1 : lo < hi) (h2 : hi ≤ n) (hn : n ≤ 100000000) (ht : ah.length + lenR R ≤ 100000000) :
    Calls Try.prog 70 #[.pointer (some ⟨b, 0, none⟩), .agg #[.int .i64 (lo : Int), .int .i64 (hi : Int)]] w fun e w' => ∃ v, e = .returned v ∧ w'.ownsRow w.heap.size 3 1 v (toldR R ah lo hi).length ((toldR R ah lo hi).map (Value.int .i64)) ∧ Below w.heap.size w w' := by
  obtain ⟨Aa, ca, rfl, _⟩ := own_form hC.arow
  have hbn := below_new w (.cells #[.int .i64 (lo : Int), .int .i64 (hi : Int)] 31)
  have hC2 := hC.low hbn
  have s1 := SpanBlk.new_ w (lo : Int) (hi : Int) 31
  obtain ⟨W1, hW1⟩ : ∃ W1, w.alloc (.cells #[.int .i64 (lo : Int), .int .i64 (hi : Int)] 31) = W1 := ⟨_, rfl⟩
  rw [hW1] at hbn hC2 s1
  obtain ⟨d0, d1, f0, f1⟩ := s1
  obtain ⟨bs, hbs⟩ : ∃ bs, w.heap.size = bs := ⟨_, rfl⟩
  rw [hbs] at d0 d1
  have HC1 := Lib.hid hC2
  have HB1 := Lib.hid hbn
  have hlo : (lo : Int) < (n : Int) := by omega
  have hhi : (hi : Int) ≤ (n : Int) := by omega
  have hlh : (lo : Int) ≤ (hi : Int) := by omega
  have hne : ¬ (n = lo) := by omega
  have hcl := cntR_le R ah lo hi
  clear hC hC2 hbn f0 f1
  go_enter Try.func70, Try.ntmps70
  go_wp2_with fail
  refine (count_any base b gc n lo hi R _ ah W1 HC1.out h1 h2 hn ht).mono ?_
  rintro e w2 ⟨rfl, hb2⟩
  have e0 := cell_below hb2 d0
  have e1 := cell_below hb2 d1
  have hC2 := HC1.out.low hb2
  have HB2 := Lib.hid (below_self HB1.out hb2)
  have HC2 := Lib.hid hC2
  obtain ⟨cq, hcq⟩ : ∃ cq, cntR R ah lo hi = cq := ⟨_, rfl⟩
  rw [hcq] at hcl ⊢
  clear hcq d0 d1 hb2 hC2 HC1
  by_cases hz : lo = 0
  · have g0 : ((lo : Int) == 0) = true := by simp; omega
    have HLO := Lib.hid hz
    clear hz
    go_wp2_with (first
      | (at_make; refine wpList_mk rfl _ _ _ rfl (base := w2.heap.size) intSliceT (cq : Int) cq rfl rfl rfl (by omega) (by unfold maxLen; omega) (Nat.le_refl _) ?_; intro v3 w3 hown3 hg3; have hb3 := below_make hg3; have x0 := cell_below hb3 e0; have x1 := cell_below hb3 e1; have y0 := hp_cell (j := 0) (HC2.out.low hb3).hb rfl; have y1 := hp_cell (j := 1) (HC2.out.low hb3).hb rfl)
      | (at_builtin; refine wpList_appR rfl _ _ _ rfl intSliceT (by decide) v3 0 [] rfl hown3 Aa ah.length ca (ah.map (Value.int .i64)) rfl (Rd.of_own (HC2.out.low hb3).arow) (oneInts _ _) (by omega) (by unfold maxLen; omega) hb3.size ?_; intro v4 w4 hown4 hg4 hat4; simp only [Nat.zero_add, List.nil_append] at hown4))
    have hb4 := hb3.grown hg4 hb3.size (fun k hk => (hown3.lt k hk).1)
    have hB4 : v4.ownBlock = none ∨ ∃ g, v4.ownBlock = some g ∧ w2.heap.size ≤ g := by
      rcases h : v4.ownBlock with _ | g
      · exact .inl rfl
      · exact .inr ⟨g, rfl, (hown4.lt g h).1⟩
    refine (reverseI_v w2.heap.size ah.length v4 ah w4 hown4 (by omega)).mono ?_
    rintro e w5 ⟨rfl, hown5, hg5⟩
    have hb5 := hb4.grown hg5 hb4.size (fun k hk => (hown4.lt k hk).1)
    have z0 := hp_cell (j := 0) (HC2.out.low hb5).hb rfl
    have z1 := cell_below hb5 e0
    have z2 := cell_below hb5 e1
    clear e0 e1 x0 x1 y0 y1 hown3 hg3 hb3 hown4 hg4 hat4 hB4 hb4 hg5
    go_wp2_with fail
    go_quiet (fail)
    go_wp2_with fail
    obtain ⟨z, hz⟩ : ∃ z : List Int, z = ah.reverse := ⟨_, rfl⟩
    have HZ := Lib.hid (show toldR R ah lo hi = z ++ codesR (partR R lo hi) by unfold toldR; rw [hz]; simp [HLO.out])
    have hzt : z.length + lenR (partR R lo hi) ≤ 100000000 := by
      have h8 := toldR_len R ah lo hi
      rw [HZ.out, List.length_append, lenR_codes] at h8
      rw [h8]
      exact Nat.le_trans (cntR_le R ah lo hi) ht
    have HOZ0 := Lib.hid (show (w5.drewN nq).ownsRow w2.heap.size 3 1 v4 z.length (z.map (Value.int .i64)) by rw [hz, List.length_reverse]; exact hown5)
    have HBZ0 := Lib.hid (show Below w2.heap.size w2 (w5.drewN nq) from below_drew hb5 nq)
    clear hz hown5 hb5 z0 z1 z2
    go_loopw [5, 33] (fun s i ws => ∃ (k : Nat) (acc : List Int), k ≤ hi - lo ∧ i = .int .i64 (k : Int) ∧ acc = z ++ codesR ((partR R lo hi).take k) ∧ ws.ownsRow w2.heap.size 3 1 s acc.length (acc.map (Value.int .i64)) ∧ Below w2.heap.size w2 ws) (fun _ i _ => (hi - lo) - (intOf i).toNat)
    case atStart => exact ⟨0, z, Nat.zero_le _, rfl, by simp [codesR], HOZ0.out, HBZ0.out⟩
    case round =>
      clear HOZ0 HBZ0
      obtain ⟨k, acc, hk, rfl, hacc, hown, hb⟩ := hrel
      have HACC := Lib.hid hacc
      have hlk := lenR_le (partR R lo hi) k
      by_cases hlt : k < hi - lo
      · obtain ⟨r, hr⟩ : ∃ r, R[lo + k]? = some r := ⟨_, List.getElem?_eq_getElem (by rw [HC2.out.len]; omega)⟩
        have HCW := HC2.out.low hb
        obtain ⟨c0, c1⟩ := HCW.cell hr
        have hrow := HCW.rows _ _ hr
        have hpr : (partR R lo hi)[k]? = some r := by rw [partR_at hlt]; exact hr
        have HT := Lib.hid (codesR_take hpr)
        have hlt1 := lenR_take hpr
        have hlk1 := lenR_le (partR R lo hi) (k + 1)
        have hal : acc.length = z.length + lenR ((partR R lo hi).take k) := by rw [hacc, List.length_append, lenR_codes]
        obtain ⟨v, e, l⟩ := r
        obtain ⟨Ai, ci, hv, _⟩ := own_form hrow
        simp only at hv
        subst hv
        rw [show (lo + k) * 2 = lo * 2 + k * 2 by omega] at c0 c1
        simp only at c0 c1 hlt1 HT hrow
        have hbn := below_new wr (.cells #[.slice Ai l.length ci, .int .i64 e] 108)
        have hnw := cells_new wr [.slice Ai l.length ci, .int .i64 e] 108
        have d0 := hnw 0 _ rfl
        rw [addNew] at d0
        have HRR := Lib.hid (Rd.of_own (own_below hrow hbn))
        have HOW := Lib.hid (own_below hown hbn)
        have HBW := Lib.hid (below_self hb hbn)
        have hbz : acc.length + l.length ≤ 100000000 := by omega
        clear hnw HCW hrow hpr hr hb hbn hacc hown hal hlt1 hlk1 hlk
        go_wp2_with (at_builtin; refine wpList_appR rfl _ _ _ rfl intSliceT (by decide) u5 acc.length _ rfl HOW.out Ai l.length ci _ rfl HRR.out (oneInts _ _) (by omega) (by unfold maxLen; omega) HBW.out.size ?_; intro v9 w9 hown9 hg9 hat9)
        have HB9 := Lib.hid (HBW.out.grown hg9 HBW.out.size (fun b hb => (HOW.out.lt b hb).1))
        have HO9 := Lib.hid (show w9.ownsRow w2.heap.size 3 1 v9 (acc ++ l).length ((acc ++ l).map (Value.int .i64)) by rw [List.length_append, List.map_append]; exact hown9)
        clear hown9 hg9 hat9
        go_roundw
        case rel => exact ⟨k + 1, acc ++ l, by omega, by go_num, by rw [HT.out, HACC.out, List.append_assoc], HO9.out, HB9.out⟩
        case measure => simp [intOf]; omega
      · have hkm : k = hi - lo := by omega
        have HE := Lib.hid (show acc = toldR R ah lo hi by rw [HZ.out, HACC.out, hkm, List.take_of_length_le (Nat.le_of_eq (partR_len HC2.out.len h2))])
        have HO9 := Lib.hid (own_base hown HB2.out.size)
        have HB9 := Lib.hid (below_self HB2.out hb)
        rw [HE.out] at HO9
        clear hkm hown hb hacc hlk
        go_wp2_with fail
        go_ret
        exact ⟨u5, rfl, HO9.out, HB9.out⟩
  · have g0 : ((lo : Int) == 0) = false := by simp; omega
    have HLO := Lib.hid hz
    clear hz
    go_wp2_with (at_make; refine wpList_mk rfl _ _ _ rfl (base := w2.heap.size) intSliceT (cq : Int) cq rfl rfl rfl (by omega) (by unfold maxLen; omega) (Nat.le_refl _) ?_; intro v3 w3 hown3 hg3; have hb3 := below_make hg3; have x0 := cell_below hb3 e0; have x1 := cell_below hb3 e1; have y0 := hp_cell (j := 0) (HC2.out.low hb3).hb rfl; have y1 := hp_cell (j := 1) (HC2.out.low hb3).hb rfl)
    go_quiet (fail)
    go_wp2_with fail
    obtain ⟨z, hz⟩ : ∃ z : List Int, z = [] := ⟨_, rfl⟩
    have HZ := Lib.hid (show toldR R ah lo hi = z ++ codesR (partR R lo hi) by unfold toldR; rw [hz]; simp [HLO.out])
    have hzt : z.length + lenR (partR R lo hi) ≤ 100000000 := by
      have h8 := toldR_len R ah lo hi
      rw [HZ.out, List.length_append, lenR_codes] at h8
      rw [h8]
      exact Nat.le_trans (cntR_le R ah lo hi) ht
    have HOZ0 := Lib.hid (show (w3.drewN nq).ownsRow w2.heap.size 3 1 v3 z.length (z.map (Value.int .i64)) by rw [hz]; exact hown3)
    have HBZ0 := Lib.hid (show Below w2.heap.size w2 (w3.drewN nq) from below_drew hb3 nq)
    clear hz hown3 hg3 hb3 x0 x1 y0 y1 e0 e1
    go_loopw [5, 33] (fun s i ws => ∃ (k : Nat) (acc : List Int), k ≤ hi - lo ∧ i = .int .i64 (k : Int) ∧ acc = z ++ codesR ((partR R lo hi).take k) ∧ ws.ownsRow w2.heap.size 3 1 s acc.length (acc.map (Value.int .i64)) ∧ Below w2.heap.size w2 ws) (fun _ i _ => (hi - lo) - (intOf i).toNat)
    case atStart => exact ⟨0, z, Nat.zero_le _, rfl, by simp [codesR], HOZ0.out, HBZ0.out⟩
    case round =>
      clear HOZ0 HBZ0
      obtain ⟨k, acc, hk, rfl, hacc, hown, hb⟩ := hrel
      have HACC := Lib.hid hacc
      have hlk := lenR_le (partR R lo hi) k
      by_cases hlt : k < hi - lo
      · obtain ⟨r, hr⟩ : ∃ r, R[lo + k]? = some r := ⟨_, List.getElem?_eq_getElem (by rw [HC2.out.len]; omega)⟩
        have HCW := HC2.out.low hb
        obtain ⟨c0, c1⟩ := HCW.cell hr
        have hrow := HCW.rows _ _ hr
        have hpr : (partR R lo hi)[k]? = some r := by rw [partR_at hlt]; exact hr
        have HT := Lib.hid (codesR_take hpr)
        have hlt1 := lenR_take hpr
        have hlk1 := lenR_le (partR R lo hi) (k + 1)
        have hal : acc.length = z.length + lenR ((partR R lo hi).take k) := by rw [hacc, List.length_append, lenR_codes]
        obtain ⟨v, e, l⟩ := r
        obtain ⟨Ai, ci, hv, _⟩ := own_form hrow
        simp only at hv
        subst hv
        rw [show (lo + k) * 2 = lo * 2 + k * 2 by omega] at c0 c1
        simp only at c0 c1 hlt1 HT hrow
        have hbn := below_new wr (.cells #[.slice Ai l.length ci, .int .i64 e] 108)
        have hnw := cells_new wr [.slice Ai l.length ci, .int .i64 e] 108
        have d0 := hnw 0 _ rfl
        rw [addNew] at d0
        have HRR := Lib.hid (Rd.of_own (own_below hrow hbn))
        have HOW := Lib.hid (own_below hown hbn)
        have HBW := Lib.hid (below_self hb hbn)
        have hbz : acc.length + l.length ≤ 100000000 := by omega
        clear hnw HCW hrow hpr hr hb hbn hacc hown hal hlt1 hlk1 hlk
        go_wp2_with (at_builtin; refine wpList_appR rfl _ _ _ rfl intSliceT (by decide) u5 acc.length _ rfl HOW.out Ai l.length ci _ rfl HRR.out (oneInts _ _) (by omega) (by unfold maxLen; omega) HBW.out.size ?_; intro v9 w9 hown9 hg9 hat9)
        have HB9 := Lib.hid (HBW.out.grown hg9 HBW.out.size (fun b hb => (HOW.out.lt b hb).1))
        have HO9 := Lib.hid (show w9.ownsRow w2.heap.size 3 1 v9 (acc ++ l).length ((acc ++ l).map (Value.int .i64)) by rw [List.length_append, List.map_append]; exact hown9)
        clear hown9 hg9 hat9
        go_roundw
        case rel => exact ⟨k + 1, acc ++ l, by omega, by go_num, by rw [HT.out, HACC.out, List.append_assoc], HO9.out, HB9.out⟩
        case measure => simp [intOf]; omega
      · have hkm : k = hi - lo := by omega
        have HE := Lib.hid (show acc = toldR R ah lo hi by rw [HZ.out, HACC.out, hkm, List.take_of_length_le (Nat.le_of_eq (partR_len HC2.out.len h2))])
        have HO9 := Lib.hid (own_base hown HB2.out.size)
        have HB9 := Lib.hid (below_self HB2.out hb)
        rw [HE.out] at HO9
        clear hkm hown hb hacc hlk
        go_wp2_with fail
        go_ret
        exact ⟨u5, rfl, HO9.out, HB9.out⟩
end Go.Proofs.Ytnmefomipldalaa
/- slices.Equal at []int: whether the two slices read alike; the world is as it was, but for draws. -/
namespace Go.Proofs.Ytnmefomipldalaa
open Go.RowKit

theorem take_eq_succ {xs ys : List Int} {k : Nat} (h : xs.take k = ys.take k) {x : Int} (h1 : xs[k]? = some x) (h2 : ys[k]? = some x) : xs.take (k + 1) = ys.take (k + 1) := by
  rw [List.take_add_one, List.take_add_one, h, h1, h2]

set_option maxRecDepth 100000 in
set_option maxHeartbeats 1000000 in
theorem equalInt_same (n : Nat) (A B : Option Addr) (c d : Nat) (xs ys : List Int) (w : World) (hxn : xs.length = n) (hyn : ys.length = n)
    (hx : Rd w 1 A n (xs.map (Value.int .i64))) (hy : Rd w 1 B n (ys.map (Value.int .i64))) (hn : n ≤ maxLen) :
    Calls Try.prog 29 #[.slice A n c, .slice B n d] w fun e w' => e = .returned (.bool (decide (xs = ys))) ∧ ∃ q, w' = w.drewN q := by
  unfold maxLen at hn
  have HX := Lib.hid hxn
  have HY := Lib.hid hyn
  clear hxn hyn
  go_enter Try.func29, Try.ntmps29
  go_wp2
  go_loopw [13] (fun i wr => ∃ k q : Nat, k ≤ n ∧ i = .int .i64 k ∧ wr = w.drewN q ∧ xs.take k = ys.take k) (fun i _ => n - (intOf i).toNat)
  case atStart => exact ⟨0, 0, Nat.zero_le _, rfl, rfl, rfl⟩
  case round =>
    obtain ⟨k, q, hk, rfl, rfl, ht⟩ := hrel
    have HT := Lib.hid ht
    clear ht
    by_cases hlt : k < n
    · obtain ⟨x, hxk⟩ : ∃ x, xs[k]? = some x := ⟨_, List.getElem?_eq_getElem (by rw [HX.out]; exact hlt)⟩
      obtain ⟨y, hyk⟩ : ∃ y, ys[k]? = some y := ⟨_, List.getElem?_eq_getElem (by rw [HY.out]; exact hlt)⟩
      obtain ⟨a, rfl, _, ha⟩ := hx.at_ hlt
      obtain ⟨b, rfl, _, hb⟩ := hy.at_ hlt
      have ca : w.cell? (a.add k) = some (.int .i64 x) := ha _ (by rw [List.getElem?_map, hxk]; rfl)
      have cb : w.cell? (b.add k) = some (.int .i64 y) := hb _ (by rw [List.getElem?_map, hyk]; rfl)
      have HXK := Lib.hid hxk
      have HYK := Lib.hid hyk
      clear hxk hyk ha hb
      by_cases he : x = y
      · subst he
        go_wp2
        go_quiet (fail)
        go_wp2
        go_roundw
        case rel => exact ⟨k + 1, _, by omega, by go_num, rfl, take_eq_succ HT.out HXK.out HYK.out⟩
        case measure => simp [intOf]; omega
      · have hne : (x == y) = false := by simpa using he
        have hne' : (x != y) = true := by simpa using he
        have hf : decide (xs = ys) = false := decide_eq_false (fun e => he (by have h1 := HXK.out; rw [e, HYK.out] at h1; injection h1 with h1; exact h1.symm))
        clear he
        go_wp2
        go_quiet (fail)
        go_wp2
        go_ret
        exact ⟨retB (by simp [hf]), _, World.drewN_drewN _ _ _⟩
    · have hkn : k = n := by omega
      have htr : decide (xs = ys) = true := decide_eq_true (by
        have h := HT.out
        rwa [List.take_of_length_le (by rw [HX.out]; omega), List.take_of_length_le (by rw [HY.out]; omega)] at h)
      clear hkn
      go_wp2
      go_ret
      exact ⟨retB (by simp [htr]), _, rfl⟩

theorem equalInt_any (A B : Option Addr) (n m c d : Nat) (xs ys : List Int) (w : World) (hx : Rd w 1 A n (xs.map (Value.int .i64))) (hy : Rd w 1 B m (ys.map (Value.int .i64))) (hn : n ≤ maxLen) (hm : m ≤ maxLen) :
    Calls Try.prog 29 #[.slice A n c, .slice B m d] w fun e w' => e = .returned (.bool (decide (xs = ys))) ∧ ∃ q, w' = w.drewN q := by
  have hxl : xs.length = n := by simpa using hx.len1
  have hyl : ys.length = m := by simpa using hy.len1
  by_cases h : n = m
  · subst h
    exact equalInt_same n A B c d xs ys w hxl hyl hx hy hn
  · have hne : decide (xs = ys) = false := decide_eq_false (fun e => h (by rw [← hxl, ← hyl, e]))
    have h1 : ((n : Int) == m) = false := by simp; omega
    have h2 : ((n : Int) != m) = true := by simp; omega
    clear hxl hyl
    go_enter Try.func29, Try.ntmps29
    go_wp2
    go_ret
    exact ⟨retB (by simp [hne]), 0, rfl⟩
theorem equalInt_b (A B : Option Addr) (n m c d : Nat) (xs ys : List Int) (w : World) (hx : Rd w 1 A n (xs.map (Value.int .i64))) (hy : Rd w 1 B m (ys.map (Value.int .i64))) (hn : n ≤ maxLen) (hm : m ≤ maxLen) :
    Calls Try.prog 29 #[.slice A n c, .slice B m d] w fun e w' => e = .returned (.bool (decide (xs = ys))) ∧ Below w.heap.size w w' :=
  (equalInt_any A B n m c d xs ys w hx hy hn hm).mono fun _ _ ⟨he, q, hq⟩ => ⟨he, hq ▸ drewBelow q⟩
end Go.Proofs.Ytnmefomipldalaa
/- slices.Equal at []api.Cluster: whether the two slices read alike. -/
namespace Go.Proofs.Ytnmefomipldalaa
open Go.RowKit

theorem eqSpanAt (d : Nat) (a b : Sp) (w : World) : (Op.equalIn (d + 2) 31 (.agg #[.int .i64 a.1, .int .i64 a.2]) (.agg #[.int .i64 b.1, .int .i64 b.2])).run Try.prog w = .ok (decide (a = b)) w := by
  have u3 := Try.underlying3
  have a3 := Try.isAgg3
  have z3 := Try.sizeOf3
  have hS : Try.prog.underlying 31 = some (.struct (Try.prog.fieldsOf 31)) := by kernel_rfl
  have hp : Try.prog.stoodInHeld 31 = false := by kernel_rfl
  rw [show d + 2 = (d + 1) + 1 from rfl, run_equalIn_agg w (d + 1) 31 _ _ hS hp]
  simp only [Program.fieldsOf, Try.underlying31]
  go_simp
  obtain ⟨a1, a2⟩ := a
  obtain ⟨b1, b2⟩ := b
  by_cases h1 : a1 = b1 <;> by_cases h2 : a2 = b2 <;> simp [h1, h2]
theorem eqClusAt (d : Nat) (a b : Cl) (w : World) : (Op.equalIn (d + 3) 33 (.agg #[.int .i64 a.1.1, .int .i64 a.1.2, .int .i64 a.2.1, .int .i64 a.2.2]) (.agg #[.int .i64 b.1.1, .int .i64 b.1.2, .int .i64 b.2.1, .int .i64 b.2.2])).run Try.prog w = .ok (decide (a = b)) w := by
  have hS : Try.prog.underlying 33 = some (.struct (Try.prog.fieldsOf 33)) := by kernel_rfl
  have hp : Try.prog.stoodInHeld 33 = false := by kernel_rfl
  have ag2 := Try.isAgg31
  have z2 := Try.sizeOf31
  have h1 := eqSpanAt d a.1 b.1 w
  have h2 := eqSpanAt d a.2 b.2 w
  rw [show d + 3 = (d + 2) + 1 from rfl, run_equalIn_agg w (d + 2) 33 _ _ hS hp]
  simp only [Program.fieldsOf, Try.underlying33]
  obtain ⟨⟨a1, a2⟩, a3, a4⟩ := a
  obtain ⟨⟨b1, b2⟩, b3, b4⟩ := b
  simp only at h1 h2
  go_simp
  by_cases e1 : a1 = b1 <;> by_cases e2 : a2 = b2 <;> by_cases e3 : a3 = b3 <;> by_cases e4 : a4 = b4 <;> simp [e1, e2, e3, e4]
theorem neqC (a b : Cl) (w : World) : (binOp .neq 33 (.agg #[.int .i64 a.1.1, .int .i64 a.1.2, .int .i64 a.2.1, .int .i64 a.2.2]) (.agg #[.int .i64 b.1.1, .int .i64 b.1.2, .int .i64 b.2.1, .int .i64 b.2.2])).run Try.prog w = .ok (.bool (!(decide (a = b)))) w := by
  rw [run_neq_struct, show (10000 : Nat) = 9997 + 3 from rfl, eqClusAt 9997 a b w]
  rfl
theorem guardC : Try.prog.eqGuardType Try.prog.depth 33 = false := by kernel_rfl

theorem take_eq_succC {xs ys : List Cl} {k : Nat} (h : xs.take k = ys.take k) {x : Cl} (h1 : xs[k]? = some x) (h2 : ys[k]? = some x) : xs.take (k + 1) = ys.take (k + 1) := by
  rw [List.take_add_one, List.take_add_one, h, h1, h2]

set_option maxRecDepth 100000 in
set_option maxHeartbeats 1000000 in
theorem equalC_same (n : Nat) (A B : Option Addr) (c d : Nat) (xs ys : List Cl) (w : World) (hxn : xs.length = n) (hyn : ys.length = n)
    (hx : Rd w 4 A n (cellsC xs)) (hy : Rd w 4 B n (cellsC ys)) (hn : n ≤ maxLen) :
    Calls Try.prog 18 #[.slice A n c, .slice B n d] w fun e w' => e = .returned (.bool (decide (xs = ys))) ∧ ∃ q, w' = w.drewN q := by
  unfold maxLen at hn
  have HX := Lib.hid hxn
  have HY := Lib.hid hyn
  clear hxn hyn
  have hg := guardC
  go_enter Try.func18, Try.ntmps18
  go_wp2
  go_loopw [13] (fun i wr => ∃ k q : Nat, k ≤ n ∧ i = .int .i64 k ∧ wr = w.drewN q ∧ xs.take k = ys.take k) (fun i _ => n - (intOf i).toNat)
  case atStart => exact ⟨0, 0, Nat.zero_le _, rfl, rfl, rfl⟩
  case round =>
    obtain ⟨k, q, hk, rfl, rfl, ht⟩ := hrel
    have HT := Lib.hid ht
    clear ht
    by_cases hlt : k < n
    · obtain ⟨x, hxk⟩ : ∃ x, xs[k]? = some x := ⟨_, List.getElem?_eq_getElem (by rw [HX.out]; exact hlt)⟩
      obtain ⟨y, hyk⟩ : ∃ y, ys[k]? = some y := ⟨_, List.getElem?_eq_getElem (by rw [HY.out]; exact hlt)⟩
      obtain ⟨a, rfl, _, a1, a2, a3, a4⟩ := hx.clus hxk
      obtain ⟨b, rfl, _, b1, b2, b3, b4⟩ := hy.clus hyk
      have hq := neqC x y
      have HXK := Lib.hid hxk
      have HYK := Lib.hid hyk
      clear hxk hyk
      by_cases he : x = y
      · subst he
        simp only [decide_true, Bool.not_true] at hq
        obtain ⟨⟨x1, x2⟩, x3, x4⟩ := x
        simp only at a1 a2 a3 a4 b1 b2 b3 b4 hq
        go_wp2
        go_quiet (fail)
        go_wp2
        go_roundw
        case rel => exact ⟨k + 1, _, by omega, by go_num, rfl, take_eq_succC HT.out HXK.out HYK.out⟩
        case measure => simp [intOf]; omega
      · have hf : decide (xs = ys) = false := decide_eq_false (fun e => he (by have h1 := HXK.out; rw [e, HYK.out] at h1; injection h1 with h1; exact h1.symm))
        rw [decide_eq_false he] at hq
        simp only [Bool.not_false] at hq
        clear he
        obtain ⟨⟨x1, x2⟩, x3, x4⟩ := x
        obtain ⟨⟨y1, y2⟩, y3, y4⟩ := y
        simp only at a1 a2 a3 a4 b1 b2 b3 b4 hq
        go_wp2
        go_quiet (fail)
        go_wp2
        go_ret
        exact ⟨retB (by simp [hf]), _, World.drewN_drewN _ _ _⟩
    · have htr : decide (xs = ys) = true := decide_eq_true (by
        have h := HT.out
        rwa [List.take_of_length_le (by rw [HX.out]; omega), List.take_of_length_le (by rw [HY.out]; omega)] at h)
      go_wp2
      go_ret
      exact ⟨retB (by simp [htr]), _, rfl⟩

theorem equalC_b (A B : Option Addr) (n m c d : Nat) (xs ys : List Cl) (w : World) (hx : Rd w 4 A n (cellsC xs)) (hy : Rd w 4 B m (cellsC ys)) (hn : n ≤ maxLen) (hm : m ≤ maxLen) :
    Calls Try.prog 18 #[.slice A n c, .slice B m d] w fun e w' => e = .returned (.bool (decide (xs = ys))) ∧ Below w.heap.size w w' := by
  have hxl : xs.length = n := by have := hx.1; rw [cellsC_len] at this; omega
  have hyl : ys.length = m := by have := hy.1; rw [cellsC_len] at this; omega
  by_cases h : n = m
  · subst h
    exact (equalC_same n A B c d xs ys w hxl hyl hx hy hn).mono fun _ _ ⟨he, q, hq⟩ => ⟨he, hq ▸ drewBelow q⟩
  · have hne : decide (xs = ys) = false := decide_eq_false (fun e => h (by rw [← hxl, ← hyl, e]))
    have h1 : ((n : Int) == m) = false := by simp; omega
    have h2 : ((n : Int) != m) = true := by simp; omega
    clear hxl hyl
    go_enter Try.func18, Try.ntmps18
    go_wp2
    go_ret
    exact ⟨retB (by simp [hne]), Below.refl _ _⟩
end Go.Proofs.Ytnmefomipldalaa
