/- breaks.stops, walked: breaks in order, each with the one that it tells. -/
import Derived.BigQuiet
import Derived.Test.YtdgomaoikeffhaaBrS1
import Derived.Test.YtdgomaoikeffhaaMem3
namespace Go.Proofs.Ytdgomaoikeffhaa
open Go.RowKit Go.Shelf

def encT (s : Int × Int × Int) : List Value := [.int .i64 s.1, .int .i64 s.2.1, .int .i64 s.2.2]
def cellsT (l : List (Int × Int × Int)) : List Value := l.flatMap encT
theorem cellsT_len (l : List (Int × Int × Int)) : (cellsT l).length = l.length * 3 := flatMap_len encT 3 (fun _ => rfl) l
theorem cellsT_cons (s : Int × Int × Int) (l : List (Int × Int × Int)) : cellsT (s :: l) = .int .i64 s.1 :: .int .i64 s.2.1 :: .int .i64 s.2.2 :: cellsT l := rfl
theorem cellsT_at : ∀ {l : List (Int × Int × Int)} {k : Nat} {s : Int × Int × Int}, l[k]? = some s → (cellsT l)[k * 3]? = some (.int .i64 s.1) ∧ (cellsT l)[k * 3 + 1]? = some (.int .i64 s.2.1) ∧ (cellsT l)[k * 3 + 2]? = some (.int .i64 s.2.2)
  | [], k, s, h => by simp at h
  | t :: l, 0, s, h => by
    simp at h
    subst h
    exact ⟨rfl, rfl, rfl⟩
  | t :: l, k + 1, s, h => by
    have := cellsT_at (l := l) (k := k) (s := s) (by simpa using h)
    rw [cellsT_cons]
    have e0 : (k + 1) * 3 = k * 3 + 1 + 1 + 1 := by omega
    have e1 : (k + 1) * 3 + 1 = (k * 3 + 1) + 1 + 1 + 1 := by omega
    have e2 : (k + 1) * 3 + 2 = (k * 3 + 2) + 1 + 1 + 1 := by omega
    rw [e2, e1, e0]
    simpa using this
theorem cellsT_set2 : ∀ {l : List (Int × Int × Int)} {k : Nat} {s : Int × Int × Int} (x : Int), l[k]? = some s → (cellsT l).set (k * 3 + 2) (.int .i64 x) = cellsT (l.set k (s.1, s.2.1, x))
  | [], k, s, x, h => by simp at h
  | t :: l, 0, s, x, h => by
    simp at h
    subst h
    rfl
  | t :: l, k + 1, s, x, h => by
    have := cellsT_set2 (l := l) (k := k) (s := s) x (by simpa using h)
    have e2 : (k + 1) * 3 + 2 = (k * 3 + 2) + 1 + 1 + 1 := by omega
    rw [e2, cellsT_cons, List.set_cons_succ, List.set_cons_succ, List.set_cons_succ, List.set_cons_succ, cellsT_cons, ← this]
theorem cellsZ_cons (s : Sp) (l : List Sp) : cellsZ (s :: l) = .int .i64 s.1 :: .int .i64 s.2 :: .int .i64 0 :: cellsZ l := rfl
theorem cellsZ_set3 : ∀ {l : List Sp} {k : Nat} (a b : Int), k < l.length → (((cellsZ l).set (k * 3) (.int .i64 a)).set (k * 3 + 1) (.int .i64 b)).set (k * 3 + 2) (.int .i64 0) = cellsZ (l.set k (a, b))
  | [], k, a, b, h => by simp at h
  | t :: l, 0, a, b, h => rfl
  | t :: l, k + 1, a, b, h => by
    have := cellsZ_set3 (l := l) (k := k) a b (by simpa using h)
    rw [List.set_cons_succ, cellsZ_cons, cellsZ_cons, ← this]
    have e0 : (k + 1) * 3 = k * 3 + 1 + 1 + 1 := by omega
    have e1 : (k + 1) * 3 + 1 = (k * 3 + 1) + 1 + 1 + 1 := by omega
    have e2 : (k + 1) * 3 + 2 = (k * 3 + 2) + 1 + 1 + 1 := by omega
    rw [e2, e1, e0]
    simp only [List.set_cons_succ]
theorem cellsZ_zero (n : Nat) : cellsZ (List.replicate n (0, 0)) = List.replicate (n * 3) (.int .i64 0) := by
  induction n with
  | zero => rfl
  | succ n ih => rw [List.replicate_succ, cellsZ_cons, ih, show (n + 1) * 3 = n * 3 + 1 + 1 + 1 by omega]; rfl
/-- Breaks with their numbers, k of them put down. -/
def fillB (bs : List Int) (k : Nat) : List Sp := (numB bs).take k ++ List.replicate (bs.length - k) (0, 0)
theorem fillB_len (bs : List Int) {k : Nat} (h : k ≤ bs.length) : (fillB bs k).length = bs.length := by
  unfold fillB
  rw [List.length_append, List.length_take, numB_len, List.length_replicate]
  omega
theorem fillB_set {bs : List Int} {k : Nat} {b : Int} (h : bs[k]? = some b) : (fillB bs k).set k (b, (k : Int)) = fillB bs (k + 1) := by
  have hk := (List.getElem?_eq_some_iff.1 h).1
  unfold fillB
  obtain ⟨m, hm⟩ : ∃ m, bs.length - k = m + 1 := ⟨bs.length - k - 1, by omega⟩
  have hl : ((numB bs).take k).length = k := by rw [List.length_take, numB_len]; omega
  rw [hm, show bs.length - (k + 1) = m by omega, List.set_append, if_neg (by omega), hl, Nat.sub_self, List.replicate_succ, List.set_cons_zero, List.take_add_one, numB_get h]
  simp
theorem fillB_all (bs : List Int) : fillB bs bs.length = numB bs := by
  unfold fillB
  rw [Nat.sub_self, List.take_of_length_le (by rw [numB_len]; omega)]
  simp
theorem fillB_none (bs : List Int) : fillB bs 0 = List.replicate bs.length (0, 0) := by simp [fillB]
theorem cells_stp0 (Q : List Sp) : cellsZ Q = cellsT (stpL Q 0) := by
  unfold cellsZ cellsT stpL
  rw [List.flatMap_def, List.flatMap_def]
  congr 1
  apply List.ext_getElem?
  intro i
  rw [List.getElem?_map, List.getElem?_map, List.getElem?_mapIdx]
  cases Q[i]? <;> rfl
theorem stpL_next {Q : List Sp} {i : Nat} {q : Sp} (h : Q[i]? = some q) : (stpL Q i).set i (q.1, q.2, near (Q.map (·.2)) q.2 i) = stpL Q (i + 1) := by
  apply List.ext_getElem?
  intro j
  have hi := (List.getElem?_eq_some_iff.1 h).1
  by_cases hj : i = j
  · subst hj
    rw [List.getElem?_set_self (by rw [stpL_len]; omega), stpL_get h, if_pos (by omega)]
  · rw [List.getElem?_set_ne hj]
    simp only [stpL, List.getElem?_mapIdx]
    congr 1
    funext q
    congr 2
    by_cases h1 : j < i
    · rw [if_pos h1, if_pos (by omega)]
    · rw [if_neg h1, if_neg (by omega)]
theorem stopSlice : SliceOf Try.prog 56 66 3 24 := .mk_ (z := .agg #[.int .i64 0, .int .i64 0, .int .i64 0]) Try.underlying56 (by kernel_rfl) rfl
theorem stopInfo : (Try.prog.info? 66).map (fun i => (i.zero, i.size, i.bytes)) = some (some (.agg #[.int .i64 0, .int .i64 0, .int .i64 0]), 3, 24) := by kernel_rfl
theorem own_store3 {w : World} {base : Nat} {e : TypeId} {size g n cap : Nat} {xs : List Value} (h : w.ownsRow base e size (.slice (some ⟨g, 0, none⟩) n cap) n xs) (j : Nat) (a b c : Value) :
    (((w.setCell ⟨g, j, none⟩ a).setCell ⟨g, j + 1, none⟩ b).setCell ⟨g, j + 2, none⟩ c).ownsRow base e size (.slice (some ⟨g, 0, none⟩) n cap) n (((xs.set j a).set (j + 1) b).set (j + 2) c) :=
  (((h.stored j a).1.stored (j + 1) b).1.stored (j + 2) c).1
set_option maxRecDepth 100000 in
set_option maxHeartbeats 4000000 in
theorem brStops_any (A : Option Addr) (n c : Nat) (bs : List Int) (w : World) (hr : Rd w 1 A n (bs.map (Value.int .i64))) (hn : n ≤ 100000) :
    Calls Try.prog 30 #[.slice A n c] w fun e w' => e = .returned (.slice (some ⟨w.heap.size, 0, none⟩) n n) ∧ ∃ Q, OrdB Q bs ∧ w'.ownsRow w.heap.size 66 3 (.slice (some ⟨w.heap.size, 0, none⟩) n n) n (cellsT (stpL Q n)) ∧ Below w.heap.size w w' := by
  have hl : bs.length = n := by simpa using hr.len1
  have HL := Lib.hid hl
  have HR := Lib.hid hr
  clear hr hl
  go_enter Try.func30, Try.ntmps30
  go_wp2_with (at_make; refine wpList_mkZ rfl _ _ _ rfl Try.underlying56 stopInfo (z0 := .int .i64 0) (by decide) (by intro j hj; match j, hj with | 0, _ => rfl | 1, _ => rfl | 2, _ => rfl) (base := w.heap.size) (kl := .i64) (kc := .i64) n n n rfl rfl rfl rfl (by omega) (by unfold maxLen; omega) (Nat.le_refl _) ?_; intro w1 hown hg1)
  have hb1 := below_make (w := w) (w' := w1) hg1
  obtain ⟨g, hgg⟩ : ∃ g, w.heap.size = g := ⟨_, rfl⟩
  rw [hgg] at hown hb1 ⊢
  have HO := Lib.hid (show w1.ownsRow g 66 3 (.slice (some ⟨g, 0, none⟩) n n) n (cellsZ (fillB bs 0)) by rw [fillB_none, HL.out, cellsZ_zero]; exact hown)
  clear hown hg1
  go_loopw [13] (fun i wr => ∃ k : Nat, k ≤ n ∧ i = .int .i64 (k : Int) ∧ wr.ownsRow g 66 3 (.slice (some ⟨g, 0, none⟩) n n) n (cellsZ (fillB bs k)) ∧ Below g w wr) (fun i _ => n - (intOf i).toNat)
  case atStart => exact ⟨0, Nat.zero_le _, rfl, HO.out, hb1⟩
  case round =>
    obtain ⟨k, hk, rfl, hown, hb⟩ := hrel
    clear HO hb1
    by_cases hlt : k < n
    · obtain ⟨b, hbk⟩ : ∃ b, bs[k]? = some b := ⟨_, List.getElem?_eq_getElem (by rw [HL.out]; exact hlt)⟩
      obtain ⟨ad, rfl, hab, hcell⟩ := HR.out.at_ hlt
      have cb : wr.cell? (ad.add k) = some (.int .i64 b) := (hb.cell (p := ad.add k) (by rw [blockAdd]; omega)).trans (hcell _ (by rw [List.getElem?_map, hbk]; rfl))
      have HF := Lib.hid (show (((cellsZ (fillB bs k)).set (k * 3) (.int .i64 b)).set (k * 3 + 1) (.int .i64 (k : Int))).set (k * 3 + 2) (.int .i64 0) = cellsZ (fillB bs (k + 1)) by rw [cellsZ_set3 _ _ (by rw [fillB_len _ (by rw [HL.out]; omega), HL.out]; omega), fillB_set hbk])
      obtain ⟨⟨u0, x0⟩, z0⟩ := own_slot hown (j := k * 3) (by omega)
      obtain ⟨⟨u1, x1⟩, z1⟩ := own_slot hown (j := k * 3 + 1) (by omega)
      obtain ⟨⟨u2, x2⟩, z2⟩ := own_slot hown (j := k * 3 + 2) (by omega)
      have HS := Lib.hid (own_store3 hown (k * 3) (.int .i64 b) (.int .i64 (k : Int)) (.int .i64 0))
      have hbe := Lib.hid (((hb.setCell (p := ⟨g, k * 3, none⟩) (Nat.le_refl _) (.int .i64 b)).setCell (p := ⟨g, k * 3 + 1, none⟩) (Nat.le_refl _) (.int .i64 (k : Int))).setCell (p := ⟨g, k * 3 + 2, none⟩) (Nat.le_refl _) (.int .i64 0))
      clear hown hb hcell hbk
      go_wp2_with fail
      go_roundw
      case rel => exact ⟨k + 1, by omega, by go_num, by rw [← HF.out]; exact HS.out, hbe.out⟩
      case measure => simp [intOf]; omega
    · obtain rfl : k = n := by omega
      have HO := Lib.hid (show wr.ownsRow g 66 3 (.slice (some ⟨g, 0, none⟩) k k) k (cellsZ (numB bs)) by rw [← fillB_all, HL.out]; exact hown)
      have HB := Lib.hid hb
      clear hown hb
      go_wp2_with fail
      refine (sortT_any _ egBrCmp brCmp_any HO.out (by omega)).mono ?_
      rintro e w2 ⟨rfl, Q, hperm, hrise, ho2, hg2⟩
      have hord : OrdB Q bs := ⟨hperm, hrise⟩
      have HORD := Lib.hid hord
      have hQl : Q.length = k := by rw [hperm.length_eq, numB_len, HL.out]
      have HQL := Lib.hid hQl
      have HB2 := Lib.hid (HB.out.grown hg2 (by have := HB.out.size; omega) (fun k e => by cases e; exact Nat.le_refl _))
      have HO2 := Lib.hid (show w2.ownsRow g 66 3 (.slice (some ⟨g, 0, none⟩) k k) k (cellsT (stpL Q 0)) by rw [← cells_stp0]; exact ho2)
      clear hord hperm hrise ho2 hg2 hQl
      go_wp2_with fail
      go_loopw [29] (fun t wr => ∃ i : Nat, i ≤ k ∧ t = .int .i64 (i : Int) ∧ wr.ownsRow g 66 3 (.slice (some ⟨g, 0, none⟩) k k) k (cellsT (stpL Q i)) ∧ Below g w wr) (fun t _ => k - (intOf t).toNat)
      case atStart => exact ⟨0, Nat.zero_le _, rfl, HO2.out, HB2.out⟩
      case round =>
        obtain ⟨i, hi, rfl, hown, hb⟩ := hrel
        clear HO HB HO2 HB2
        have HOW := Lib.hid hown
        have HBW := Lib.hid hb
        clear hown hb
        by_cases hlt : i < k
        · obtain ⟨q, hq⟩ : ∃ q, Q[i]? = some q := ⟨_, List.getElem?_eq_getElem (by rw [HQL.out]; exact hlt)⟩
          have HQ := Lib.hid hq
          obtain ⟨x, hx⟩ : ∃ x, q.2 = x := ⟨_, rfl⟩
          have ci := HOW.out.cells (g := g) rfl (i * 3 + 1) _ (cellsT_at (stpL_get (i := i) hq)).2.1
          rw [addNew] at ci
          simp only [hx] at ci
          have HX := Lib.hid hx
          have hik : (i : Int) < (k : Int) := by omega
          have hi0 : (0 : Int) ≤ (i : Int) := by omega
          have hi5 : (i : Int) ≤ 100000 := by omega
          clear hq hx
          go_wp2_with fail
          go_loopw [7] (fun h wi => ∃ (z : Int) (p : Nat), -1 ≤ z ∧ z < (i : Int) ∧ h = .int .i64 z ∧ near (Q.map (·.2)) x i = near (Q.map (·.2)) x (z + 1).toNat ∧ wi = wr.drewN p) (fun h _ => (intOf h + 1).toNat)
          case atStart => exact ⟨(i : Int) - 1, 0, by omega, by omega, rfl, by rw [show ((i : Int) - 1 + 1).toNat = i by omega], rfl⟩
          case round =>
            obtain ⟨z, p, hz1, hz2, rfl, hnr, rfl⟩ := hrel
            have HNR := Lib.hid hnr
            have HP := Lib.hid (show ∀ m, (Q.map (·.2)).getD m 0 = (Q.map (·.2)).getD m 0 from fun _ => rfl)
            -- what the end of the search stores
            have hfin : ∀ (y : Int) (r : Nat), near (Q.map (·.2)) x i = y → Hid (((wr.drewN r).setCell ⟨g, i * 3 + 2, none⟩ (.int .i64 y)).ownsRow g 66 3 (.slice (some ⟨g, 0, none⟩) k k) k (cellsT (stpL Q (i + 1))) ∧ Below g w ((wr.drewN r).setCell ⟨g, i * 3 + 2, none⟩ (.int .i64 y))) := fun y r hy => Lib.hid ⟨by
              have h1 := ((own_below HOW.out (drewBelow r)).stored (i * 3 + 2) (.int .i64 y)).1
              rw [cellsT_set2 _ (stpL_get HQ.out)] at h1
              rw [← stpL_next HQ.out, HX.out, hy]
              rw [HX.out] at h1
              exact h1, (HBW.out.trans ((drewBelow r).mono (by have := HBW.out.size; omega))).setCell (p := ⟨g, i * 3 + 2, none⟩) (Nat.le_refl _) _⟩
            have hslot : ∀ r, (∃ u, (wr.drewN r).cell? ⟨g, i * 3 + 2, none⟩ = some u) ∧ (wr.drewN r).frozen? ⟨g, i * 3 + 2, none⟩ = false := fun r => own_slot (own_below HOW.out (drewBelow r)) (by omega)
            have HFIN := Lib.hid hfin
            have HSLOT := Lib.hid hslot
            clear hfin hslot hnr
            by_cases hzm : z = -1
            · subst hzm
              have HD := Lib.hid (HNR.out.trans (show near (Q.map (·.2)) x ((-1 : Int) + 1).toNat = -1 from rfl))
              go_wp2
              go_quiet (fail)
              obtain ⟨⟨u9, hu9⟩, hf9⟩ := HSLOT.out (p + nq)
              have HFF := HFIN.out (-1) (p + nq) HD.out
              go_wp2
              go_roundw
              case rel => exact ⟨i + 1, by omega, by go_num, HFF.out.1, HFF.out.2⟩
              case measure => simp [intOf]; omega
            · obtain ⟨h, rfl⟩ : ∃ h : Nat, z = (h : Int) := ⟨z.toNat, by omega⟩
              have hh : h < i := by omega
              obtain ⟨s, hs⟩ : ∃ s, Q[h]? = some s := ⟨_, List.getElem?_eq_getElem (by rw [HQL.out]; omega)⟩
              have hg := getD_of hs
              obtain ⟨y, hy⟩ : ∃ y, s.2 = y := ⟨_, rfl⟩
              have hat := cellsT_at (stpL_get (i := i) hs)
              rw [if_pos hh] at hat
              have ch := HOW.out.cells (g := g) rfl (h * 3 + 1) _ hat.2.1
              have ch2 := HOW.out.cells (g := g) rfl (h * 3 + 2) _ hat.2.2
              rw [addNew] at ch ch2
              simp only [hy] at ch ch2 hg
              have hhk : (h : Int) < (k : Int) := by omega
              have hh0 : (0 : Int) ≤ (h : Int) := by omega
              have hh5 : (h : Int) ≤ 100000 := by omega
              have HG := Lib.hid hg
              clear hs hat hy hg hzm
              have e1 : ((h : Int) + 1).toNat = h + 1 := by omega
              rw [e1] at HNR
              clear e1
              by_cases hlt2 : x < y
              · have d1 : decide (x < y) = true := decide_eq_true hlt2
                obtain ⟨z2, hz2'⟩ : ∃ z2, near (Q.map (·.2)) y h = z2 := ⟨_, rfl⟩
                have hnb := near_le (Q.map (·.2)) y h
                rw [hz2'] at ch2 hnb
                have HN2 := Lib.hid (HNR.out.trans (near_step (ws := Q.map (·.2)) (x := x) (h := h) (h' := (z2 + 1).toNat) (by rw [HG.out]; exact hlt2) (by rw [HG.out, hz2']; omega)))
                clear hlt2 hz2'
                go_wp2
                go_quiet (fail)
                go_wp2
                go_roundw
                case rel => exact ⟨z2, p + nq, by omega, by omega, rfl, HN2.out, rfl⟩
                case measure => simp [intOf]; omega
              · have d1 : decide (x < y) = false := decide_eq_false hlt2
                have HD := Lib.hid (HNR.out.trans (near_here (ws := Q.map (·.2)) (x := x) (h := h) (by rw [HG.out]; omega)))
                clear hlt2
                go_wp2
                go_quiet (fail)
                obtain ⟨⟨u9, hu9⟩, hf9⟩ := HSLOT.out (p + nq)
                have HFF := HFIN.out (h : Int) (p + nq) HD.out
                go_wp2
                go_roundw
                case rel => exact ⟨i + 1, by omega, by go_num, HFF.out.1, HFF.out.2⟩
                case measure => simp [intOf]; omega
        · obtain rfl : i = k := by omega
          go_wp2_with fail
          go_ret
          rw [hgg]
          exact ⟨rfl, Q, HORD.out, HOW.out, HBW.out⟩
end Go.Proofs.Ytdgomaoikeffhaa
