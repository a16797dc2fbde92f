/- naskhref30's Logical: the runs of levels, walked. -/
import Derived.Test.YtaiefneimjdmhaaRgD
import Derived.Test.YtaiefneimjdmhaaMem3
import Derived.BigQuiet
import Derived.Test.YtaiefneimjdmhaaRoD
namespace Go.Proofs.Ytaiefneimjdmhaa
open Go.RowKit
theorem runSlice : SliceOf Try.prog 34 38 3 24 := .mk_ (z := .agg #[.int .i64 0, .int .i64 0, .int .i64 0]) Try.underlying34 (by kernel_rfl) rfl
theorem int3 (a b c : Int) : ∀ u ∈ [Value.int .i64 a, Value.int .i64 b, Value.int .i64 c], u.oneCell' = true := by
  intro u hu
  simp at hu
  rcases hu with rfl | rfl | rfl <;> rfl
theorem cellsG_hi (R : List Rg) (a b c y : Int) : (cellsG (R ++ [(a, b, c)])).set (R.length * 3 + 1) (.int .i64 y) = cellsG (R ++ [(a, y, c)]) := by
  rw [cellsG_snoc, cellsG_snoc, List.set_append_right _ _ (by rw [cellsG_len]; omega), cellsG_len, show R.length * 3 + 1 - R.length * 3 = 1 by omega]
  rfl
set_option maxRecDepth 100000 in
set_option maxHeartbeats 4000000 in
theorem roLogical_any (A : Option Addr) (n c : Nat) (ls : List Int) (w : World) (hr : Rd w 1 A n (ls.map (Value.int .i64))) (hn : n ≤ 100000) :
    Calls Try.prog 24 #[.slice A n c] w fun e w' => ∃ v, e = .returned v ∧ w'.ownsRow w.heap.size 38 3 v (logR ls n).length (cellsG (logR ls n)) ∧ Below w.heap.size w w' := by
  have hl : ls.length = n := by simpa using hr.len1
  have HL := Lib.hid hl
  have HR := Lib.hid hr
  clear hl hr
  go_enter Try.func24, Try.ntmps24
  go_wp2
  go_loopw [3, 4] (fun v t wr => ∃ k : Nat, k ≤ n ∧ t = .int .i64 (k : Int) ∧ wr.ownsRow w.heap.size 38 3 v (logR ls k).length (cellsG (logR ls k)) ∧ Below w.heap.size w wr) (fun _ t _ => n - (intOf t).toNat)
  case atStart => exact ⟨0, Nat.zero_le _, rfl, ⟨rfl, .inl ⟨rfl, rfl⟩⟩, Below.refl _ _⟩
  case round =>
    obtain ⟨k, hk, rfl, hO, hB⟩ := hrel
    have hlk := logR_len ls k
    have HO := Lib.hid hO
    have HB := Lib.hid hB
    clear hO hB
    by_cases hlt : k < n
    · obtain ⟨x, hx⟩ : ∃ x, ls[k]? = some x := ⟨_, List.getElem?_eq_getElem (by rw [HL.out]; exact hlt)⟩
      obtain ⟨ad, rfl, hab, hcell⟩ := HR.out.at_ hlt
      have HCX := Lib.hid (hcell _ (by rw [List.getElem?_map, hx]; rfl) : w.cell? (ad.add k) = some (.int .i64 x))
      have cx := cell_below HB.out HCX.out
      have HST := Lib.hid (show logR ls (k + 1) = stepR (logR ls k) k x by rw [logR, List.getD_eq_getElem?_getD, hx]; rfl)
      have hkn : (k : Int) < (n : Int) := by omega
      have hk0 : (0 : Int) ≤ (k : Int) := by omega
      have hk5 : (k : Int) ≤ 100000 := by omega
      clear hx hcell
      obtain ⟨R, hR⟩ : ∃ R, logR ls k = R := ⟨_, rfl⟩
      rw [hR] at HO HST hlk
      clear hR
      rcases List.eq_nil_or_concat R with rfl | ⟨R0, ⟨a, b, e⟩, rfl⟩
      · rw [stepR_nil] at HST
        obtain ⟨A0, cv, hv, hcv⟩ := own_form HO.out
        simp only [List.length_nil] at hv
        subst hv
        go_wp2
        go_quiet (fail)
        have HOq := Lib.hid (own_below HO.out (drewBelow nq))
        have HBq := Lib.hid (below_drew HB.out nq)
        have hsz := HBq.out.size
        generalize wr.drewN nq = wq at *
        have cx3 := cell_below HBq.out HCX.out
        clear cx
        go_wp2_with (first
          | (at_builtin; refine wpList_app rfl _ _ _ rfl runSlice (by decide) _ 0 _ rfl (HOq.out.alloc _) ⟨wq.heap.size, 0, none⟩ 1 1 [.int .i64 (k : Int), .int .i64 ((k : Int) + 1), .int .i64 x] rfl rfl (cells_new wq [.int .i64 (k : Int), .int .i64 ((k : Int) + 1), .int .i64 x] 38) (int3 _ _ _) (by omega) (by unfold maxLen; omega) (Nat.le_trans hsz (by simp)) ?_; intro v1 w3 hown3 hg3 hat3)
          | fail)
        have HO3 : Hid (w3.ownsRow w.heap.size 38 3 v1 (logR ls (k + 1)).length (cellsG (logR ls (k + 1)))) := Lib.hid (by rw [HST.out]; exact hown3)
        have HB3 := Lib.hid (below_app (HBq.out.alloc hsz _) hg3 (HOq.out.alloc _) (Nat.le_trans hsz (by simp)))
        clear hown3 hg3 hat3
        go_roundw
        case rel => exact ⟨k + 1, by omega, by go_num, HO3.out, HB3.out⟩
        case measure => simp [intOf]; omega
      · rw [List.concat_eq_append] at HO HST hlk
        rw [List.length_append, List.length_singleton] at hlk
        have HO1 : Hid (wr.ownsRow w.heap.size 38 3 u3 (R0.length + 1) (cellsG (R0 ++ [(a, b, e)]))) := Lib.hid (by have := HO.out; rwa [List.length_append, List.length_singleton] at this)
        clear HO
        obtain ⟨g, cg, hv, hbg, hlg⟩ := HO1.out.form (by omega)
        obtain ⟨A0, cv, hv2, hcv⟩ := own_form HO1.out
        subst hv
        injection hv2 with e1 _ e2
        subst e1 e2
        obtain ⟨q, hq⟩ : ∃ q, R0.length = q := ⟨_, rfl⟩
        have HQ := Lib.hid hq
        have c2 : wr.cell? ⟨g, q * 3 + 2, none⟩ = some (.int .i64 e) := by
          rw [HO1.out.cellAt (q * 3 + 2) (by omega)]
          exact (cellsG_at (l := R0 ++ [(a, b, e)]) (k := q) (s := (a, b, e)) (by rw [List.getElem?_append_right (by omega), hq, Nat.sub_self]; rfl)).2.2
        obtain ⟨⟨u1, cu1⟩, fu1⟩ := own_slot HO1.out (j := q * 3 + 1) (by omega)
        rw [hq] at hlk HO1
        rw [hq]
        have hq0 : (0 : Int) < (q : Int) + 1 := by omega
        have hq1 : ((q : Int) + 1) - 1 = (q : Int) := by omega
        have hq2 : (q : Int) < (q : Int) + 1 := by omega
        clear hq
        by_cases hxe : e = x
        · subst hxe
          rw [stepR_same] at HST
          go_wp2
          go_quiet (fail)
          have HOq := Lib.hid (own_below HO1.out (drewBelow nq))
          have HBq := Lib.hid (below_drew HB.out nq)
          obtain ⟨⟨u2, cu2⟩, fu2⟩ := own_slot HOq.out (j := q * 3 + 1) (by omega)
          have HO2 := Lib.hid ((HOq.out.stored (q * 3 + 1) (.int .i64 ((k : Int) + 1))).1)
          have HB2 := Lib.hid (HBq.out.setCell (p := ⟨g, q * 3 + 1, none⟩) (HOq.out.lt g rfl).1 (.int .i64 ((k : Int) + 1)))
          generalize wr.drewN nq = wq at *
          clear cx cu1 fu1 c2
          go_wp2
          go_roundw
          case rel => exact ⟨k + 1, by omega, by go_num, by rw [HST.out, List.length_append, List.length_singleton, HQ.out, ← cellsG_hi R0 a b e, HQ.out]; exact HO2.out, HB2.out⟩
          case measure => simp [intOf]; omega
        · have gx : (e == x) = false := by simp [hxe]
          rw [stepR_new _ _ _ _ _ _ hxe] at HST
          clear hxe
          go_wp2
          go_quiet (fail)
          have HOq := Lib.hid (own_below HO1.out (drewBelow nq))
          have HBq := Lib.hid (below_drew HB.out nq)
          have hsz := HBq.out.size
          generalize wr.drewN nq = wq at *
          have cx3 := cell_below HBq.out HCX.out
          clear cx
          go_wp2_with (first
            | (at_builtin; refine wpList_app rfl _ _ _ rfl runSlice (by decide) _ (q + 1) _ rfl (HOq.out.alloc _) ⟨wq.heap.size, 0, none⟩ 1 1 [.int .i64 (k : Int), .int .i64 ((k : Int) + 1), .int .i64 x] rfl rfl (cells_new wq [.int .i64 (k : Int), .int .i64 ((k : Int) + 1), .int .i64 x] 38) (int3 _ _ _) (by omega) (by unfold maxLen; omega) (Nat.le_trans hsz (by simp)) ?_; intro v1 w3 hown3 hg3 hat3)
            | fail)
          have HO3 : Hid (w3.ownsRow w.heap.size 38 3 v1 (logR ls (k + 1)).length (cellsG (logR ls (k + 1)))) := Lib.hid (by rw [HST.out]; rw [List.length_append, List.length_append, List.length_singleton, List.length_singleton, HQ.out, cellsG_snoc]; exact hown3)
          have HB3 := Lib.hid (below_app (HBq.out.alloc hsz _) hg3 (HOq.out.alloc _) (Nat.le_trans hsz (by simp)))
          clear hown3 hg3 hat3
          go_roundw
          case rel => exact ⟨k + 1, by omega, by go_num, HO3.out, HB3.out⟩
          case measure => simp [intOf]; omega
    · obtain rfl : k = n := by omega
      go_wp2
      go_ret
      exact ⟨_, rfl, HO.out, HB.out⟩
end Go.Proofs.Ytaiefneimjdmhaa
