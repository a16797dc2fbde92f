/- runs.count and runs.Logical, walked. -/
import Derived.Test.YtaiefneimjdmhaaRoL
import Derived.Test.YtaiefneimjdmhaaSpBlk
namespace Go.Proofs.Ytaiefneimjdmhaa
open Go.RowKit
set_option maxRecDepth 100000 in
set_option maxHeartbeats 2000000 in
theorem ruCount_any (A : Option Addr) (n c : Nat) (ls : List Int) (w : World) (hr : Rd w 1 A n (ls.map (Value.int .i64))) (hn : n ≤ 100000) :
    Calls Try.prog 38 #[.slice A n c] w fun e w' => ∃ p : Nat, p ≤ n ∧ e = .returned (.int .i64 (p : Int)) ∧ w' = w := by
  have hl : ls.length = n := by simpa using hr.len1
  have HL := Lib.hid hl
  have HR := Lib.hid hr
  clear hl hr
  go_enter Try.func38, Try.ntmps38
  go_wp2
  go_loopw [3, 8] (fun v t wr => ∃ k p : Nat, k ≤ n ∧ p ≤ k ∧ v = .int .i64 (p : Int) ∧ t = .int .i64 (k : Int) ∧ wr = w) (fun _ t _ => n - (intOf t).toNat)
  case atStart => exact ⟨0, 0, Nat.zero_le _, Nat.le_refl _, rfl, rfl, rfl⟩
  case round =>
    obtain ⟨k, p, hk, hp, rfl, rfl, rfl⟩ := hrel
    by_cases hlt : k < n
    · obtain ⟨x, hx⟩ : ∃ x, ls[k]? = some x := ⟨_, List.getElem?_eq_getElem (by rw [HL.out]; exact hlt)⟩
      obtain ⟨ad, rfl, hab, hcell⟩ := HR.out.at_ hlt
      have cx := hcell (.int .i64 x) (by rw [List.getElem?_map, hx]; rfl)
      have hkn : (k : Int) < (n : Int) := by omega
      have hk0 : (0 : Int) ≤ (k : Int) := by omega
      have hk5 : (k : Int) ≤ 100000 := by omega
      have hp5 : (p : Int) ≤ 100000 := by omega
      clear hx hcell
      by_cases h0 : k = 0
      · subst h0
        have cx' : wr.cell? ad = some (.int .i64 x) := by simpa [Addr.add] using cx
        go_wp2
        go_roundw
        case rel => exact ⟨1, p + 1, by omega, by omega, by go_num, by go_num, by first | rfl | trivial⟩
        case measure => simp [intOf]; omega
      · obtain ⟨j, rfl⟩ : ∃ j, k = j + 1 := ⟨k - 1, by omega⟩
        obtain ⟨y, hy⟩ : ∃ y, ls[j]? = some y := ⟨_, List.getElem?_eq_getElem (by rw [HL.out]; omega)⟩
        obtain ⟨_, e9, _, hcell2⟩ := HR.out.at_ (show j < n by omega)
        obtain rfl := Option.some.inj e9
        have cy := hcell2 (.int .i64 y) (by rw [List.getElem?_map, hy]; rfl)
        obtain ⟨kk, hkk⟩ : ∃ kk, j + 1 = kk := ⟨_, rfl⟩
        rw [hkk] at cx hkn hk0 hk5 hp hlt hk
        rw [hkk]
        have z0 : ((kk : Int) == 0) = false := by simp; omega
        have z1 : (kk : Int) - 1 = (j : Int) := by omega
        have z2 : (j : Int) < (n : Int) := by omega
        have z3 : (0 : Int) ≤ (j : Int) := by omega
        clear hy hcell2 e9 h0 hkk
        cases hd : (y != x) with
        | true =>
          go_wp2
          go_roundw
          case rel => exact ⟨kk + 1, p + 1, by omega, by omega, by go_num, by go_num, by first | rfl | trivial⟩
          case measure => simp [intOf]; omega
        | false =>
          go_wp2
          go_roundw
          case rel => exact ⟨kk + 1, p, by omega, by omega, rfl, by go_num, by first | rfl | trivial⟩
          case measure => simp [intOf]; omega
    · obtain rfl : k = n := by omega
      go_wp2
      go_ret
      exact ⟨p, hp, rfl, rfl⟩
set_option maxRecDepth 100000 in
set_option maxHeartbeats 4000000 in
theorem ruLogical_any (A : Option Addr) (n c : Nat) (ls : List Int) (w : World) (hr : Rd w 1 A n (ls.map (Value.int .i64))) (hn : n ≤ 100000) :
    Calls Try.prog 23 #[.slice A n c] w fun e w' => ∃ v, e = .returned v ∧ w'.ownsRow w.heap.size 38 3 v (logR ls n).length (cellsG (logR ls n)) ∧ Below w.heap.size w w' := by
  have hl : ls.length = n := by simpa using hr.len1
  have HL := Lib.hid hl
  have HR := Lib.hid hr
  have HCN := Lib.hid (ruCount_any A n c ls w hr hn)
  clear hl hr
  go_enter Try.func23, Try.ntmps23
  go_wp2_with (first
    | (go_at_call 38; refine (HCN.out).mono ?_; rintro e w1 ⟨p, hp, rfl, rfl⟩; have hp0 : (0 : Int) ≤ (p : Int) := (by omega); have hp5 : (p : Int) ≤ 100000 := (by omega))
    | (refine wpList_mk rfl _ _ _ rfl (base := w1.heap.size) runSlice (p : Int) p rfl rfl rfl (by omega) (by unfold maxLen; omega) (Nat.le_refl _) ?_; intro v2 w2 hown2 hg2)
    | fail)
  have HO0 : Hid (w2.ownsRow w1.heap.size 38 3 v2 0 []) := Lib.hid hown2
  have HB0 := Lib.hid (below_make hg2)
  obtain ⟨A2, c2, rfl, hc2⟩ := own_form HO0.out
  clear hown2 hg2
  go_loopw [3, 12] (fun v t wr => ∃ k : Nat, k ≤ n ∧ t = .int .i64 (k : Int) ∧ wr.ownsRow w1.heap.size 38 3 v (logR ls k).length (cellsG (logR ls k)) ∧ Below w1.heap.size w1 wr) (fun _ t _ => n - (intOf t).toNat)
  case atStart => exact ⟨0, Nat.zero_le _, rfl, HO0.out, HB0.out⟩
  case round =>
    obtain ⟨k, hk, rfl, hO, hB⟩ := hrel
    have hlk := logR_len ls k
    have HO := Lib.hid hO
    have HB := Lib.hid hB
    clear hO hB
    by_cases hlt : k < n
    · obtain ⟨x, hx⟩ : ∃ x, ls[k]? = some x := ⟨_, List.getElem?_eq_getElem (by rw [HL.out]; exact hlt)⟩
      obtain ⟨ad, rfl, hab, hcell⟩ := HR.out.at_ hlt
      have HCX := Lib.hid (hcell _ (by rw [List.getElem?_map, hx]; rfl) : w1.cell? (ad.add k) = some (.int .i64 x))
      have cx := cell_below HB.out HCX.out
      have HST := Lib.hid (show logR ls (k + 1) = stepR (logR ls k) k x by rw [logR, List.getD_eq_getElem?_getD, hx]; rfl)
      have hkn : (k : Int) < (n : Int) := by omega
      have hk0 : (0 : Int) ≤ (k : Int) := by omega
      have hk5 : (k : Int) ≤ 100000 := by omega
      clear hx hcell
      obtain ⟨R, hR⟩ : ∃ R, logR ls k = R := ⟨_, rfl⟩
      rw [hR] at HO HST hlk
      clear hR
      rcases List.eq_nil_or_concat R with rfl | ⟨R0, ⟨a, b, e⟩, rfl⟩
      · rw [stepR_nil] at HST
        obtain ⟨A0, cv, hv, hcv⟩ := own_form HO.out
        simp only [List.length_nil] at hv
        subst hv
        have HOq := HO
        have HBq := HB
        have hsz := HBq.out.size
        go_wp2_with (first
          | (at_builtin; refine wpList_app rfl _ _ _ rfl runSlice (by decide) _ 0 _ rfl (HOq.out.alloc _) ⟨wr.heap.size, 0, none⟩ 1 1 [.int .i64 (k : Int), .int .i64 ((k : Int) + 1), .int .i64 x] rfl rfl (cells_new wr [.int .i64 (k : Int), .int .i64 ((k : Int) + 1), .int .i64 x] 38) (int3 _ _ _) (by omega) (by unfold maxLen; omega) (Nat.le_trans hsz (by simp)) ?_; intro v1 w3 hown3 hg3 hat3)
          | fail)
        have HO3 : Hid (w3.ownsRow w1.heap.size 38 3 v1 (logR ls (k + 1)).length (cellsG (logR ls (k + 1)))) := Lib.hid (by rw [HST.out]; exact hown3)
        have HB3 := Lib.hid (below_app (HBq.out.alloc hsz _) hg3 (HOq.out.alloc _) (Nat.le_trans hsz (by simp)))
        clear hown3 hg3 hat3
        go_roundw
        case rel => exact ⟨k + 1, by omega, by go_num, HO3.out, HB3.out⟩
        case measure => simp [intOf]; omega
      · rw [List.concat_eq_append] at HO HST hlk
        rw [List.length_append, List.length_singleton] at hlk
        have HO1 : Hid (wr.ownsRow w1.heap.size 38 3 u3 (R0.length + 1) (cellsG (R0 ++ [(a, b, e)]))) := Lib.hid (by have := HO.out; rwa [List.length_append, List.length_singleton] at this)
        clear HO
        obtain ⟨g, cg, hv, hbg, hlg⟩ := HO1.out.form (by omega)
        obtain ⟨A0, cv, hv2, hcv⟩ := own_form HO1.out
        subst hv
        injection hv2 with e1 _ e2
        subst e1 e2
        obtain ⟨q, hq⟩ : ∃ q, R0.length = q := ⟨_, rfl⟩
        have HQ := Lib.hid hq
        have c2 : wr.cell? ⟨g, q * 3 + 2, none⟩ = some (.int .i64 e) := by
          rw [HO1.out.cellAt (q * 3 + 2) (by omega)]
          exact (cellsG_at (l := R0 ++ [(a, b, e)]) (k := q) (s := (a, b, e)) (by rw [List.getElem?_append_right (by omega), hq, Nat.sub_self]; rfl)).2.2
        obtain ⟨⟨u1, cu1⟩, fu1⟩ := own_slot HO1.out (j := q * 3 + 1) (by omega)
        rw [hq] at hlk HO1
        rw [hq]
        have hq0 : (0 : Int) < (q : Int) + 1 := by omega
        have hq1 : ((q : Int) + 1) - 1 = (q : Int) := by omega
        have hq2 : (q : Int) < (q : Int) + 1 := by omega
        clear hq
        by_cases hxe : e = x
        · subst hxe
          rw [stepR_same] at HST
          have HOq := HO1
          have HBq := HB
          obtain ⟨⟨u2, cu2⟩, fu2⟩ := own_slot HOq.out (j := q * 3 + 1) (by omega)
          have HO2 := Lib.hid ((HOq.out.stored (q * 3 + 1) (.int .i64 ((k : Int) + 1))).1)
          have HB2 := Lib.hid (HBq.out.setCell (p := ⟨g, q * 3 + 1, none⟩) (HOq.out.lt g rfl).1 (.int .i64 ((k : Int) + 1)))
          clear cu1 fu1
          go_wp2
          go_roundw
          case rel => exact ⟨k + 1, by omega, by go_num, by rw [HST.out, List.length_append, List.length_singleton, HQ.out, ← cellsG_hi R0 a b e, HQ.out]; exact HO2.out, HB2.out⟩
          case measure => simp [intOf]; omega
        · have gx : (e == x) = false := by simp [hxe]
          rw [stepR_new _ _ _ _ _ _ hxe] at HST
          clear hxe
          have HOq := HO1
          have HBq := HB
          have hsz := HBq.out.size
          go_wp2_with (first
            | (at_builtin; refine wpList_app rfl _ _ _ rfl runSlice (by decide) _ (q + 1) _ rfl (HOq.out.alloc _) ⟨wr.heap.size, 0, none⟩ 1 1 [.int .i64 (k : Int), .int .i64 ((k : Int) + 1), .int .i64 x] rfl rfl (cells_new wr [.int .i64 (k : Int), .int .i64 ((k : Int) + 1), .int .i64 x] 38) (int3 _ _ _) (by omega) (by unfold maxLen; omega) (Nat.le_trans hsz (by simp)) ?_; intro v1 w3 hown3 hg3 hat3)
            | fail)
          have HO3 : Hid (w3.ownsRow w1.heap.size 38 3 v1 (logR ls (k + 1)).length (cellsG (logR ls (k + 1)))) := Lib.hid (by rw [HST.out]; rw [List.length_append, List.length_append, List.length_singleton, List.length_singleton, HQ.out, cellsG_snoc]; exact hown3)
          have HB3 := Lib.hid (below_app (HBq.out.alloc hsz _) hg3 (HOq.out.alloc _) (Nat.le_trans hsz (by simp)))
          clear hown3 hg3 hat3
          go_roundw
          case rel => exact ⟨k + 1, by omega, by go_num, HO3.out, HB3.out⟩
          case measure => simp [intOf]; omega
    · obtain rfl : k = n := by omega
      go_wp2
      go_ret
      exact ⟨_, rfl, HO.out, HB.out⟩
end Go.Proofs.Ytaiefneimjdmhaa
