/- slices.DeleteFunc at spans: the row of the call's own holds, at its head, those that the predicate lets stay. -/
import Derived.Test.YthhjcdnhlpjfnaaDelS
namespace Go.Proofs.Ythhjcdnhlpjfnaa
open Go.RowKit

theorem keep_set {F junk rest : List Sp} {s : Sp} (hj : 0 < junk.length) : (F ++ junk ++ s :: rest).set F.length s = F ++ [s] ++ (junk.tail ++ [s]) ++ rest := by
  cases junk with
  | nil => simp at hj
  | cons q qs => simp
set_option maxRecDepth 100000 in
set_option maxHeartbeats 4000000 in
theorem deleteFuncS_any (P : Sp → Bool) (f : FuncId) (lb : Array Value) (eg : ∀ args w, (callFunc f args).run Try.prog w = .ok (.enter f args) w) (base g n cap : Nat) (l : List Sp) (w : World)
    (hown : w.ownsRow base 27 2 (.slice (some ⟨g, 0, none⟩) n cap) n (cellsS l)) (hn : n ≤ 1000000) (hcap : cap ≤ maxLen)
    (hcl : ∀ lo hi W, w.grownBy W (some g) → Calls Try.prog f (#[.agg #[.int .i64 lo, .int .i64 hi]] ++ lb) W fun e W' => e = .returned (.bool (P (lo, hi))) ∧ Below W.heap.size W W') :
    Calls Try.prog 76 #[.slice (some ⟨g, 0, none⟩) n cap, .func (.func f) #[] lb] w fun e w' => ∃ m, m ≤ n ∧ (l.filter fun s => !P s).length = m ∧ e = .returned (.slice (some ⟨g, 0, none⟩) m cap) ∧ w'.ownsRow base 27 2 (.slice (some ⟨g, 0, none⟩) m cap) m (cellsS (l.filter fun s => !P s)) ∧ w.grownBy w' (some g) := by
  have hlen : l.length = n := by have := hown.1; rw [cellsS_len] at this; omega
  have hlt0 := (hown.lt g rfl).2
  have hnc : n ≤ cap := by
    obtain ⟨_, _, e, h⟩ := own_form hown
    injection e with _ _ e
    omega
  have HL := Lib.hid hlen
  have HC := Lib.hid hcl
  have HO := Lib.hid hown
  clear hlen hcl hown
  unfold maxLen at hcap
  go_enter Try.func76, Try.ntmps76
  go_wp2_with fail
  refine (indexFuncP_any P f lb eg (some ⟨g, 0, none⟩) n cap l w (Rd.of_own HO.out) (by unfold maxLen; omega) (fun lo hi W hb => HC.out lo hi W (grown_of_below' _ hb))).mono ?_
  rintro e w1 ⟨⟨r, rfl, hf⟩, hb1⟩
  have hg1 := grown_of_below' (some g) hb1
  have HO1 := Lib.hid (own_below HO.out hb1)
  rcases hf with ⟨rfl, hno⟩ | ⟨k, s, rfl, hk, hs, hno⟩
  · have HF := Lib.hid (show (l.filter fun s => !P s) = l by
      rw [List.filter_eq_self]
      intro s h
      rw [hno s h]; rfl)
    clear hno
    go_wp2
    go_ret
    exact ⟨n, Nat.le_refl _, by rw [HF.out, HL.out], rfl, by rw [HF.out]; exact HO1.out, hg1⟩
  · have hkn : k < n := by have := (List.getElem?_eq_some_iff.1 hk).1; rw [HL.out] at this; exact this
    have HF := Lib.hid (show (l.take (k + 1)).filter (fun s => !P s) = l.take k by
      rw [List.take_add_one, hk, List.filter_append]
      have h1 : (l.take k).filter (fun s => !P s) = l.take k := by
        rw [List.filter_eq_self]
        intro s h
        rw [hno s h]; rfl
      rw [h1]
      simp [hs])
    have HS0 := Lib.hid (show l = l.take k ++ [s] ++ l.drop (k + 1) by rw [List.append_assoc, List.singleton_append, ← dropCons hk, List.take_append_drop])
    have HTL := Lib.hid (show (l.take k).length = k by rw [List.length_take, HL.out]; omega)
    have hne : ((k : Int) == -1) = false := by simp
    have HNO := Lib.hid hno
    clear hno hk hs
    go_wp2
    go_loopw [5, 6] (fun i j wr => ∃ (jj : Nat) (F junk : List Sp), jj ≤ n ∧ j = .int .i64 jj ∧ i = .int .i64 F.length ∧ F = (l.take jj).filter (fun s => !P s) ∧ 0 < junk.length ∧ F.length + junk.length = jj ∧ wr.ownsRow base 27 2 (.slice (some ⟨g, 0, none⟩) n cap) n (cellsS (F ++ junk ++ l.drop jj)) ∧ w.grownBy wr (some g)) (fun _ j _ => n - (intOf j).toNat)
    case atStart => exact ⟨k + 1, l.take k, [s], by omega, by go_num, by rw [HTL.out], HF.out.symm, by simp, by rw [HTL.out]; rfl, by rw [← HS0.out]; exact HO1.out, hg1⟩
    case round =>
      obtain ⟨jj, F, junk, hj, rfl, rfl, hF, hjp, hsum, ho, hg⟩ := hrel
      have HFE := Lib.hid hF
      clear hF
      by_cases hlt : jj < n
      · obtain ⟨v, hv⟩ : ∃ v, l[jj]? = some v := ⟨_, List.getElem?_eq_getElem (by rw [HL.out]; exact hlt)⟩
        obtain ⟨F0, hF0⟩ : ∃ F0 : Nat, F.length = F0 := ⟨_, rfl⟩
        have HF0 := Lib.hid hF0
        rw [hF0] at hsum
        have hx : (F ++ junk ++ l.drop jj)[jj]? = some v := by
          rw [List.getElem?_append_right (by rw [List.length_append]; omega), List.length_append, hF0, show jj - (F0 + junk.length) = 0 by omega, List.getElem?_drop]
          exact hv
        obtain ⟨e1, e2⟩ := cellsS_at hx
        have hc := ho.cells (g := g) rfl
        have c1 := hc _ _ e1
        have c2 := hc _ _ e2
        rw [addNew] at c1 c2
        have HV := Lib.hid hv
        clear hv hx e1 e2 hc
        obtain ⟨lo, hi⟩ := v
        simp only at c1 c2
        have hga : w.grownBy (wr.alloc (.cells #[.int .i64 lo, .int .i64 hi] 27)) (some g) := grown_step hg (World.grownBy_alloc wr _ none) (.inr (fun k h => by cases h))
        have hcall := HC.out lo hi _ hga
        have HG := Lib.hid (grown_step (r' := none) hga (World.grownBy.refl _ _) (.inr (fun k h => by cases h)))
        have hoa := ho.alloc (.cells #[.int .i64 lo, .int .i64 hi] 27)
        have d0 : (wr.alloc (.cells #[.int .i64 lo, .int .i64 hi] 27)).cell? ⟨wr.heap.size, 0, none⟩ = some (.int .i64 lo) := by go_simp
        have d1 : (wr.alloc (.cells #[.int .i64 lo, .int .i64 hi] 27)).cell? ⟨wr.heap.size, 1, none⟩ = some (.int .i64 hi) := by go_simp
        cases hh : P (lo, hi) with
        | true =>
          have HN := Lib.hid (show F = (l.take (jj + 1)).filter (fun s => !P s) by
            rw [List.take_add_one, HV.out, List.filter_append, ← HFE.out]
            simp [hh])
          have HD := Lib.hid (show F ++ junk ++ l.drop jj = F ++ (junk ++ [(lo, hi)]) ++ l.drop (jj + 1) by rw [dropCons HV.out]; simp)
          rw [hh] at hcall
          have HCL := Lib.hid hcall
          clear hh hcall
          go_wp2_with (go_at_fn f; refine HCL.out.mono ?_; rintro e w2 ⟨rfl, hb2⟩)
          have ho2 := own_below hoa hb2
          have hg2 := grown_step hga (grown_of_below' (some g) hb2) (.inl rfl)
          rw [HD.out] at ho2
          go_roundw
          case rel => exact ⟨jj + 1, F, junk ++ [(lo, hi)], by omega, by go_num, by rw [HF0.out], HN.out, by simp, by simp; rw [HF0.out]; omega, ho2, hg2⟩
          case measure => simp [intOf]; omega
        | false =>
          have HN := Lib.hid (show F ++ [(lo, hi)] = (l.take (jj + 1)).filter (fun s => !P s) by
            rw [List.take_add_one, HV.out, List.filter_append, ← HFE.out]
            simp [hh])
          have HD := Lib.hid (show (F ++ junk ++ l.drop jj).set F0 (lo, hi) = F ++ [(lo, hi)] ++ (junk.tail ++ [(lo, hi)]) ++ l.drop (jj + 1) by rw [dropCons HV.out, ← HF0.out]; exact keep_set hjp)
          have HXL := Lib.hid (show F0 < (F ++ junk ++ l.drop jj).length by simp; rw [HF0.out]; omega)
          rw [hh] at hcall
          have HCL := Lib.hid hcall
          clear hh hcall
          go_wp2_with (go_at_fn f; refine HCL.out.mono ?_; rintro e w2 ⟨rfl, hb2⟩; have ho2 := own_below hoa hb2; have d0' := cell_below hb2 d0; have d1' := cell_below hb2 d1; obtain ⟨⟨u0, x0⟩, z0⟩ := own_slot ho2 (j := F0 * 2) (by omega); obtain ⟨⟨u1, x1⟩, z1⟩ := own_slot ho2 (j := F0 * 2 + 1) (by omega))
          have hs2 := own_store2 ho2 (F0 * 2) (.int .i64 lo) (.int .i64 hi)
          rw [cellsS_set (s := (lo, hi)) HXL.out, HD.out] at hs2
          have hg3 := grown_set (grown_set (grown_step hga (grown_of_below' (some g) hb2) (.inl rfl)) (F0 * 2) (.int .i64 lo)) (F0 * 2 + 1) (.int .i64 hi)
          go_roundw
          case rel => exact ⟨jj + 1, F ++ [(lo, hi)], junk.tail ++ [(lo, hi)], by omega, by go_num, by simp; rw [HF0.out], HN.out, by simp, by simp; rw [HF0.out]; omega, hs2, hg3⟩
          case measure => simp [intOf]; omega
      · obtain rfl : jj = n := by omega
        obtain ⟨F0, hF0⟩ : ∃ F0 : Nat, F.length = F0 := ⟨_, rfl⟩
        have HF0 := Lib.hid hF0
        rw [hF0] at hsum
        have HN := Lib.hid (show F = l.filter (fun s => !P s) by rw [HFE.out, List.take_of_length_le (by rw [HL.out]; omega)])
        have HT := Lib.hid (show (cellsS (F ++ junk ++ l.drop jj)).take (F0 * 2) = cellsS F by rw [cellsS_take, List.append_assoc, List.take_append_of_le_length (by rw [HF0.out]; omega), List.take_of_length_le (by rw [HF0.out]; omega)])
        have hh := own_head ho (m := F0) (by omega)
        rw [HT.out] at hh
        have i0 : (F0 : Int) ≤ (jj : Int) := by omega
        have i1 : (jj : Int) ≤ (cap : Int) := by omega
        have hcl := fun ty => run_clearZ (P := Try.prog) wr 22 27 ty (.agg #[.int .i64 0, .int .i64 0]) (.int .i64 0) Try.underlying22 Try.zeroValue27 (by decide) (by intro j hj; match j, hj with | 0, _ => rfl | 1, _ => rfl) rfl g (F0 * 2) (jj - F0) (cap - F0) (by omega) (fun j hj => by
          obtain ⟨⟨u, hu⟩, _⟩ := own_slot ho (j := F0 * 2 + j) (by simp [Value.cells] at hj; omega)
          rw [hu]; rfl) (fun j hj => (own_slot ho (j := F0 * 2 + j) (by simp [Value.cells] at hj; omega)).2)
        have hne2 : ¬ cap = F0 := by omega
        go_wp2
        go_ret
        have hb := own_beyond (List.replicate ((jj - F0) * (Value.agg #[Value.int IntKind.i64 0, Value.int IntKind.i64 0]).cells.size) (.int .i64 0)) (F0 * 2) wr hh (Nat.le_refl _)
        exact ⟨F0, by omega, by rw [← HN.out]; exact HF0.out, rfl, by rw [← HN.out]; exact hb.1, grown_step hg hb.2 (.inl rfl)⟩
end Go.Proofs.Ythhjcdnhlpjfnaa
