/- Texts of one claim, one behind the other. -/
import Derived.Deep.RegionHeld3
import Derived.Laws.IdiomCopy
import Derived.Shelf.Abstract
import Derived.Test.YtcbiaeeifclieaaGreatDoorMgM3
/- slices.IndexFunc and slices.DeleteFunc at spans, over any predicate. -/
namespace Go.Proofs.YtcbiaeeifclieaaGreatDoor
open Go.RowKit

theorem cellsS_set {l : List Sp} {k : Nat} {s : Sp} (hk : k < l.length) : ((cellsS l).set (k * 2) (.int .i64 s.1)).set (k * 2 + 1) (.int .i64 s.2) = cellsS (l.set k s) := by
  induction l generalizing k with
  | nil => simp at hk
  | cons t l ih =>
    have hc : cellsS (t :: l) = .int .i64 t.1 :: .int .i64 t.2 :: cellsS l := rfl
    cases k with
    | zero => rw [hc]; rfl
    | succ k =>
      have := ih (k := k) (by simpa using hk)
      rw [hc, show (k + 1) * 2 = k * 2 + 1 + 1 by omega, List.set_cons_succ, List.set_cons_succ, List.set_cons_succ, List.set_cons_succ, List.set_cons_succ, this]
      rfl
/-- The head of a row of the call's own, as a shorter row. -/
theorem own_head {w : World} {base : Nat} {e : TypeId} {size g n m cap : Nat} {xs : List Value} (h : w.ownsRow base e size (.slice (some ⟨g, 0, none⟩) n cap) n xs) (hm : m ≤ n) : w.ownsRow base e size (.slice (some ⟨g, 0, none⟩) m cap) m (xs.take (m * size)) := by
  obtain ⟨h1, h2⟩ := h
  refine ⟨by rw [List.length_take, h1]; exact Nat.min_eq_left (Nat.mul_le_mul_right _ hm), ?_⟩
  rcases h2 with ⟨h', _⟩ | ⟨g', cap', cur, h', hb, hg, hnc, hcm, hcs, htake⟩
  · simp at h'
  · simp only [Value.slice.injEq, Option.some.injEq, Addr.mk.injEq, and_true, true_and] at h'
    obtain ⟨rfl, rfl⟩ := h'
    refine .inr ⟨g, cap, cur, rfl, hb, hg, Nat.le_trans hm hnc, hcm, hcs, ?_⟩
    rw [← htake, List.take_take, Nat.min_eq_left (Nat.mul_le_mul_right _ hm)]
/-- Cells behind a row's own elements, written: the row is the call's own still. -/
theorem own_beyond {base : Nat} {e : TypeId} {size g n cap : Nat} {xs : List Value} : ∀ (vs : List Value) (o : Nat) (w : World), w.ownsRow base e size (.slice (some ⟨g, 0, none⟩) n cap) n xs → n * size ≤ o →
    (w.setCells g o vs).ownsRow base e size (.slice (some ⟨g, 0, none⟩) n cap) n xs ∧ w.grownBy (w.setCells g o vs) (some g)
  | [], _, w, h, _ => ⟨h, World.grownBy.refl w _⟩
  | v :: r, o, w, h, ho => by
    have h1 := h.stored o v
    rw [List.set_eq_of_length_le (by rw [h.1]; exact ho)] at h1
    obtain ⟨h2, h3⟩ := own_beyond r (o + 1) _ h1.1 (by omega)
    exact ⟨h2, grown_step h1.2 h3 (.inl rfl)⟩
theorem toList_zeroSame (z : Array Value) (z0 : Value) (h0 : 0 < z.size) (hz : ∀ j, j < z.size → z[j]! = z0) (n : Nat) : (Builtin.zeroCells z n).toList = List.replicate (n * z.size) z0 := by
  rw [List.eq_replicate_iff]
  refine ⟨by simp [Builtin.zeroCells], fun b hb => ?_⟩
  simp only [Builtin.zeroCells, Array.toList_map, List.mem_map] at hb
  obtain ⟨j, _, rfl⟩ := hb
  exact hz _ (Nat.mod_lt _ h0)
/-- clear of a slice with elements of several cells, all the same at zero. -/
theorem run_clearZ {P : Program} (w : World) (t e ty : TypeId) (z z0 : Value) (ht : P.underlying t = some (.slice e)) (hv : ∀ w, (zeroValue e).run P w = .ok z w) (h0 : 0 < z.cells.size) (hz : ∀ j, j < z.cells.size → z.cells[j]! = z0) (h1 : z0.oneCell' = true) (b o n c : Nat) (hn : 0 < n)
    (hc : ∀ j, j < n * z.cells.size → (w.cell? ⟨b, o + j, none⟩).isSome = true) (hf : ∀ j, j < n * z.cells.size → w.frozen? ⟨b, o + j, none⟩ = false) :
    (Builtin.clear_ #[t] ty #[.slice (some ⟨b, o, none⟩) n c]).run P w = .ok (.tuple #[]) (w.setCells b o (List.replicate (n * z.cells.size) z0)) := by
  have hzc := toList_zeroSame z.cells z0 h0 hz n
  have hst := run_storeCells_cells (P := P) b o (List.replicate (n * z.cells.size) z0) 0 w (by simpa using hc) (by simpa using hf) (by intro v hv'; rw [List.eq_of_mem_replicate hv']; exact h1)
  simp only [Nat.add_zero] at hst
  obtain ⟨m, rfl⟩ : ∃ m, n = m + 1 := ⟨n - 1, by omega⟩
  simp [Builtin.clear_, run_underlying ht, hv, hzc, hst]

/-- What IndexFunc tells. -/
def FirstHitS (P : Sp → Bool) (l : List Sp) (r : Int) : Prop := (r = -1 ∧ ∀ s ∈ l, P s = false) ∨ ∃ k s, r = (k : Nat) ∧ l[k]? = some s ∧ P s = true ∧ ∀ t ∈ l.take k, P t = false
set_option maxRecDepth 100000 in
set_option maxHeartbeats 1000000 in
theorem indexFuncP_any (P : Sp → Bool) (g : FuncId) (lb : Array Value) (eg : ∀ args w, (callFunc g args).run Tryz.prog w = .ok (.enter g args) w) (A : Option Addr) (n c : Nat) (l : List Sp) (w : World)
    (hr : Rd w 2 A n (cellsS l)) (hn : n ≤ maxLen)
    (hcl : ∀ lo hi W, Below w.heap.size w W → Calls Tryz.prog g (#[.agg #[.int .i64 lo, .int .i64 hi]] ++ lb) W fun e W' => e = .returned (.bool (P (lo, hi))) ∧ Below W.heap.size W W') :
    Calls Tryz.prog 134 #[.slice A n c, .func (.func g) #[] lb] w fun e w' => (∃ r, e = .returned (.int .i64 r) ∧ FirstHitS P l r) ∧ Below w.heap.size w w' := by
  have hlen : l.length = n := by have := hr.1; rw [cellsS_len] at this; omega
  have HL := Lib.hid hlen
  have HC := Lib.hid hcl
  clear hlen hcl
  unfold maxLen at hn
  go_enter Tryz.func134, Tryz.ntmps134
  go_wp2
  go_loopw [8] (fun i wr => ∃ k : Nat, k ≤ n ∧ i = .int .i64 k ∧ (∀ s ∈ l.take k, P s = false) ∧ Below w.heap.size w wr) (fun i _ => n - (intOf i).toNat)
  case atStart => exact ⟨0, Nat.zero_le _, rfl, by simp, Below.refl _ _⟩
  case round =>
    obtain ⟨k, hk, rfl, hno, hb⟩ := hrel
    have HN := Lib.hid hno
    clear hno
    by_cases hlt : k < n
    · obtain ⟨s, hsk⟩ : ∃ s, l[k]? = some s := ⟨_, List.getElem?_eq_getElem (by rw [HL.out]; exact hlt)⟩
      obtain ⟨ad, rfl, hab, c1, c2⟩ := (hr.below hb).span hsk
      obtain ⟨lo, hi⟩ := s
      simp only at c1 c2
      have HS := Lib.hid hsk
      clear hsk
      have hcall := HC.out lo hi wr hb
      cases hh : P (lo, hi) with
      | true =>
        have HF := Lib.hid (show FirstHitS P l k from .inr ⟨k, _, rfl, HS.out, hh, HN.out⟩)
        rw [hh] at hcall
        clear hh
        go_wp2_with (go_at_fn g; refine hcall.mono ?_; rintro e w1 ⟨rfl, hb1⟩; have hb2 := hb.trans (hb1.mono hb.size))
        go_ret
        exact ⟨⟨_, rfl, HF.out⟩, hb2⟩
      | false =>
        have HX := Lib.hid (show ∀ t ∈ l.take (k + 1), P t = false by
          intro t ht
          rw [List.take_add_one, HS.out] at ht
          simp at ht
          rcases ht with ht | rfl
          · exact HN.out t ht
          · exact hh)
        rw [hh] at hcall
        clear hh
        go_wp2_with (go_at_fn g; refine hcall.mono ?_; rintro e w1 ⟨rfl, hb1⟩; have hb2 := hb.trans (hb1.mono hb.size))
        go_roundw
        case rel => exact ⟨k + 1, by omega, by go_num, HX.out, hb2⟩
        case measure => simp [intOf]; omega
    · have HF := Lib.hid (show FirstHitS P l (-1) from .inl ⟨rfl, by have := HN.out; rwa [List.take_of_length_le (by rw [HL.out]; omega)] at this⟩)
      go_wp2
      go_ret
      exact ⟨⟨_, rfl, HF.out⟩, hb⟩
end Go.Proofs.YtcbiaeeifclieaaGreatDoor
/- slices.DeleteFunc at spans: the row of the call's own holds, at its head, those that the predicate lets stay. -/
namespace Go.Proofs.YtcbiaeeifclieaaGreatDoor
open Go.RowKit

theorem keep_set {F junk rest : List Sp} {s : Sp} (hj : 0 < junk.length) : (F ++ junk ++ s :: rest).set F.length s = F ++ [s] ++ (junk.tail ++ [s]) ++ rest := by
  cases junk with
  | nil => simp at hj
  | cons q qs => simp
set_option maxRecDepth 100000 in
set_option maxHeartbeats 4000000 in
theorem deleteFuncS_any (P : Sp → Bool) (f : FuncId) (lb : Array Value) (eg : ∀ args w, (callFunc f args).run Tryz.prog w = .ok (.enter f args) w) (base g n cap : Nat) (l : List Sp) (w : World)
    (hown : w.ownsRow base 39 2 (.slice (some ⟨g, 0, none⟩) n cap) n (cellsS l)) (hn : n ≤ 1000000) (hcap : cap ≤ maxLen)
    (hcl : ∀ lo hi W, w.grownBy W (some g) → Calls Tryz.prog f (#[.agg #[.int .i64 lo, .int .i64 hi]] ++ lb) W fun e W' => e = .returned (.bool (P (lo, hi))) ∧ Below W.heap.size W W') :
    Calls Tryz.prog 124 #[.slice (some ⟨g, 0, none⟩) n cap, .func (.func f) #[] lb] w fun e w' => ∃ m, m ≤ n ∧ (l.filter fun s => !P s).length = m ∧ e = .returned (.slice (some ⟨g, 0, none⟩) m cap) ∧ w'.ownsRow base 39 2 (.slice (some ⟨g, 0, none⟩) m cap) m (cellsS (l.filter fun s => !P s)) ∧ w.grownBy w' (some g) := by
  have hlen : l.length = n := by have := hown.1; rw [cellsS_len] at this; omega
  have hlt0 := (hown.lt g rfl).2
  have hnc : n ≤ cap := by
    obtain ⟨_, _, e, h⟩ := own_form hown
    injection e with _ _ e
    omega
  have HL := Lib.hid hlen
  have HC := Lib.hid hcl
  have HO := Lib.hid hown
  clear hlen hcl hown
  unfold maxLen at hcap
  go_enter Tryz.func124, Tryz.ntmps124
  go_wp2_with fail
  refine (indexFuncP_any P f lb eg (some ⟨g, 0, none⟩) n cap l w (Rd.of_own HO.out) (by unfold maxLen; omega) (fun lo hi W hb => HC.out lo hi W (grown_of_below' _ hb))).mono ?_
  rintro e w1 ⟨⟨r, rfl, hf⟩, hb1⟩
  have hg1 := grown_of_below' (some g) hb1
  have HO1 := Lib.hid (own_below HO.out hb1)
  rcases hf with ⟨rfl, hno⟩ | ⟨k, s, rfl, hk, hs, hno⟩
  · have HF := Lib.hid (show (l.filter fun s => !P s) = l by
      rw [List.filter_eq_self]
      intro s h
      rw [hno s h]; rfl)
    clear hno
    go_wp2
    go_ret
    exact ⟨n, Nat.le_refl _, by rw [HF.out, HL.out], rfl, by rw [HF.out]; exact HO1.out, hg1⟩
  · have hkn : k < n := by have := (List.getElem?_eq_some_iff.1 hk).1; rw [HL.out] at this; exact this
    have HF := Lib.hid (show (l.take (k + 1)).filter (fun s => !P s) = l.take k by
      rw [List.take_add_one, hk, List.filter_append]
      have h1 : (l.take k).filter (fun s => !P s) = l.take k := by
        rw [List.filter_eq_self]
        intro s h
        rw [hno s h]; rfl
      rw [h1]
      simp [hs])
    have HS0 := Lib.hid (show l = l.take k ++ [s] ++ l.drop (k + 1) by rw [List.append_assoc, List.singleton_append, ← dropCons hk, List.take_append_drop])
    have HTL := Lib.hid (show (l.take k).length = k by rw [List.length_take, HL.out]; omega)
    have hne : ((k : Int) == -1) = false := by simp
    have HNO := Lib.hid hno
    clear hno hk hs
    go_wp2
    go_loopw [5, 6] (fun i j wr => ∃ (jj : Nat) (F junk : List Sp), jj ≤ n ∧ j = .int .i64 jj ∧ i = .int .i64 F.length ∧ F = (l.take jj).filter (fun s => !P s) ∧ 0 < junk.length ∧ F.length + junk.length = jj ∧ wr.ownsRow base 39 2 (.slice (some ⟨g, 0, none⟩) n cap) n (cellsS (F ++ junk ++ l.drop jj)) ∧ w.grownBy wr (some g)) (fun _ j _ => n - (intOf j).toNat)
    case atStart => exact ⟨k + 1, l.take k, [s], by omega, by go_num, by rw [HTL.out], HF.out.symm, by simp, by rw [HTL.out]; rfl, by rw [← HS0.out]; exact HO1.out, hg1⟩
    case round =>
      obtain ⟨jj, F, junk, hj, rfl, rfl, hF, hjp, hsum, ho, hg⟩ := hrel
      have HFE := Lib.hid hF
      clear hF
      by_cases hlt : jj < n
      · obtain ⟨v, hv⟩ : ∃ v, l[jj]? = some v := ⟨_, List.getElem?_eq_getElem (by rw [HL.out]; exact hlt)⟩
        obtain ⟨F0, hF0⟩ : ∃ F0 : Nat, F.length = F0 := ⟨_, rfl⟩
        have HF0 := Lib.hid hF0
        rw [hF0] at hsum
        have hx : (F ++ junk ++ l.drop jj)[jj]? = some v := by
          rw [List.getElem?_append_right (by rw [List.length_append]; omega), List.length_append, hF0, show jj - (F0 + junk.length) = 0 by omega, List.getElem?_drop]
          exact hv
        obtain ⟨e1, e2⟩ := cellsS_at hx
        have hc := ho.cells (g := g) rfl
        have c1 := hc _ _ e1
        have c2 := hc _ _ e2
        rw [addNew] at c1 c2
        have HV := Lib.hid hv
        clear hv hx e1 e2 hc
        obtain ⟨lo, hi⟩ := v
        simp only at c1 c2
        have hga : w.grownBy (wr.alloc (.cells #[.int .i64 lo, .int .i64 hi] 39)) (some g) := grown_step hg (World.grownBy_alloc wr _ none) (.inr (fun k h => by cases h))
        have hcall := HC.out lo hi _ hga
        have HG := Lib.hid (grown_step (r' := none) hga (World.grownBy.refl _ _) (.inr (fun k h => by cases h)))
        have hoa := ho.alloc (.cells #[.int .i64 lo, .int .i64 hi] 39)
        have d0 : (wr.alloc (.cells #[.int .i64 lo, .int .i64 hi] 39)).cell? ⟨wr.heap.size, 0, none⟩ = some (.int .i64 lo) := by go_simp
        have d1 : (wr.alloc (.cells #[.int .i64 lo, .int .i64 hi] 39)).cell? ⟨wr.heap.size, 1, none⟩ = some (.int .i64 hi) := by go_simp
        cases hh : P (lo, hi) with
        | true =>
          have HN := Lib.hid (show F = (l.take (jj + 1)).filter (fun s => !P s) by
            rw [List.take_add_one, HV.out, List.filter_append, ← HFE.out]
            simp [hh])
          have HD := Lib.hid (show F ++ junk ++ l.drop jj = F ++ (junk ++ [(lo, hi)]) ++ l.drop (jj + 1) by rw [dropCons HV.out]; simp)
          rw [hh] at hcall
          have HCL := Lib.hid hcall
          clear hh hcall
          go_wp2_with (go_at_fn f; refine HCL.out.mono ?_; rintro e w2 ⟨rfl, hb2⟩)
          have ho2 := own_below hoa hb2
          have hg2 := grown_step hga (grown_of_below' (some g) hb2) (.inl rfl)
          rw [HD.out] at ho2
          go_roundw
          case rel => exact ⟨jj + 1, F, junk ++ [(lo, hi)], by omega, by go_num, by rw [HF0.out], HN.out, by simp, by simp; rw [HF0.out]; omega, ho2, hg2⟩
          case measure => simp [intOf]; omega
        | false =>
          have HN := Lib.hid (show F ++ [(lo, hi)] = (l.take (jj + 1)).filter (fun s => !P s) by
            rw [List.take_add_one, HV.out, List.filter_append, ← HFE.out]
            simp [hh])
          have HD := Lib.hid (show (F ++ junk ++ l.drop jj).set F0 (lo, hi) = F ++ [(lo, hi)] ++ (junk.tail ++ [(lo, hi)]) ++ l.drop (jj + 1) by rw [dropCons HV.out, ← HF0.out]; exact keep_set hjp)
          have HXL := Lib.hid (show F0 < (F ++ junk ++ l.drop jj).length by simp; rw [HF0.out]; omega)
          rw [hh] at hcall
          have HCL := Lib.hid hcall
          clear hh hcall
          go_wp2_with (go_at_fn f; refine HCL.out.mono ?_; rintro e w2 ⟨rfl, hb2⟩; have ho2 := own_below hoa hb2; have d0' := cell_below hb2 d0; have d1' := cell_below hb2 d1; obtain ⟨⟨u0, x0⟩, z0⟩ := own_slot ho2 (j := F0 * 2) (by omega); obtain ⟨⟨u1, x1⟩, z1⟩ := own_slot ho2 (j := F0 * 2 + 1) (by omega))
          have hs2 := own_store2 ho2 (F0 * 2) (.int .i64 lo) (.int .i64 hi)
          rw [cellsS_set (s := (lo, hi)) HXL.out, HD.out] at hs2
          have hg3 := grown_set (grown_set (grown_step hga (grown_of_below' (some g) hb2) (.inl rfl)) (F0 * 2) (.int .i64 lo)) (F0 * 2 + 1) (.int .i64 hi)
          go_roundw
          case rel => exact ⟨jj + 1, F ++ [(lo, hi)], junk.tail ++ [(lo, hi)], by omega, by go_num, by simp; rw [HF0.out], HN.out, by simp, by simp; rw [HF0.out]; omega, hs2, hg3⟩
          case measure => simp [intOf]; omega
      · obtain rfl : jj = n := by omega
        obtain ⟨F0, hF0⟩ : ∃ F0 : Nat, F.length = F0 := ⟨_, rfl⟩
        have HF0 := Lib.hid hF0
        rw [hF0] at hsum
        have HN := Lib.hid (show F = l.filter (fun s => !P s) by rw [HFE.out, List.take_of_length_le (by rw [HL.out]; omega)])
        have HT := Lib.hid (show (cellsS (F ++ junk ++ l.drop jj)).take (F0 * 2) = cellsS F by rw [cellsS_take, List.append_assoc, List.take_append_of_le_length (by rw [HF0.out]; omega), List.take_of_length_le (by rw [HF0.out]; omega)])
        have hh := own_head ho (m := F0) (by omega)
        rw [HT.out] at hh
        have i0 : (F0 : Int) ≤ (jj : Int) := by omega
        have i1 : (jj : Int) ≤ (cap : Int) := by omega
        have hcl := fun ty => run_clearZ (P := Tryz.prog) wr 103 39 ty (.agg #[.int .i64 0, .int .i64 0]) (.int .i64 0) Tryz.underlying103 Tryz.zeroValue39 (by decide) (by intro j hj; match j, hj with | 0, _ => rfl | 1, _ => rfl) rfl g (F0 * 2) (jj - F0) (cap - F0) (by omega) (fun j hj => by
          obtain ⟨⟨u, hu⟩, _⟩ := own_slot ho (j := F0 * 2 + j) (by simp [Value.cells] at hj; omega)
          rw [hu]; rfl) (fun j hj => (own_slot ho (j := F0 * 2 + j) (by simp [Value.cells] at hj; omega)).2)
        have hne2 : ¬ cap = F0 := by omega
        go_wp2
        go_ret
        have hb := own_beyond (List.replicate ((jj - F0) * (Value.agg #[Value.int IntKind.i64 0, Value.int IntKind.i64 0]).cells.size) (.int .i64 0)) (F0 * 2) wr hh (Nat.le_refl _)
        exact ⟨F0, by omega, by rw [← HN.out]; exact HF0.out, rfl, by rw [← HN.out]; exact hb.1, grown_step hg hb.2 (.inl rfl)⟩
end Go.Proofs.YtcbiaeeifclieaaGreatDoor
