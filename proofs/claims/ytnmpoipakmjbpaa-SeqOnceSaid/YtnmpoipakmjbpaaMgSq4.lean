/- Texts of one claim, one behind the other. -/
import Derived.Deep.DeepCutAuto
import Derived.Laws.ResultCell
import Derived.Test.YtnmpoipakmjbpaaMgSq1
import Derived.Test.YtnmpoipakmjbpaaMgSq2
import Derived.Test.YtnmpoipakmjbpaaMgSq3
/- The reference's Runs, walked. -/
namespace Go.Proofs.Ytnmpoipakmjbpaa
open Go.RowKit

def encN (r : List Nat) : List Int := r.map fun i => ((i : Nat) : Int)
def encR (R : List (List Nat)) : List (List Int) := R.map encN
def lastI : Option Nat → Int
  | none => -1
  | some l => (l : Int)
theorem encR_new (R : List (List Nat)) (k : Nat) : (encR R ++ [[]]).set R.length ([] ++ [(k : Int)]) = encR (R ++ [[k]]) := by
  unfold encR
  rw [List.set_append_right _ _ (by simp), List.length_map, Nat.sub_self, List.set_cons_zero, List.map_append]
  rfl
theorem encR_more (R : List (List Nat)) (r : List Nat) (k : Nat) : (encR (R ++ [r])).set R.length (encN r ++ [(k : Int)]) = encR (R ++ [r ++ [k]]) := by
  unfold encR
  rw [List.map_append, List.set_append_right _ _ (by simp), List.length_map, Nat.sub_self, List.map_append]
  simp [encN]
theorem lsSlice : SliceOf Try.prog 24 22 1 24 := .mk_ (z := .slice none 0 0) Try.underlying24 (by kernel_rfl) rfl
theorem rn_skip {lv cl : List Int} {k : Nat} (h : leftC (cl.getD k 0) = true) : rnA lv cl (k + 1) = rnA lv cl k := by rw [rnA]; unfold rnS; rw [if_pos h]
theorem rn_none {lv cl : List Int} {k : Nat} (h : leftC (cl.getD k 0) = false) (hs : rnA lv cl k = ([], none)) : rnA lv cl (k + 1) = ([[k]], some k) := by rw [rnA, hs]; unfold rnS; rw [if_neg (by rw [h]; simp)]
theorem rn_new {lv cl : List Int} {k l : Nat} {r : List Nat} {rs : List (List Nat)} (h : leftC (cl.getD k 0) = false) (hs : rnA lv cl k = (r :: rs, some l)) (hl : lv.getD l 0 ≠ lv.getD k 0) : rnA lv cl (k + 1) = ([k] :: r :: rs, some k) := by
  rw [rnA, hs]
  unfold rnS
  rw [if_neg (by rw [h]; simp)]
  show (if lv.getD l 0 = lv.getD k 0 then _ else _) = _
  rw [if_neg hl]
theorem rn_more {lv cl : List Int} {k l : Nat} {r : List Nat} {rs : List (List Nat)} (h : leftC (cl.getD k 0) = false) (hs : rnA lv cl k = (r :: rs, some l)) (hl : lv.getD l 0 = lv.getD k 0) : rnA lv cl (k + 1) = ((r ++ [k]) :: rs, some k) := by
  rw [rnA, hs]
  unfold rnS
  rw [if_neg (by rw [h]; simp)]
  show (if lv.getD l 0 = lv.getD k 0 then _ else _) = _
  rw [if_pos hl]
/-- How the runs stand: none, or a last one that ends at a place behind us. -/
theorem rn_form (lv cl : List Int) (k : Nat) : rnA lv cl k = ([], none) ∨ ∃ r rs l, rnA lv cl k = (r :: rs, some l) ∧ l < k ∧ r.length ≤ k ∧ rs.length < k := by
  obtain ⟨h1, h2, h3, h4⟩ := rn_ok lv cl k
  obtain ⟨o, la, hs⟩ : ∃ o la, rnA lv cl k = (o, la) := ⟨_, _, rfl⟩
  rw [hs] at h1 h2 h3 h4
  cases o with
  | nil =>
    left
    have := h4 rfl
    simp only at this
    rw [hs, this]
  | cons r rs =>
    right
    have hne := (h2 r (by simp)).1
    have hla := h3 r rs rfl
    simp only at hla
    have hsub : ∀ x ∈ (r :: rs).reverse.flatten, x < k := fun x hx => by
      simp only at h1
      rw [h1] at hx
      exact List.mem_range.1 (List.mem_filter.1 hx).1
    obtain ⟨l, hl⟩ : ∃ l, r.getLast? = some l := by
      cases h : r.getLast? with
      | none => exact absurd (List.getLast?_eq_none_iff.1 h) hne
      | some l => exact ⟨l, rfl⟩
    have hlen : (r :: rs).reverse.flatten.length ≤ k := by
      simp only at h1
      rw [h1]
      exact Nat.le_trans (List.length_filter_le _ _) (by simp)
    have hrs : ∀ L : List (List Nat), (∀ x ∈ L, x ≠ []) → L.length ≤ L.flatten.length := fun L => by
      induction L with
      | nil => simp
      | cons a L ih =>
        intro h
        have h5 := ih (fun x hx => h x (by simp [hx]))
        have h6 : a.length ≠ 0 := fun e => h a (by simp) (List.eq_nil_of_length_eq_zero e)
        simp only [List.flatten_cons, List.length_append, List.length_cons]
        omega
    have h5 := hrs (r :: rs).reverse (fun x hx => (h2 x (List.mem_reverse.1 hx)).1)
    have h6 : r.length ≤ (r :: rs).reverse.flatten.length := by
      rw [List.reverse_cons, List.flatten_append, List.length_append]
      simp
    rw [List.length_reverse, List.length_cons] at h5
    refine ⟨r, rs, l, by rw [hs, hla, hl], hsub l ?_, by omega, by omega⟩
    rw [List.reverse_cons, List.flatten_append]
    exact List.mem_append_right _ (by simpa using List.mem_of_getLast? hl)
end Go.Proofs.Ytnmpoipakmjbpaa
/- The reference's stack: New, Top, Next, room, walked. -/
namespace Go.Proofs.Ytnmpoipakmjbpaa
open Go.RowKit

theorem entR_lv (x y : Int) (z : Bool) (w : World) : (Instr.field 60 (.agg #[.int .i64 x, .int .i64 y, .bool z]) 0).run Try.prog w = .ok (.int .i64 x) w := by kernel_rfl
theorem entR_is (x y : Int) (z : Bool) (w : World) : (Instr.field 60 (.agg #[.int .i64 x, .int .i64 y, .bool z]) 2).run Try.prog w = .ok (.bool z) w := by kernel_rfl
set_option maxRecDepth 100000 in
set_option maxHeartbeats 2000000 in
theorem rsNew_any (level : Int) (w : World) : Calls Try.prog 33 #[.int .i64 level] w fun e w' => (∃ b, e = .returned (.pointer (some ⟨b, 0, none⟩)) ∧ RsAt w' b (newS level) ∧ w.heap.size < b) ∧ Below w.heap.size w w' := by
  obtain ⟨m, hm⟩ : ∃ m, min (max level 0) 125 = m := ⟨_, rfl⟩
  have h1 := below_new w (.cells #[.int .i64 m, .int .i64 13, .bool false] 60)
  have h2 := below_new (w.alloc (.cells #[.int .i64 m, .int .i64 13, .bool false] 60)) (.cells #[.slice (some ⟨w.heap.size, 0, none⟩) 1 1, .int .i64 0, .int .i64 0, .int .i64 0] 81)
  have g2 := heap_alloc_new (w.alloc (.cells #[.int .i64 m, .int .i64 13, .bool false] 60)) (.cells #[.slice (some ⟨w.heap.size, 0, none⟩) 1 1, .int .i64 0, .int .i64 0, .int .i64 0] 81)
  rw [World.size_alloc] at g2
  have g1 := (h2.block _ (hp_lt (heap_alloc_new w (.cells #[.int .i64 m, .int .i64 13, .bool false] 60)))).trans (heap_alloc_new w (.cells #[.int .i64 m, .int .i64 13, .bool false] 60))
  have hr := (rdNew3 w (.int .i64 m) (.int .i64 13) (.bool false) 60).below h2
  have HA : Hid (RsAt ((w.alloc (.cells #[.int .i64 m, .int .i64 13, .bool false] 60)).alloc (.cells #[.slice (some ⟨w.heap.size, 0, none⟩) 1 1, .int .i64 0, .int .i64 0, .int .i64 0] 81)) (w.heap.size + 1) (newS level)) := Lib.hid ⟨⟨⟨w.heap.size, 0, none⟩, 1, g2, Nat.le_refl _, by
    have : cellsE (newS level).all = [.int .i64 m, .int .i64 13, .bool false] := by rw [← hm]; rfl
    rw [this]
    exact hr, by show w.heap.size ≠ w.heap.size + 1; omega, Nat.le_refl _, _, g1⟩, rises_new level⟩
  have HB := Lib.hid (below_self h1 h2)
  clear h1 h2 g1 g2 hr
  go_enter Try.func33, Try.ntmps33
  go_wp2
  all_goals go_ret
  all_goals first
    | (have e0 : m = 0 := by omega
       rw [e0] at HA HB
       exact ⟨⟨_, rfl, HA.out, by omega⟩, HB.out⟩)
    | (have e0 : m = 125 := by omega
       rw [e0] at HA HB
       exact ⟨⟨_, rfl, HA.out, by omega⟩, HB.out⟩)
    | (have e0 : m = level := by omega
       rw [e0] at HA HB
       exact ⟨⟨_, rfl, HA.out, by omega⟩, HB.out⟩)
set_option maxRecDepth 100000 in
set_option maxHeartbeats 2000000 in
theorem rsTop_any (b : Nat) (s : Stk) (w : World) (h : RsAt w b s) : Calls Try.prog 35 #[.pointer (some ⟨b, 0, none⟩)] w fun e w' => e = .returned (entV s.top) ∧ Below w.heap.size w w' := by
  have hbl := below_new w (.cells #[.int .i64 0, .int .i64 0, .bool false] 60)
  have h1 := h.low hbl
  obtain ⟨ad, c, c0, hc, _, _, hadb, ct0, ct1, ct2⟩ := h1.sl
  have hf := h.fits
  have hb := h.lt
  obtain ⟨r, hr⟩ : ∃ r, s.R.length = r := ⟨_, rfl⟩
  rw [hr] at c0 hc hf ct0 ct1 ct2
  have hr1 : (r : Int) < 126 := by omega
  have hrc : (r : Int) < (r : Int) + 1 := by omega
  clear h h1 hbl hr
  go_enter Try.func35, Try.ntmps35
  go_wp2
  go_region
  all_goals go_wp2
  all_goals refine bodyPost_ret (v := .agg #[.int .i64 s.top.lv, .int .i64 s.top.ov, .bool s.top.is]) (results_cell_row rfl _ _ w.heap.size 60 #[.int .i64 s.top.lv, .int .i64 s.top.ov, .bool s.top.is] (0, 0) _ rfl (heap_alloc_new w _) Try.underlying60 rfl (by kernel_rfl)) rfl ?_
  all_goals exact ⟨rfl, below_drew (below_new w _) 1⟩
theorem nextN_of (n : Int) (r : Bool) : nextN n r = if (decide ((n + 1) % 2 = 1) != r) = true then n + 1 + 1 else n + 1 := by unfold nextN; split <;> omega
set_option maxRecDepth 100000 in
set_option maxHeartbeats 2000000 in
theorem rsNext_any (b : Nat) (s : Stk) (r : Bool) (w : World) (h : RsAt w b s) : Calls Try.prog 60 #[.pointer (some ⟨b, 0, none⟩), .bool r] w fun e w' => e = .returned (.int .i64 (nextS s r)) ∧ Below w.heap.size w w' := by
  have HT := Lib.hid (rsTop_any b s w h)
  obtain ⟨h0, h1, _⟩ := h.fits
  have fd := entR_lv s.top.lv s.top.ov s.top.is
  have HN := Lib.hid (nextN_of s.top.lv r)
  unfold entV at HT
  clear h
  unfold nextS
  rw [HN.out]
  obtain ⟨x, hx⟩ : ∃ x, s.top.lv = x := ⟨_, rfl⟩
  rw [hx] at HT fd h0 h1 ⊢
  clear hx HN
  have htm : Int.tmod (x + 1) 2 = (x + 1) % 2 := by rw [Int.tmod_eq_emod_of_nonneg (by omega)]
  obtain ⟨y, hy⟩ : ∃ y, (x + 1) % 2 = y := ⟨_, rfl⟩
  rw [hy] at htm ⊢
  have hy2 : y = 0 ∨ y = 1 := by omega
  clear hy
  rcases hy2 with rfl | rfl
  all_goals cases r
  all_goals (
    go_enter Try.func60, Try.ntmps60
    go_wp2_with fail
    refine HT.out.mono ?_
    rintro e w1 ⟨rfl, hb⟩
    have HB := Lib.hid hb
    clear hb
    go_wp2
    go_ret
    exact ⟨rfl, HB.out⟩)
set_option maxRecDepth 100000 in
set_option maxHeartbeats 2000000 in
theorem rsRoom_any (b : Nat) (s : Stk) (r : Bool) (w : World) (h : RsAt w b s) : Calls Try.prog 58 #[.pointer (some ⟨b, 0, none⟩), .bool r] w fun e w' => e = .returned (.bool (roomS s r)) ∧ Below w.heap.size w w' := by
  have HN := Lib.hid (rsNext_any b s r w h)
  have HS := Lib.hid h
  obtain ⟨v, hv⟩ : ∃ v, roomS s r = v := ⟨_, rfl⟩
  rw [hv]
  have HV := Lib.hid hv
  obtain ⟨x, hx⟩ : ∃ x, nextS s r = x := ⟨_, rfl⟩
  rw [hx] at HN
  have HX := Lib.hid hx
  clear h hv hx
  by_cases h1 : x ≤ 125
  · have hd1 : decide (x ≤ 125) = true := decide_eq_true h1
    by_cases ha : s.a = 0
    · by_cases hb : s.b = 0
      · have hvv : v = true := by rw [← HV.out]; exact room_iff.2 ⟨by rw [HX.out]; exact h1, ha, hb⟩
        subst hvv
        go_enter Try.func58, Try.ntmps58
        go_wp2_with fail
        refine HN.out.mono ?_
        rintro e w1 ⟨rfl, hb1⟩
        have HB1 := Lib.hid hb1
        have hs1 := HS.out.low hb1
        have ca := hs1.ca
        have cb := hs1.cb
        rw [ha] at ca
        rw [hb] at cb
        clear hb1 hs1
        go_wp2
        go_ret
        exact ⟨rfl, HB1.out⟩
      · have hvv : v = false := by rw [← HV.out]; unfold roomS; simp [hb]
        subst hvv
        have hb' : ((s.b : Int) == 0) = false := by simp; omega
        go_enter Try.func58, Try.ntmps58
        go_wp2_with fail
        refine HN.out.mono ?_
        rintro e w1 ⟨rfl, hb1⟩
        have HB1 := Lib.hid hb1
        have hs1 := HS.out.low hb1
        have ca := hs1.ca
        have cb := hs1.cb
        rw [ha] at ca
        clear hb1 hs1
        go_wp2
        go_ret
        exact ⟨rfl, HB1.out⟩
    · have hvv : v = false := by rw [← HV.out]; unfold roomS; simp [ha]
      subst hvv
      have ha' : ((s.a : Int) == 0) = false := by simp; omega
      go_enter Try.func58, Try.ntmps58
      go_wp2_with fail
      refine HN.out.mono ?_
      rintro e w1 ⟨rfl, hb1⟩
      have HB1 := Lib.hid hb1
      have hs1 := HS.out.low hb1
      have ca := hs1.ca
      clear hb1 hs1
      go_wp2
      go_ret
      exact ⟨rfl, HB1.out⟩
  · have hd1 : decide (x ≤ 125) = false := decide_eq_false h1
    have hvv : v = false := by rw [← HV.out]; unfold roomS; rw [HX.out, hd1]; rfl
    subst hvv
    go_enter Try.func58, Try.ntmps58
    go_wp2_with fail
    refine HN.out.mono ?_
    rintro e w1 ⟨rfl, hb1⟩
    have HB1 := Lib.hid hb1
    clear hb1
    go_wp2
    go_ret
    exact ⟨rfl, HB1.out⟩
end Go.Proofs.Ytnmpoipakmjbpaa
