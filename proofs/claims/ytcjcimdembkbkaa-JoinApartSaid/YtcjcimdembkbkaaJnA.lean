/- join's Ahead and Over at any place; the reference's Over. -/
import Derived.Test.YtcjcimdembkbkaaJnB
namespace Go.Proofs.Ytcjcimdembkbkaa
open Go.RowKit

theorem jLast_ge (ts : List Int) (k : Nat) : jLast ts k = -1 ∨ ∃ b : Nat, jLast ts k = b := by
  have := (jLast_lt ts k).2
  by_cases h : jLast ts k = -1
  · exact .inl h
  · exact .inr ⟨(jLast ts k).toNat, by omega⟩
set_option maxRecDepth 100000 in
theorem jnAhead_any (A : Option Addr) (n c : Nat) (ts : List Int) (i : Int) (w : World) (hr : Rd w 1 A n (ts.map (Value.int .i64))) (hn : n ≤ 1000000) (hnc : n ≤ c) :
    Calls Try.prog 15 #[.slice A n c, .int .i64 i] w fun e w' => e = .returned (.int .i64 (jAhead ts i)) ∧ Below w.heap.size w w' := by
  have hlen : ts.length = n := by simpa using hr.len1
  by_cases hi : 0 ≤ i ∧ i < n
  · obtain ⟨h0, h1⟩ := hi
    obtain ⟨k0, rfl⟩ : ∃ k0 : Nat, i = k0 := ⟨i.toNat, by omega⟩
    obtain ⟨ad, rfl, hab, _⟩ := hr.at_ (show k0 < n by omega)
    rw [show jAhead ts k0 = jLast ts k0 by unfold jAhead; rw [if_pos ⟨h0, by omega⟩, Int.toNat_natCast]]
    exact callsIn_wide.1 (jnAhead_in ad n c k0 ts _ w rfl hr hn hnc (by omega) hab)
  · have HC := Lib.hid (fun w => jnHas_of A n c i false (decide_eq_false hi) w)
    have HV := Lib.hid (show (-1 : Int) = jAhead ts i from (if_neg (by rw [hlen]; exact hi)).symm)
    clear hi hlen
    have hb1 := below_new w (.cells #[.int .i64 0] 3)

    go_enter Try.func15, Try.ntmps15
    go_wp2_with (first
      | (go_at_call 43; with_reducible refine (HC.out _).mono ?_; rintro e w1 ⟨rfl, rfl⟩)
      | fail)
    have hc5 : (w.alloc (.cells #[.int .i64 (-1)] 3)).cell? ⟨w.heap.size, 0, none⟩ = some (.int .i64 (-1)) := by rw [World.cell?_alloc_at _ _ _ _ rfl]; rfl
    refine bodyPost_ret (v := .int .i64 (-1)) ?_ rfl ⟨retI HV.out, below_new _ _⟩
    simp [results, Try.f15, go_sem, hc5]
set_option maxRecDepth 100000 in
theorem jnOver_of (A : Option Addr) (n c : Nat) (ts : List Int) (i : Int) (v : Bool) (hv : jOver ts i = v) (w : World) (hr : Rd w 1 A n (ts.map (Value.int .i64))) (hn : n ≤ 1000000) (hnc : n ≤ c) :
    Calls Try.prog 21 #[.slice A n c, .int .i64 i] w fun e w' => e = .returned (.bool v) ∧ Below w.heap.size w w' := by
  have hlen : ts.length = n := by simpa using hr.len1
  have HR := Lib.hid hr
  by_cases hi : 0 ≤ i ∧ i < n
  · obtain ⟨h0, h1⟩ := hi
    obtain ⟨k0, rfl⟩ : ∃ k0 : Nat, i = k0 := ⟨i.toNat, by omega⟩
    have hlt : k0 < n := by omega
    have HC := Lib.hid (jnHas_of A n c k0 true (decide_eq_true ⟨h0, h1⟩) w)
    have HA := Lib.hid (jnAhead_any A n c ts k0 w hr hn hnc)
    rw [show jAhead ts k0 = jLast ts k0 by unfold jAhead; rw [if_pos ⟨h0, by omega⟩, Int.toNat_natCast]] at HA
    obtain ⟨t, htk⟩ : ∃ s, ts[k0]? = some s := ⟨_, List.getElem?_eq_getElem (by omega)⟩
    have hv' : (decide (t = 1) && jJoinI ts (jLast ts k0)) = v := by
      rw [← hv]; unfold jOver
      rw [if_pos ⟨h0, by omega⟩, Int.toNat_natCast]; simp [htk]
    have hJ : jJoined ts (jLast ts k0) = jJoinI ts (jLast ts k0) := by
      have := jLast_lt ts k0
      unfold jJoined jJoinI
      by_cases c : 0 ≤ jLast ts k0
      · rw [if_pos ⟨c, by omega⟩, if_pos c]
      · rw [if_neg (fun h => c h.1), if_neg c]
    have hcell := hr.at_ hlt
    obtain ⟨ad, rfl, _, hc⟩ := hcell
    have cs : w.cell? (ad.add k0) = some (.int .i64 t) := hc _ (by rw [List.getElem?_map, htk]; rfl)
    by_cases ht : t = 1
    · subst ht
      obtain ⟨q, hq⟩ : ∃ q, jLast ts k0 = q := ⟨_, rfl⟩
      rw [hq] at HA hv' hJ
      obtain rfl : jJoinI ts q = v := by simpa using hv'
      have HJ := Lib.hid (fun w1 (h : Rd w1 1 (some ad) n (ts.map (Value.int .i64))) => jnJoined_of (some ad) n c ts q (jJoinI ts q) hJ w1 h hn)
      obtain ⟨r, hr'⟩ : ∃ r, jJoinI ts q = r := ⟨_, rfl⟩
      rw [hr'] at HJ ⊢
      clear hv hv' hJ htk hc hlen h0 h1 hq hr' hr
      have hbz := Below.refl w.heap.size w
      go_enter Try.func21, Try.ntmps21
      go_wp2_with (first
        | (go_at_call 43; with_reducible refine HC.out.mono ?_; rintro e w1 ⟨rfl, rfl⟩)
        | (go_at_call 15; with_reducible refine HA.out.mono ?_; rintro e w1 ⟨rfl, hb1⟩)
        | (go_at_call 19; with_reducible refine (HJ.out _ (HR.out.below hb1)).mono ?_; rintro e w2 ⟨rfl, rfl⟩)
        | fail)
      go_ret
      exact ⟨rfl, hb1⟩
    · obtain rfl : v = false := by rw [← hv', decide_eq_false ht]; rfl
      have g1 : (t == 1) = false := by simp [ht]
      clear hv hv' hJ htk hc hlen h0 h1 HA ht hr
      go_enter Try.func21, Try.ntmps21
      go_wp2_with (first
        | (go_at_call 43; with_reducible refine HC.out.mono ?_; rintro e w1 ⟨rfl, rfl⟩)
        | fail)
      go_ret
      exact ⟨rfl, Below.refl _ _⟩
  · have HC := Lib.hid (jnHas_of A n c i false (decide_eq_false hi) w)
    obtain rfl : v = false := by rw [← hv]; exact if_neg (by rw [hlen]; exact hi)
    clear hi hv hlen hr
    go_enter Try.func21, Try.ntmps21
    go_wp2_with (first
      | (go_at_call 43; with_reducible refine HC.out.mono ?_; rintro e w1 ⟨rfl, rfl⟩)
      | fail)
    go_ret
    exact ⟨rfl, Below.refl _ _⟩
set_option maxRecDepth 100000 in
theorem refOver_of (A : Option Addr) (n c : Nat) (ts : List Int) (i : Int) (v : Bool) (hv : jOver ts i = v) (w : World) (hr : Rd w 1 A n (ts.map (Value.int .i64))) (hn : n ≤ 1000000) :
    Calls Try.prog 22 #[.slice A n c, .int .i64 i] w fun e w' => e = .returned (.bool v) ∧ Below w.heap.size w w' := by
  have hlen : ts.length = n := by simpa using hr.len1
  have HR := Lib.hid hr
  by_cases hi : 0 ≤ i ∧ i < n
  · obtain ⟨h0, h1⟩ := hi
    obtain ⟨k0, rfl⟩ : ∃ k0 : Nat, i = k0 := ⟨i.toNat, by omega⟩
    have hlt : k0 < n := by omega
    have HA := Lib.hid (refAhead_any A n c ts k0 w hr hn)
    rw [show jAhead ts k0 = jLast ts k0 by unfold jAhead; rw [if_pos ⟨h0, by omega⟩, Int.toNat_natCast]] at HA
    obtain ⟨t, htk⟩ : ∃ s, ts[k0]? = some s := ⟨_, List.getElem?_eq_getElem (by omega)⟩
    have hv' : (decide (t = 1) && jJoinI ts (jLast ts k0)) = v := by
      rw [← hv]; unfold jOver
      rw [if_pos ⟨h0, by omega⟩, Int.toNat_natCast]; simp [htk]
    have hJ : jJoined ts (jLast ts k0) = jJoinI ts (jLast ts k0) := by
      have := jLast_lt ts k0
      unfold jJoined jJoinI
      by_cases c : 0 ≤ jLast ts k0
      · rw [if_pos ⟨c, by omega⟩, if_pos c]
      · rw [if_neg (fun h => c h.1), if_neg c]
    have hcell := hr.at_ hlt
    obtain ⟨ad, rfl, _, hc⟩ := hcell
    have cs : w.cell? (ad.add k0) = some (.int .i64 t) := hc _ (by rw [List.getElem?_map, htk]; rfl)
    by_cases ht : t = 1
    · subst ht
      obtain ⟨q, hq⟩ : ∃ q, jLast ts k0 = q := ⟨_, rfl⟩
      rw [hq] at HA hv' hJ
      obtain rfl : jJoinI ts q = v := by simpa using hv'
      have HJ := Lib.hid (refJoined_of (some ad) n c ts q (jJoinI ts q) hJ w hr hn)
      obtain ⟨r, hr'⟩ : ∃ r, jJoinI ts q = r := ⟨_, rfl⟩
      rw [hr'] at HJ ⊢
      clear hv hv' hJ htk hc hlen hq hr' hr
      go_enter Try.func22, Try.ntmps22
      go_wp2_with (first
        | (go_at_call 16; with_reducible refine HA.out.mono ?_; rintro e w1 ⟨rfl, rfl⟩)
        | (go_at_call 20; with_reducible refine HJ.out.mono ?_; rintro e w2 ⟨rfl, hb1⟩)
        | fail)
      go_ret
      exact ⟨rfl, hb1⟩
    · obtain rfl : v = false := by rw [← hv', decide_eq_false ht]; rfl
      have g1 : (t == 1) = false := by simp [ht]
      clear hv hv' hJ htk hc hlen HA ht hr
      go_enter Try.func22, Try.ntmps22
      go_wp2_with fail
      go_ret
      exact ⟨rfl, Below.refl _ _⟩
  · obtain rfl : v = false := by rw [← hv]; exact if_neg (by rw [hlen]; exact hi)
    have hi' : i < 0 ∨ (0 ≤ i ∧ (n : Int) ≤ i) := by omega
    clear hi hv hlen hr
    rcases hi' with h | ⟨h, h'⟩
    all_goals
      go_enter Try.func22, Try.ntmps22
      go_wp2_with fail
      go_ret
      exact ⟨rfl, Below.refl _ _⟩
end Go.Proofs.Ytcjcimdembkbkaa
