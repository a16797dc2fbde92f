/- The project's Ligate, Parted, Accent, Mark, Pile, Unpile. -/
import Derived.Test.YtfobhnpmaooalaaFmP3
namespace Go.Proofs.Ytfobhnpmaooalaa
open Go.RowKit

theorem rdNew2b (w : World) (o : Obj) (a b : Int) (t : TypeId) : Rd ((w.alloc o).alloc (.cells #[.int .i64 a, .int .i64 b] t)) 1 (some ⟨w.heap.size + 1, 0, none⟩) 2 (([a, b] : List Int).map (Value.int .i64)) := by
  have h := rdNew2 (w.alloc o) a b t
  rwa [show (w.alloc o).heap.size = w.heap.size + 1 by simp] at h
theorem pick_wrap2 {f v : Int} {ok : Bool} {xs : List Int} (hl : xs.length ≤ 1000) (hmin : f = -9223372036854775808) (h : pickF (f - 1) xs = (v, ok)) : pickF (IntKind.i64.wrap (f - 1)) xs = (v, ok) := by
  have hp := pick_min xs hl
  have hw : IntKind.i64.wrap (f - 1) = 9223372036854775807 := by rw [hmin]; decide
  rw [hw, hp.1, ← hp.2, ← hmin]
  exact h
set_option maxRecDepth 100000 in
set_option maxHeartbeats 1000000 in
theorem fmLigate_any (a f v : Int) (ok : Bool) (hv : ligF a f = (v, ok)) (h0 : -9223372036854775808 ≤ f) (h9 : f ≤ 9223372036854775807) (w : World) :
    Calls Try.prog 23 #[.int .i64 a, .int .i64 f] w fun e w' => e = .returned (.tuple #[.int .i64 v, .bool ok]) ∧ Below w.heap.size w w' := by
  rw [ligF_eq] at hv
  have HV := Lib.hid hv
  clear hv
  go_enter Try.func23, Try.ntmps23
  go_wp2_with fail
  refine (ligatures_any _).mono ?_
  rintro e w1 ⟨⟨A, rfl, hr⟩, hb1⟩
  have HL := Lib.hid (show ligL.length = 4 from rfl)
  obtain ⟨l, hl⟩ : ∃ l, ligL = l := ⟨_, rfl⟩
  rw [hl] at HV HL hr
  clear hl
  go_wp2
  go_loopw [10] (fun i wr => ∃ (k : Nat), k ≤ 4 ∧ i = .int .i64 k ∧ ligP a f l = ligP a f (l.drop k) ∧ Below w1.heap.size w1 wr) (fun i _ => 4 - (intOf i).toNat)
  case atStart => exact ⟨0, Nat.zero_le _, rfl, rfl, Below.refl _ _⟩
  case round =>
    obtain ⟨k, hk, rfl, hp, hb⟩ := hrel
    have HP := Lib.hid hp
    clear hp
    by_cases hlt : k < 4
    · obtain ⟨s, hsk⟩ : ∃ s, l[k]? = some s := ⟨_, List.getElem?_eq_getElem (by rw [HL.out]; exact hlt)⟩
      obtain ⟨ad, rfl, hab, c1, c2, c3⟩ := (hr.below hb).rg hsk
      have HD := Lib.hid (dropCons hsk)
      clear hsk
      obtain ⟨x, y, z⟩ := s
      simp only at c1 c2 c3
      have hbn := below_self hb (below_new wr (.cells #[.int .i64 x, .int .i64 y, .int .i64 z] 77))
      by_cases h1 : x = a
      · have hp := show pickF (f - 1) [y, z] = (v, ok) by rw [← HV.out, HP.out, HD.out, ligP, if_pos h1]; rfl
        subst h1
        by_cases hmin : f = -9223372036854775808
        · obtain ⟨q, hw, hq⟩ : ∃ q, IntKind.i64.wrap (f - 1) = q ∧ pickF q [y, z] = (v, ok) := ⟨_, rfl, pick_wrap2 (by simp) hmin hp⟩
          have HE := Lib.hid hq
          clear hmin h0 h9 hq hp
          go_wp2_with fail
          refine (pick_any (some ⟨wr.heap.size + 1, 0, none⟩) 2 2 [y, z] q v ok _ HE.out (rdNew2b wr _ y z _) (by omega)).mono ?_
          rintro e w3 ⟨rfl, hb3⟩
          have hb4 := below_self hb1 (below_self (below_self hbn (below_new _ _)) hb3)
          go_wp2
          go_ret2
          exact ⟨rfl, hb4⟩
        · have hlo : -9223372036854775808 ≤ f - 1 := by omega
          have hhi : f - 1 ≤ 9223372036854775807 := by omega
          have HE := Lib.hid hp
          clear hmin hp
          go_wp2_with fail
          refine (pick_any (some ⟨wr.heap.size + 1, 0, none⟩) 2 2 [y, z] (f - 1) v ok _ HE.out (rdNew2b wr _ y z _) (by omega)).mono ?_
          rintro e w3 ⟨rfl, hb3⟩
          have hb4 := below_self hb1 (below_self (below_self hbn (below_new _ _)) hb3)
          go_wp2
          go_ret2
          exact ⟨rfl, hb4⟩
      · have HF := Lib.hid (show ligP a f l = ligP a f (l.drop (k + 1)) by rw [HP.out, HD.out]; exact if_neg h1)
        have g1 : (x == a) = false := by simp [h1]
        clear h1
        go_wp2
        go_roundw
        case rel => exact ⟨k + 1, by omega, by go_num, HF.out, hbn⟩
        case measure => simp [intOf]; omega
    · have hX := show (v, ok) = (0, false) by rw [← HV.out, HP.out, List.drop_eq_nil_of_le (by rw [HL.out]; omega)]; rfl
      simp only [Prod.mk.injEq] at hX
      obtain ⟨rfl, rfl⟩ := hX
      go_wp2
      go_ret2
      exact ⟨rfl, below_self hb1 hb⟩
theorem hit_two_le (c y z : Int) : hitF c [y, z] ≤ 2 := by
  rw [hit_idx]
  split
  · omega
  · simp only [idx1]
    by_cases h1 : y = c <;> by_cases h2 : z = c <;> simp [h1, h2]
set_option maxRecDepth 100000 in
set_option maxHeartbeats 1000000 in
theorem fmParted_any (c x q : Int) (ok : Bool) (hv : parF c = (x, q, ok)) (w : World) :
    Calls Try.prog 28 #[.int .i64 c] w fun e w' => e = .returned (.tuple #[.int .i64 x, .int .i64 q, .bool ok]) ∧ Below w.heap.size w w' := by
  rw [parF_eq] at hv
  have HV := Lib.hid hv
  clear hv
  go_enter Try.func28, Try.ntmps28
  go_wp2_with fail
  refine (ligatures_any _).mono ?_
  rintro e w1 ⟨⟨A, rfl, hr⟩, hb1⟩
  have HL := Lib.hid (show ligL.length = 4 from rfl)
  obtain ⟨l, hl⟩ : ∃ l, ligL = l := ⟨_, rfl⟩
  rw [hl] at HV HL hr
  clear hl
  go_wp2
  go_loopw [11] (fun i wr => ∃ (k : Nat), k ≤ 4 ∧ i = .int .i64 k ∧ parP c l = parP c (l.drop k) ∧ Below w1.heap.size w1 wr) (fun i _ => 4 - (intOf i).toNat)
  case atStart => exact ⟨0, Nat.zero_le _, rfl, rfl, Below.refl _ _⟩
  case round =>
    obtain ⟨k, hk, rfl, hp, hb⟩ := hrel
    have HP := Lib.hid hp
    clear hp
    by_cases hlt : k < 4
    · obtain ⟨s, hsk⟩ : ∃ s, l[k]? = some s := ⟨_, List.getElem?_eq_getElem (by rw [HL.out]; exact hlt)⟩
      obtain ⟨ad, rfl, hab, c1, c2, c3⟩ := (hr.below hb).rg hsk
      have HD := Lib.hid (dropCons hsk)
      clear hsk
      obtain ⟨y, f1, f2⟩ := s
      simp only at c1 c2 c3
      have hbn := below_self hb (below_new wr (.cells #[.int .i64 y, .int .i64 f1, .int .i64 f2] 77))
      have d0 : (wr.alloc (.cells #[.int .i64 y, .int .i64 f1, .int .i64 f2] 77)).cell? ⟨wr.heap.size, 0, none⟩ = some (.int .i64 y) := by rw [World.cell?_alloc_at _ _ _ _ rfl]; rfl
      obtain ⟨h, hh⟩ : ∃ h, hitF c [f1, f2] = h := ⟨_, rfl⟩
      have hh2 : h ≤ 2 := by rw [← hh]; exact hit_two_le c f1 f2
      have HH := Lib.hid hh
      clear hh
      go_wp2_with fail
      refine (place_any (some ⟨wr.heap.size + 1, 0, none⟩) 2 2 [f1, f2] c h _ HH.out (rdNew2b wr _ f1 f2 _) (by omega)).mono ?_
      rintro e w3 ⟨⟨r, rfl, hr2⟩, hw3⟩
      have hbp := below_self hbn (below_new (wr.alloc (.cells #[.int .i64 y, .int .i64 f1, .int .i64 f2] 77)) (.cells #[.int .i64 f1, .int .i64 f2] 3))
      have e0 := cell_below (below_new (wr.alloc (.cells #[.int .i64 y, .int .i64 f1, .int .i64 f2] 77)) (.cells #[.int .i64 f1, .int .i64 f2] 3)) d0
      rw [hw3] at hbp e0
      clear hw3 d0 hbn c1 c2 c3
      rcases Nat.eq_zero_or_pos h with h0 | h0
      · have HX := Lib.hid (show parP c l = parP c (l.drop (k + 1)) by rw [HP.out, HD.out, parP, if_pos (by show hitF c [f1, f2] = 0; rw [HH.out]; exact h0)])
        subst h0
        clear hr2
        go_wp2
        go_roundw
        case rel => exact ⟨k + 1, by omega, by go_num, HX.out, hbp⟩
        case measure => simp [intOf]; omega
      · have hX := show (x, q, ok) = (y, (h : Int), true) by rw [← HV.out, HP.out, HD.out, parP, if_neg (by show ¬ hitF c [f1, f2] = 0; rw [HH.out]; omega)]; show (y, ((hitF c [f1, f2] : Nat) : Int), true) = _; rw [HH.out]
        simp only [Prod.mk.injEq] at hX
        obtain ⟨rfl, rfl, rfl⟩ := hX
        have hr3 := hr2 (by omega)
        obtain ⟨j, rfl⟩ : ∃ j : Nat, h = j + 1 := ⟨h - 1, by omega⟩
        obtain rfl : r = (j : Int) := by rw [hr3]; omega
        clear hr2 hr3 h0
        go_wp2
        go_ret3
        exact ⟨by rw [show ((j + 1 : Nat) : Int) = 1 + (j : Int) by omega]; rfl, below_self hb1 hbp⟩
    · have hX := show (x, q, ok) = (0, 0, false) by rw [← HV.out, HP.out, List.drop_eq_nil_of_le (by rw [HL.out]; omega)]; rfl
      simp only [Prod.mk.injEq] at hX
      obtain ⟨rfl, rfl, rfl⟩ := hX
      go_wp2
      go_ret3
      exact ⟨rfl, below_self hb1 hb⟩
set_option maxRecDepth 100000 in
set_option maxHeartbeats 1000000 in
theorem fmMark_any (c x : Int) (q ok : Bool) (hv : marF c = (x, q, ok)) (w : World) :
    Calls Try.prog 34 #[.int .i64 c] w fun e w' => e = .returned (.tuple #[.int .i64 x, .bool q, .bool ok]) ∧ Below w.heap.size w w' := by
  rw [marF_eq] at hv
  have HV := Lib.hid hv
  clear hv
  go_enter Try.func34, Try.ntmps34
  go_wp2_with fail
  refine (accents_any _).mono ?_
  rintro e w1 ⟨⟨A, rfl, hr⟩, hb1⟩
  have HL := Lib.hid (show accL.length = 8 from rfl)
  obtain ⟨l, hl⟩ : ∃ l, accL = l := ⟨_, rfl⟩
  rw [hl] at HV HL hr
  clear hl
  go_wp2
  go_loopw [11] (fun i wr => ∃ (k : Nat), k ≤ 8 ∧ i = .int .i64 k ∧ marP c l = marP c (l.drop k) ∧ Below w1.heap.size w1 wr) (fun i _ => 8 - (intOf i).toNat)
  case atStart => exact ⟨0, Nat.zero_le _, rfl, rfl, Below.refl _ _⟩
  case round =>
    obtain ⟨k, hk, rfl, hp, hb⟩ := hrel
    have HP := Lib.hid hp
    clear hp
    by_cases hlt : k < 8
    · obtain ⟨s, hsk⟩ : ∃ s, l[k]? = some s := ⟨_, List.getElem?_eq_getElem (by rw [HL.out]; exact hlt)⟩
      obtain ⟨ad, rfl, hab, c1, c2, c3⟩ := (hr.below hb).rg hsk
      have HD := Lib.hid (dropCons hsk)
      clear hsk
      obtain ⟨y, f1, f2⟩ := s
      simp only at c1 c2 c3
      have hbn := below_self hb (below_new wr (.cells #[.int .i64 y, .int .i64 f1, .int .i64 f2] 84))
      have d0 : (wr.alloc (.cells #[.int .i64 y, .int .i64 f1, .int .i64 f2] 84)).cell? ⟨wr.heap.size, 0, none⟩ = some (.int .i64 y) := by rw [World.cell?_alloc_at _ _ _ _ rfl]; rfl
      obtain ⟨h, hh⟩ : ∃ h, hitF c [f1, f2] = h := ⟨_, rfl⟩
      have hh2 : h ≤ 2 := by rw [← hh]; exact hit_two_le c f1 f2
      have HH := Lib.hid hh
      clear hh
      go_wp2_with fail
      refine (place_any (some ⟨wr.heap.size + 1, 0, none⟩) 2 2 [f1, f2] c h _ HH.out (rdNew2b wr _ f1 f2 _) (by omega)).mono ?_
      rintro e w3 ⟨⟨r, rfl, hr2⟩, hw3⟩
      have hbp := below_self hbn (below_new (wr.alloc (.cells #[.int .i64 y, .int .i64 f1, .int .i64 f2] 84)) (.cells #[.int .i64 f1, .int .i64 f2] 3))
      have e0 := cell_below (below_new (wr.alloc (.cells #[.int .i64 y, .int .i64 f1, .int .i64 f2] 84)) (.cells #[.int .i64 f1, .int .i64 f2] 3)) d0
      rw [hw3] at hbp e0
      clear hw3 d0 hbn c1 c2 c3
      rcases Nat.eq_zero_or_pos h with h0 | h0
      · have HX := Lib.hid (show marP c l = marP c (l.drop (k + 1)) by rw [HP.out, HD.out, marP, if_pos (by show hitF c [f1, f2] = 0; rw [HH.out]; exact h0)])
        subst h0
        clear hr2
        go_wp2
        go_roundw
        case rel => exact ⟨k + 1, by omega, by go_num, HX.out, hbp⟩
        case measure => simp [intOf]; omega
      · have hX := show (x, q, ok) = (y, decide (h = 2), true) by rw [← HV.out, HP.out, HD.out, marP, if_neg (by show ¬ hitF c [f1, f2] = 0; rw [HH.out]; omega)]; show (y, decide (hitF c [f1, f2] = 2), true) = _; rw [HH.out]
        simp only [Prod.mk.injEq] at hX
        obtain ⟨rfl, rfl, rfl⟩ := hX
        have hr3 := hr2 (by omega)
        have hcase : h = 1 ∨ h = 2 := by omega
        rcases hcase with rfl | rfl
        · obtain rfl : r = 0 := by rw [hr3]; rfl
          clear hr2 hr3 h0
          go_wp2
          go_ret3
          exact ⟨rfl, below_self hb1 hbp⟩
        · obtain rfl : r = 1 := by rw [hr3]; rfl
          clear hr2 hr3 h0
          go_wp2
          go_ret3
          exact ⟨rfl, below_self hb1 hbp⟩
    · have hX := show (x, q, ok) = (0, false, false) by rw [← HV.out, HP.out, List.drop_eq_nil_of_le (by rw [HL.out]; omega)]; rfl
      simp only [Prod.mk.injEq] at hX
      obtain ⟨rfl, rfl, rfl⟩ := hX
      go_wp2
      go_ret3
      exact ⟨rfl, below_self hb1 hb⟩
end Go.Proofs.Ytfobhnpmaooalaa
