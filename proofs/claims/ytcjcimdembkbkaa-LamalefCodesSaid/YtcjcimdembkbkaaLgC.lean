/- The project's Ligate. -/
import Derived.Test.YtcjcimdembkbkaaLgB2
namespace Go.Proofs.Ytcjcimdembkbkaa
open Go.RowKit
theorem rdNew2b (w : World) (o : Obj) (a b : Int) (t : TypeId) : Rd ((w.alloc o).alloc (.cells #[.int .i64 a, .int .i64 b] t)) 1 (some ⟨w.heap.size + 1, 0, none⟩) 2 (([a, b] : List Int).map (Value.int .i64)) := by
  have h := rdNew2 (w.alloc o) a b t
  rwa [show (w.alloc o).heap.size = w.heap.size + 1 by simp] at h
theorem pick_wrap2 {f v : Int} {ok : Bool} {xs : List Int} (hl : xs.length ≤ 1000) (hmin : f = -9223372036854775808) (h : pickF (f - 1) xs = (v, ok)) : pickF (IntKind.i64.wrap (f - 1)) xs = (v, ok) := by
  have hp := pick_min xs hl
  have hw : IntKind.i64.wrap (f - 1) = 9223372036854775807 := by rw [hmin]; decide
  rw [hw, hp.1, ← hp.2, ← hmin]
  exact h
set_option maxRecDepth 100000 in
set_option maxHeartbeats 1000000 in
theorem fmLigate_any (a f v : Int) (ok : Bool) (hv : ligF a f = (v, ok)) (h0 : -9223372036854775808 ≤ f) (h9 : f ≤ 9223372036854775807) (w : World) :
    Calls Try.prog 50 #[.int .i64 a, .int .i64 f] w fun e w' => e = .returned (.tuple #[.int .i64 v, .bool ok]) ∧ Below w.heap.size w w' := by
  rw [ligF_eq] at hv
  have HV := Lib.hid hv
  clear hv
  go_enter Try.func50, Try.ntmps50
  go_wp2_with fail
  refine (ligatures_any _).mono ?_
  rintro e w1 ⟨⟨A, rfl, hr⟩, hb1⟩
  have HL := Lib.hid (show ligL.length = 4 from rfl)
  obtain ⟨l, hl⟩ : ∃ l, ligL = l := ⟨_, rfl⟩
  rw [hl] at HV HL hr
  clear hl
  go_wp2
  go_loopw [10] (fun i wr => ∃ (k : Nat), k ≤ 4 ∧ i = .int .i64 k ∧ ligP a f l = ligP a f (l.drop k) ∧ Below w1.heap.size w1 wr) (fun i _ => 4 - (intOf i).toNat)
  case atStart => exact ⟨0, Nat.zero_le _, rfl, rfl, Below.refl _ _⟩
  case round =>
    obtain ⟨k, hk, rfl, hp, hb⟩ := hrel
    have HP := Lib.hid hp
    clear hp
    by_cases hlt : k < 4
    · obtain ⟨s, hsk⟩ : ∃ s, l[k]? = some s := ⟨_, List.getElem?_eq_getElem (by rw [HL.out]; exact hlt)⟩
      obtain ⟨ad, rfl, hab, c1, c2, c3⟩ := (hr.below hb).rg hsk
      have HD := Lib.hid (dropCons hsk)
      clear hsk
      obtain ⟨x, y, z⟩ := s
      simp only at c1 c2 c3
      have hbn := below_self hb (below_new wr (.cells #[.int .i64 x, .int .i64 y, .int .i64 z] 74))
      by_cases h1 : x = a
      · have hp := show pickF (f - 1) [y, z] = (v, ok) by rw [← HV.out, HP.out, HD.out, ligP, if_pos h1]; rfl
        subst h1
        by_cases hmin : f = -9223372036854775808
        · obtain ⟨q, hw, hq⟩ : ∃ q, IntKind.i64.wrap (f - 1) = q ∧ pickF q [y, z] = (v, ok) := ⟨_, rfl, pick_wrap2 (by simp) hmin hp⟩
          have HE := Lib.hid hq
          clear hmin h0 h9 hq hp
          go_wp2_with fail
          refine (pick_any (some ⟨wr.heap.size + 1, 0, none⟩) 2 2 [y, z] q v ok _ HE.out (rdNew2b wr _ y z _) (by omega)).mono ?_
          rintro e w3 ⟨rfl, hb3⟩
          have hb4 := below_self hb1 (below_self (below_self hbn (below_new _ _)) hb3)
          go_wp2
          go_ret2
          exact ⟨rfl, hb4⟩
        · have hlo : -9223372036854775808 ≤ f - 1 := by omega
          have hhi : f - 1 ≤ 9223372036854775807 := by omega
          have HE := Lib.hid hp
          clear hmin hp
          go_wp2_with fail
          refine (pick_any (some ⟨wr.heap.size + 1, 0, none⟩) 2 2 [y, z] (f - 1) v ok _ HE.out (rdNew2b wr _ y z _) (by omega)).mono ?_
          rintro e w3 ⟨rfl, hb3⟩
          have hb4 := below_self hb1 (below_self (below_self hbn (below_new _ _)) hb3)
          go_wp2
          go_ret2
          exact ⟨rfl, hb4⟩
      · have HF := Lib.hid (show ligP a f l = ligP a f (l.drop (k + 1)) by rw [HP.out, HD.out]; exact if_neg h1)
        have g1 : (x == a) = false := by simp [h1]
        clear h1
        go_wp2
        go_roundw
        case rel => exact ⟨k + 1, by omega, by go_num, HF.out, hbn⟩
        case measure => simp [intOf]; omega
    · have hX := show (v, ok) = (0, false) by rw [← HV.out, HP.out, List.drop_eq_nil_of_le (by rw [HL.out]; omega)]; rfl
      simp only [Prod.mk.injEq] at hX
      obtain ⟨rfl, rfl⟩ := hX
      go_wp2
      go_ret2
      exact ⟨rfl, below_self hb1 hb⟩
end Go.Proofs.Ytcjcimdembkbkaa
