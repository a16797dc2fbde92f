/- Texts of one claim, one behind the other. -/
import Derived.Test.YtcbiaeeifclieaaGreatDoorMgM1
import Derived.Test.YtcbiaeeifclieaaGreatDoorMgM2
import Derived.Test.YtcbiaeeifclieaaGreatDoorMgM4
import Derived.Test.YtcbiaeeifclieaaGreatDoorMgM6
/- The reference's Base. -/
namespace Go.Proofs.YtcbiaeeifclieaaGreatDoor
open Go.RowKit
theorem addPlain (B O j : Nat) : (⟨B, O, none⟩ : Addr).add j = ⟨B, O + j, none⟩ := by
  unfold Addr.add
  split
  · rename_i h; subst h; rfl
  · simp
/-- No hit ahead of place j. -/
def NoHit (c : Int) (xs : List Int) (j : Nat) : Prop := c = 0 ∨ c ∉ xs.take j
theorem NoHit.hit {c : Int} {xs : List Int} {j : Nat} (h : NoHit c xs j) (h0 : c ≠ 0) (hj : xs[j]? = some c) : hitF c xs = j + 1 := by
  rw [hit_idx, if_neg h0]
  rcases h with h | h
  · exact absurd h h0
  · exact idx1_at hj h
theorem NoHit.next {c x : Int} {xs : List Int} {j : Nat} (h : NoHit c xs j) (hj : xs[j]? = some x) (hx : c = 0 ∨ x ≠ c) : NoHit c xs (j + 1) := by
  rcases h with h | h
  · exact .inl h
  · rcases hx with hx | hx
    · exact .inl hx
    · refine .inr fun m => ?_
      rw [List.take_add_one, hj] at m
      simp only [Option.toList_some, List.mem_append, List.mem_singleton] at m
      rcases m with m | m
      · exact h m
      · exact hx m.symm
theorem NoHit.none_ {c : Int} {t : Lt} (h : NoHit c (formsOf t) 4) : hitF c (formsOf t) = 0 := by
  refine hitF_none ?_
  rcases h with h | h
  · exact .inl h
  · exact .inr h
set_option maxRecDepth 100000 in
set_option maxHeartbeats 1000000 in
theorem refBase_any (c x q : Int) (ok : Bool) (hv : baseF c = (x, q, ok)) (w : World) :
    Calls Tryz.prog 81 #[.int .i64 c] w fun e w' => e = .returned (.tuple #[.int .i64 x, .int .i64 q, .bool ok]) ∧ Below w.heap.size w w' := by
  have hv' : baseR c letL = (x, q, ok) := hv
  have HL := Lib.hid (show letL.length = 76 by decide +kernel)
  have HLT := Lib.hid (lettersR_any w)
  clear hv
  obtain ⟨l, hl⟩ : ∃ l, letL = l := ⟨_, rfl⟩
  rw [hl] at hv' HL HLT
  have HV := Lib.hid hv'
  clear hl hv'
  go_enter Tryz.func81, Tryz.ntmps81
  go_wp2_with fail
  refine HLT.out.mono ?_
  rintro e w1 ⟨⟨ad, rfl, hr⟩, hb1⟩
  have HR := Lib.hid hr
  clear hr HLT
  go_wp2
  go_loopw [6] (fun i wr => ∃ k : Nat, k ≤ 76 ∧ i = .int .i64 k ∧ baseR c l = baseR c (l.drop k) ∧ wr = w1) (fun i _ => 76 - (intOf i).toNat)
  case atStart => exact ⟨0, Nat.zero_le _, rfl, rfl, rfl⟩
  case round =>
    obtain ⟨k, hk, rfl, hp, rfl⟩ := hrel
    have HP := Lib.hid hp
    clear hp
    by_cases hlt : k < 76
    · obtain ⟨t, hk2⟩ : ∃ t, l[k]? = some t := ⟨_, List.getElem?_eq_getElem (by rw [HL.out]; exact hlt)⟩
      have HF := Lib.hid (HR.out.forms hk2)
      obtain ⟨ad', e', hab, c0, _, _, _, _⟩ := HR.out.lt_ hk2
      injection e' with e'
      subst e'
      have HD := Lib.hid (dropCons hk2)
      obtain ⟨y, hy⟩ : ∃ y, t.1 = y := ⟨_, rfl⟩
      rw [hy] at c0
      have HY := Lib.hid hy
      clear hk2 hy
      go_wp2
      go_loopw [7] (fun i w2 => ∃ j : Nat, j ≤ 4 ∧ i = .int .i64 j ∧ NoHit c (formsOf t) j ∧ w2 = wr) (fun i _ => 4 - (intOf i).toNat)
      case atStart => exact ⟨0, Nat.zero_le _, rfl, .inr (by simp), rfl⟩
      case round =>
        obtain ⟨j, hj, rfl, hn, rfl⟩ := hrel
        have HN := Lib.hid hn
        clear hn
        by_cases hlt4 : j < 4
        · obtain ⟨z, hz⟩ : ∃ z, (formsOf t)[j]? = some z := ⟨_, List.getElem?_eq_getElem (by show j < 4; exact hlt4)⟩
          have cz := HF.out.news j (.int .i64 z) (by rw [List.getElem?_map, hz]; rfl)
          rw [addPlain] at cz
          have HZ := Lib.hid hz
          clear hz
          by_cases h0 : c = 0
          · have HX := Lib.hid (HN.out.next HZ.out (.inl h0))
            subst h0
            go_wp2
            go_roundw
            case rel => exact ⟨j + 1, by omega, by go_num, HX.out, trivial⟩
            case measure => simp [intOf]; omega
          · have g0 : (c != 0) = true := by simp [h0]
            by_cases hzc : z = c
            · have hH := HN.out.hit h0 (by rw [HZ.out, hzc])
              have hX := show (x, q, ok) = (y, ((j + 1 : Nat) : Int), true) by
                rw [← HV.out, HP.out, HD.out, baseR, if_neg (by rw [hH]; omega), hH, HY.out]
              simp only [Prod.mk.injEq] at hX
              obtain ⟨rfl, rfl, rfl⟩ := hX
              subst hzc
              clear hH h0
              go_wp2
              go_ret3
              exact ⟨by rw [show ((j + 1 : Nat) : Int) = (j : Int) + 1 by omega]; rfl, hb1⟩
            · have HX := Lib.hid (HN.out.next HZ.out (.inr hzc))
              have g1 : (z == c) = false := by simp [hzc]
              clear hzc h0
              go_wp2
              go_roundw
              case rel => exact ⟨j + 1, by omega, by go_num, HX.out, trivial⟩
              case measure => simp [intOf]; omega
        · obtain rfl : j = 4 := by omega
          have HX := Lib.hid (show baseR c l = baseR c (l.drop (k + 1)) by rw [HP.out, HD.out, baseR, if_pos HN.out.none_])
          go_wp2
          go_roundw
          case rel => exact ⟨k + 1, by omega, by go_num, HX.out, trivial⟩
          case measure => simp [intOf]; omega
    · have hX := show (x, q, ok) = (0, 0, false) by rw [← HV.out, HP.out, List.drop_eq_nil_of_le (by rw [HL.out]; omega)]; rfl
      simp only [Prod.mk.injEq] at hX
      obtain ⟨rfl, rfl, rfl⟩ := hX
      go_wp2
      go_ret3
      exact ⟨rfl, hb1⟩
end Go.Proofs.YtcbiaeeifclieaaGreatDoor
/- The reference's Parted, Mark, Unpile. -/
namespace Go.Proofs.YtcbiaeeifclieaaGreatDoor
open Go.RowKit
set_option maxRecDepth 100000 in
set_option maxHeartbeats 1000000 in
theorem refParted_any (c x q : Int) (ok : Bool) (hv : parF c = (x, q, ok)) (w : World) :
    Calls Tryz.prog 49 #[.int .i64 c] w fun e w' => e = .returned (.tuple #[.int .i64 x, .int .i64 q, .bool ok]) ∧ Below w.heap.size w w' := by
  have hv' : parR c ligL = (x, q, ok) := hv
  have HV := Lib.hid hv'
  clear hv hv'
  go_enter Tryz.func49, Tryz.ntmps49
  go_wp2_with fail
  refine (ligatures_any _).mono ?_
  rintro e w1 ⟨⟨A, rfl, hr⟩, hb1⟩
  have HL := Lib.hid (show ligL.length = 4 from rfl)
  obtain ⟨l, hl⟩ : ∃ l, ligL = l := ⟨_, rfl⟩
  rw [hl] at HV HL hr
  clear hl
  go_wp2
  go_loopw [6] (fun i wr => ∃ (k : Nat), k ≤ 4 ∧ i = .int .i64 k ∧ parR c l = parR c (l.drop k) ∧ wr = w1) (fun i _ => 4 - (intOf i).toNat)
  case atStart => exact ⟨0, Nat.zero_le _, rfl, rfl, rfl⟩
  case round =>
    obtain ⟨k, hk, rfl, hp, rfl⟩ := hrel
    have HP := Lib.hid hp
    clear hp
    by_cases hlt : k < 4
    · obtain ⟨s, hsk⟩ : ∃ s, l[k]? = some s := ⟨_, List.getElem?_eq_getElem (by rw [HL.out]; exact hlt)⟩
      obtain ⟨ad, rfl, hab, c1, c2, c3⟩ := hr.rg hsk
      have HD := Lib.hid (dropCons hsk)
      clear hsk
      obtain ⟨y, f1, f2⟩ := s
      simp only at c1 c2 c3
      by_cases h1 : f1 = c
      · have hX := show (x, q, ok) = (y, 1, true) by rw [← HV.out, HP.out, HD.out]; exact if_pos h1
        simp only [Prod.mk.injEq] at hX
        obtain ⟨rfl, rfl, rfl⟩ := hX
        subst h1
        go_wp2
        go_ret3
        exact ⟨rfl, hb1⟩
      · by_cases h2 : f2 = c
        · have hX := show (x, q, ok) = (y, 2, true) by rw [← HV.out, HP.out, HD.out]; exact (if_neg h1).trans (if_pos h2)
          simp only [Prod.mk.injEq] at hX
          obtain ⟨rfl, rfl, rfl⟩ := hX
          have g1 : (f1 == c) = false := by simp [h1]
          clear h1
          subst h2
          go_wp2
          go_ret3
          exact ⟨rfl, hb1⟩
        · have HF := Lib.hid (show parR c l = parR c (l.drop (k + 1)) by rw [HP.out, HD.out]; exact (if_neg h1).trans (if_neg h2))
          have g1 : (f1 == c) = false := by simp [h1]
          have g2 : (f2 == c) = false := by simp [h2]
          clear h1 h2
          go_wp2
          go_roundw
          case rel => exact ⟨k + 1, by omega, by go_num, HF.out, trivial⟩
          case measure => simp [intOf]; omega
    · have hX := show (x, q, ok) = (0, 0, false) by rw [← HV.out, HP.out, List.drop_eq_nil_of_le (by rw [HL.out]; omega)]; rfl
      simp only [Prod.mk.injEq] at hX
      obtain ⟨rfl, rfl, rfl⟩ := hX
      go_wp2
      go_ret3
      exact ⟨rfl, hb1⟩
set_option maxRecDepth 100000 in
set_option maxHeartbeats 1000000 in
theorem refMark_any (c x : Int) (q ok : Bool) (hv : marF c = (x, q, ok)) (w : World) :
    Calls Tryz.prog 107 #[.int .i64 c] w fun e w' => e = .returned (.tuple #[.int .i64 x, .bool q, .bool ok]) ∧ Below w.heap.size w w' := by
  have hv' : marR c accL = (x, q, ok) := hv
  have HV := Lib.hid hv'
  clear hv hv'
  go_enter Tryz.func107, Tryz.ntmps107
  go_wp2_with fail
  refine (accents_any _).mono ?_
  rintro e w1 ⟨⟨A, rfl, hr⟩, hb1⟩
  have HL := Lib.hid (show accL.length = 8 from rfl)
  obtain ⟨l, hl⟩ : ∃ l, accL = l := ⟨_, rfl⟩
  rw [hl] at HV HL hr
  clear hl
  go_wp2
  go_loopw [6] (fun i wr => ∃ (k : Nat), k ≤ 8 ∧ i = .int .i64 k ∧ marR c l = marR c (l.drop k) ∧ wr = w1) (fun i _ => 8 - (intOf i).toNat)
  case atStart => exact ⟨0, Nat.zero_le _, rfl, rfl, rfl⟩
  case round =>
    obtain ⟨k, hk, rfl, hp, rfl⟩ := hrel
    have HP := Lib.hid hp
    clear hp
    by_cases hlt : k < 8
    · obtain ⟨s, hsk⟩ : ∃ s, l[k]? = some s := ⟨_, List.getElem?_eq_getElem (by rw [HL.out]; exact hlt)⟩
      obtain ⟨ad, rfl, hab, c1, c2, c3⟩ := hr.rg hsk
      have HD := Lib.hid (dropCons hsk)
      clear hsk
      obtain ⟨y, f1, f2⟩ := s
      simp only at c1 c2 c3
      by_cases h1 : f1 = c
      · have hX := show (x, q, ok) = (y, false, true) by rw [← HV.out, HP.out, HD.out]; exact if_pos h1
        simp only [Prod.mk.injEq] at hX
        obtain ⟨rfl, rfl, rfl⟩ := hX
        subst h1
        go_wp2
        go_ret3
        exact ⟨rfl, hb1⟩
      · by_cases h0 : c = 0
        · have HF := Lib.hid (show marR c l = marR c (l.drop (k + 1)) by rw [HP.out, HD.out]; exact (if_neg h1).trans (if_neg (fun e => e.1 h0)))
          subst h0
          have g1 : (f1 == 0) = false := by simp [h1]
          clear h1
          go_wp2
          go_roundw
          case rel => exact ⟨k + 1, by omega, by go_num, HF.out, trivial⟩
          case measure => simp [intOf]; omega
        · by_cases h2 : f2 = c
          · have hX := show (x, q, ok) = (y, true, true) by rw [← HV.out, HP.out, HD.out]; exact (if_neg h1).trans (if_pos ⟨h0, h2⟩)
            simp only [Prod.mk.injEq] at hX
            obtain ⟨rfl, rfl, rfl⟩ := hX
            have g1 : (f1 == c) = false := by simp [h1]
            have g0 : (c != 0) = true := by simp [h0]
            clear h1 h0
            subst h2
            go_wp2
            go_ret3
            exact ⟨rfl, hb1⟩
          · have HF := Lib.hid (show marR c l = marR c (l.drop (k + 1)) by rw [HP.out, HD.out]; exact (if_neg h1).trans (if_neg (fun e => h2 e.2)))
            have g1 : (f1 == c) = false := by simp [h1]
            have g2 : (f2 == c) = false := by simp [h2]
            have g0 : (c != 0) = true := by simp [h0]
            clear h1 h2 h0
            go_wp2
            go_roundw
            case rel => exact ⟨k + 1, by omega, by go_num, HF.out, trivial⟩
            case measure => simp [intOf]; omega
    · have hX := show (x, q, ok) = (0, false, false) by rw [← HV.out, HP.out, List.drop_eq_nil_of_le (by rw [HL.out]; omega)]; rfl
      simp only [Prod.mk.injEq] at hX
      obtain ⟨rfl, rfl, rfl⟩ := hX
      go_wp2
      go_ret3
      exact ⟨rfl, hb1⟩
set_option maxRecDepth 100000 in
set_option maxHeartbeats 1000000 in
theorem refUnpile_any (c x : Int) (ok : Bool) (hv : unpF c = (x, ok)) (w : World) :
    Calls Tryz.prog 108 #[.int .i64 c] w fun e w' => e = .returned (.tuple #[.int .i64 x, .bool ok]) ∧ Below w.heap.size w w' := by
  have hv' : unpR c pilL = (x, ok) := hv
  have HV := Lib.hid hv'
  clear hv hv'
  go_enter Tryz.func108, Tryz.ntmps108
  go_wp2_with fail
  refine (piles_any _).mono ?_
  rintro e w1 ⟨⟨A, rfl, hr⟩, hb1⟩
  have HL := Lib.hid (show pilL.length = 6 from rfl)
  obtain ⟨l, hl⟩ : ∃ l, pilL = l := ⟨_, rfl⟩
  rw [hl] at HV HL hr
  clear hl
  go_wp2
  go_loopw [5] (fun i wr => ∃ (k : Nat), k ≤ 6 ∧ i = .int .i64 k ∧ unpR c l = unpR c (l.drop k) ∧ wr = w1) (fun i _ => 6 - (intOf i).toNat)
  case atStart => exact ⟨0, Nat.zero_le _, rfl, rfl, rfl⟩
  case round =>
    obtain ⟨k, hk, rfl, hp, rfl⟩ := hrel
    have HP := Lib.hid hp
    clear hp
    by_cases hlt : k < 6
    · obtain ⟨s, hsk⟩ : ∃ s, l[k]? = some s := ⟨_, List.getElem?_eq_getElem (by rw [HL.out]; exact hlt)⟩
      obtain ⟨ad, rfl, hab, c1, c2⟩ := hr.span hsk
      have HD := Lib.hid (dropCons hsk)
      clear hsk
      obtain ⟨y, z⟩ := s
      simp only at c1 c2
      by_cases h1 : z = c
      · have hX := show (x, ok) = (y, true) by rw [← HV.out, HP.out, HD.out]; exact if_pos h1
        simp only [Prod.mk.injEq] at hX
        obtain ⟨rfl, rfl⟩ := hX
        subst h1
        go_wp2
        go_ret2
        exact ⟨rfl, hb1⟩
      · have HF := Lib.hid (show unpR c l = unpR c (l.drop (k + 1)) by rw [HP.out, HD.out]; exact if_neg h1)
        have g1 : (z == c) = false := by simp [h1]
        clear h1
        go_wp2
        go_roundw
        case rel => exact ⟨k + 1, by omega, by go_num, HF.out, trivial⟩
        case measure => simp [intOf]; omega
    · have hX := show (x, ok) = (0, false) by rw [← HV.out, HP.out, List.drop_eq_nil_of_le (by rw [HL.out]; omega)]; rfl
      simp only [Prod.mk.injEq] at hX
      obtain ⟨rfl, rfl⟩ := hX
      go_wp2
      go_ret2
      exact ⟨rfl, hb1⟩
end Go.Proofs.YtcbiaeeifclieaaGreatDoor
/- The reference's Join of a code. -/
namespace Go.Proofs.YtcbiaeeifclieaaGreatDoor
open Go.RowKit
set_option maxRecDepth 100000 in
set_option maxHeartbeats 1000000 in
theorem refJoin_gen (lJ : List Rg) (nJ : Nat) (cJ : ∀ w : World, Calls Tryz.prog 27 #[] w fun e w' => e = .returned (.slice (some ⟨w.heap.size, 0, none⟩) nJ nJ) ∧ w' = w.alloc (.cells (cellsG lJ).toArray 118)) (hnJ : lJ.length = nJ) (h4 : nJ ≤ 4096) (c : Int) (w : World) :
    Calls Tryz.prog 128 #[.int .i64 c] w fun e w' => e = .returned (.int .i64 (getG lJ 0 c)) ∧ Below w.heap.size w w' := by
  have CJ := Lib.hid cJ
  have NJ := Lib.hid hnJ
  clear cJ hnJ
  go_enter Tryz.func128, Tryz.ntmps128
  go_wp2_with fail
  refine (CJ.out _).mono ?_
  rintro e w1 ⟨rfl, hw1⟩
  have hr := rd_blk (w := w1) (b := w.heap.size) (t := 118) 3 (cs := cellsG lJ) (m := nJ) (by rw [hw1]; exact heap_alloc_new _ _) (by rw [cellsG_len, NJ.out])
  have hb1 : Below w.heap.size w w1 := by rw [hw1]; exact below_new _ _
  have HR := Lib.hid hr
  clear hw1 hr
  go_wp2_with fail
  refine (refGetG_any (some ⟨w.heap.size, 0, none⟩) nJ nJ lJ 0 c w1 HR.out (by unfold maxLen; omega)).mono ?_
  rintro e w2 ⟨rfl, rfl⟩
  go_wp2
  go_ret
  exact ⟨rfl, hb1⟩
theorem refJoin_any (c v : Int) (hv : joinF c = v) (w : World) : Calls Tryz.prog 128 #[.int .i64 c] w fun e w' => e = .returned (.int .i64 v) ∧ Below w.heap.size w w' := by
  rw [← hv]
  exact refJoin_gen joinL 68 joinRanges_any (by decide +kernel) (by omega) c w
end Go.Proofs.YtcbiaeeifclieaaGreatDoor
/- The reference's Seen, Back. -/
namespace Go.Proofs.YtcbiaeeifclieaaGreatDoor
open Go.RowKit

theorem rfSeen_of (c : Int) (v : Bool) (hv : seenB c = v) (w : World) : Calls Tryz.prog 82 #[.int .i64 c] w fun e w' => e = .returned (.bool v) ∧ w = w' := by
  subst hv
  by_cases h1 : 1587 ≤ c
  · by_cases h2 : c ≤ 1590
    · rw [show seenB c = true from (seenB_iff c).2 ⟨h1, h2⟩]
      go_enter Tryz.func82, Tryz.ntmps82
      go_wp2
      go_ret
      exact ⟨rfl, rfl⟩
    · rw [show seenB c = false by simp [seenB, h2]]
      go_enter Tryz.func82, Tryz.ntmps82
      go_wp2
      go_ret
      exact ⟨rfl, rfl⟩
  · rw [show seenB c = false by simp [seenB, h1]]
    go_enter Tryz.func82, Tryz.ntmps82
    go_wp2
    go_ret
    exact ⟨rfl, rfl⟩
set_option maxRecDepth 100000 in
set_option maxHeartbeats 1000000 in
theorem rfBack_any (a b : Int) (s y : Bool) (w : World) : Calls Tryz.prog 51 #[.int .i64 a, .int .i64 b, .bool s, .bool y] w fun e w' => e = .returned (.tuple #[.int .i64 (backF a b s y).1, .bool (backF a b s y).2]) ∧ Below w.heap.size w w' := by
  obtain ⟨p, hp⟩ : ∃ p, decide (b = 65139) = p := ⟨_, rfl⟩
  obtain ⟨q, hq⟩ : ∃ p, decide (b = 65152) = p := ⟨_, rfl⟩
  obtain ⟨r, hr⟩ : ∃ p, decide (a = 65263) = p := ⟨_, rfl⟩
  obtain ⟨t, ht⟩ : ∃ p, decide (a = 65264) = p := ⟨_, rfl⟩
  obtain ⟨x, f, k, h1⟩ : ∃ x q k, baseF a = (x, q, k) := ⟨_, _, _, rfl⟩
  obtain ⟨v, hv⟩ : ∃ v, seenB x = v := ⟨_, rfl⟩
  obtain ⟨f3, h3⟩ : ∃ p, decide (f = 3) = p := ⟨_, rfl⟩
  obtain ⟨f4, h4⟩ : ∃ p, decide (f = 4) = p := ⟨_, rfl⟩
  have hpq : p = true → q = false := fun h => by rw [h] at hp; rw [← hq]; simp at hp ⊢; omega
  have hk : k = false → v = false := fun h => by
    subst h
    have := (base_no h1).1
    subst this
    rw [← hv]; rfl
  have hu : uncutF a = if (v && (f3 || f4)) = true then (x, true) else (0, false) := by
    unfold uncutF
    rw [h1, hv]
    simp only [Bool.and_eq_true, Bool.or_eq_true, ← h3, ← h4, decide_eq_true_eq]
  have HE := Lib.hid (backF_eq a b s y hp hq hr ht)
  rw [hu] at HE
  have gp : (b == 65139) = p := by rw [eq_dec, hp]
  have gq : (b == 65152) = q := by rw [eq_dec, hq]
  have gr : (a == 65263) = r := by rw [eq_dec, hr]
  have gt : (a == 65264) = t := by rw [eq_dec, ht]
  have g3 : (f == 3) = f3 := by rw [eq_dec, h3]
  have g4 : (f == 4) = f4 := by rw [eq_dec, h4]
  have HB := Lib.hid (fun w => refBase_any a x f k h1 w)
  have HS := Lib.hid (fun w => rfSeen_of x v hv w)
  clear hp hq hr ht hu h1 hv h3 h4
  cases p with
  | true =>
    obtain rfl := hpq rfl
    clear hpq gr gt
    cases s <;> cases k
    case' false.false => obtain rfl := hk rfl
    case' true.false => obtain rfl := hk rfl
    all_goals
      clear hk
      cases y
      all_goals
        first | (cases v <;> cases f3 <;> cases f4) | (cases f3 <;> cases f4)
        all_goals
          rw [HE.out]
          go_enter Tryz.func51, Tryz.ntmps51
          go_wp2_with (first
            | (go_at_call 81; with_reducible refine (HB.out _).mono ?_; rintro e w1 ⟨rfl, hb1⟩)
            | (go_at_call 82; with_reducible refine (HS.out _).mono ?_; rintro e w2 ⟨rfl, rfl⟩)
            | fail)
          go_ret2
          exact ⟨rfl, hb1⟩
  | false =>
    clear hpq hk g3 g4
    cases s <;> cases y <;> cases q <;> cases r <;> cases t
    all_goals
      rw [HE.out]
      go_enter Tryz.func51, Tryz.ntmps51
      go_wp2_with (first
        | (go_at_call 81; with_reducible refine (HB.out _).mono ?_; rintro e w1 ⟨rfl, hb1⟩)
        | fail)
      go_ret2
      exact ⟨rfl, hb1⟩
end Go.Proofs.YtcbiaeeifclieaaGreatDoor
