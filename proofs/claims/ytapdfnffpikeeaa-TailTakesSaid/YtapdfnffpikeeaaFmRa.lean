/- The reference's Form and Base. -/
import Derived.Test.YtapdfnffpikeeaaFmP3
namespace Go.Proofs.Ytapdfnffpikeeaa
open Go.RowKit
theorem addPlain (B O j : Nat) : (⟨B, O, none⟩ : Addr).add j = ⟨B, O + j, none⟩ := by
  unfold Addr.add
  split
  · rename_i h; subst h; rfl
  · simp
theorem formR_skip {b f : Int} {t : Lt} {l : List Lt} (h : ¬ (t.1 = b ∧ 1 ≤ f ∧ f ≤ 4 ∧ (formsOf t).getD (f - 1).toNat 0 ≠ 0)) : formR b f (t :: l) = formR b f l := if_neg h
set_option maxRecDepth 100000 in
set_option maxHeartbeats 1000000 in
theorem refForm_any (b f v : Int) (ok : Bool) (hv : formF b f = (v, ok)) (w : World) :
    Calls Try.prog 18 #[.int .i64 b, .int .i64 f] w fun e w' => e = .returned (.tuple #[.int .i64 v, .bool ok]) ∧ Below w.heap.size w w' := by
  have hv' : formR b f letL = (v, ok) := hv
  have HL := Lib.hid (show letL.length = 76 by decide +kernel)
  have HLT := Lib.hid (lettersR_any w)
  clear hv
  obtain ⟨l, hl⟩ : ∃ l, letL = l := ⟨_, rfl⟩
  rw [hl] at hv' HL HLT
  have HV := Lib.hid hv'
  clear hl hv'
  go_enter Try.func18, Try.ntmps18
  go_wp2_with fail
  refine HLT.out.mono ?_
  rintro e w1 ⟨⟨ad, rfl, hr⟩, hb1⟩
  have HR := Lib.hid hr
  clear hr HLT
  go_wp2
  go_loopw [7] (fun i wr => ∃ k : Nat, k ≤ 76 ∧ i = .int .i64 k ∧ formR b f l = formR b f (l.drop k) ∧ wr = w1) (fun i _ => 76 - (intOf i).toNat)
  case atStart => exact ⟨0, Nat.zero_le _, rfl, rfl, rfl⟩
  case round =>
    obtain ⟨k, hk, rfl, hp, rfl⟩ := hrel
    have HP := Lib.hid hp
    clear hp
    by_cases hlt : k < 76
    · obtain ⟨t, hk2⟩ : ∃ t, l[k]? = some t := ⟨_, List.getElem?_eq_getElem (by rw [HL.out]; exact hlt)⟩
      have HF := Lib.hid (HR.out.forms hk2)
      obtain ⟨ad', e', hab, c0, _, _, _, _⟩ := HR.out.lt_ hk2
      injection e' with e'
      subst e'
      have HD := Lib.hid (dropCons hk2)
      obtain ⟨y, hy⟩ : ∃ y, t.1 = y := ⟨_, rfl⟩
      rw [hy] at c0
      have HY := Lib.hid hy
      clear hk2 hy
      have hcase : y ≠ b ∨ (y = b ∧ f < 1) ∨ (y = b ∧ 1 ≤ f ∧ 4 < f) ∨ (y = b ∧ 1 ≤ f ∧ f ≤ 4) := by omega
      rcases hcase with h | ⟨h, h2⟩ | ⟨h, h2, h3⟩ | ⟨h, h2, h3⟩
      · have HX := Lib.hid (show formR b f l = formR b f (l.drop (k + 1)) by rw [HP.out, HD.out]; exact formR_skip (fun e => h (HY.out.symm.trans e.1)))
        have g1 : (y == b) = false := by simp [h]
        clear h
        go_wp2
        go_roundw
        case rel => exact ⟨k + 1, by omega, by go_num, HX.out, trivial⟩
        case measure => simp [intOf]; omega
      · have HX := Lib.hid (show formR b f l = formR b f (l.drop (k + 1)) by rw [HP.out, HD.out]; exact formR_skip (fun e => by omega))
        subst h
        go_wp2
        go_roundw
        case rel => exact ⟨k + 1, by omega, by go_num, HX.out, trivial⟩
        case measure => simp [intOf]; omega
      · have HX := Lib.hid (show formR b f l = formR b f (l.drop (k + 1)) by rw [HP.out, HD.out]; exact formR_skip (fun e => by omega))
        subst h
        go_wp2
        go_roundw
        case rel => exact ⟨k + 1, by omega, by go_num, HX.out, trivial⟩
        case measure => simp [intOf]; omega
      · obtain ⟨j, hj⟩ : ∃ j : Nat, f - 1 = (j : Int) := ⟨(f - 1).toNat, by omega⟩
        have hj4 : j < 4 := by omega
        obtain ⟨x, hx⟩ : ∃ x, (formsOf t)[j]? = some x := ⟨_, List.getElem?_eq_getElem (by show j < 4; exact hj4)⟩
        have cx := HF.out.news j (.int .i64 x) (by rw [List.getElem?_map, hx]; rfl)
        rw [addPlain] at cx
        have HG := Lib.hid (show (formsOf t).getD (f - 1).toNat 0 = x by rw [hj, Int.toNat_natCast, List.getD_eq_getElem?_getD, hx]; rfl)
        have hHY := HY.out
        clear hx
        by_cases hx0 : x = 0
        · have HX := Lib.hid (show formR b f l = formR b f (l.drop (k + 1)) by rw [HP.out, HD.out]; exact formR_skip (fun e => e.2.2.2 (by rw [HG.out]; exact hx0)))
          subst h hx0
          clear hHY
          go_wp2
          go_roundw
          case rel => exact ⟨k + 1, by omega, by go_num, HX.out, trivial⟩
          case measure => simp [intOf]; omega
        · have hX := show (v, ok) = (x, true) by
            rw [← HV.out, HP.out, HD.out, formR, if_pos ⟨hHY.trans h, h2, h3, by rw [HG.out]; exact hx0⟩, HG.out]
          simp only [Prod.mk.injEq] at hX
          obtain ⟨rfl, rfl⟩ := hX
          have g0 : (v != 0) = true := by simp [hx0]
          subst h
          clear hHY hx0
          go_wp2
          go_ret2
          exact ⟨rfl, hb1⟩
    · have hX := show (v, ok) = (0, false) by rw [← HV.out, HP.out, List.drop_eq_nil_of_le (by rw [HL.out]; omega)]; rfl
      simp only [Prod.mk.injEq] at hX
      obtain ⟨rfl, rfl⟩ := hX
      go_wp2
      go_ret2
      exact ⟨rfl, hb1⟩

/-- No hit ahead of place j. -/
def NoHit (c : Int) (xs : List Int) (j : Nat) : Prop := c = 0 ∨ c ∉ xs.take j
theorem NoHit.hit {c : Int} {xs : List Int} {j : Nat} (h : NoHit c xs j) (h0 : c ≠ 0) (hj : xs[j]? = some c) : hitF c xs = j + 1 := by
  rw [hit_idx, if_neg h0]
  rcases h with h | h
  · exact absurd h h0
  · exact idx1_at hj h
theorem NoHit.next {c x : Int} {xs : List Int} {j : Nat} (h : NoHit c xs j) (hj : xs[j]? = some x) (hx : c = 0 ∨ x ≠ c) : NoHit c xs (j + 1) := by
  rcases h with h | h
  · exact .inl h
  · rcases hx with hx | hx
    · exact .inl hx
    · refine .inr fun m => ?_
      rw [List.take_add_one, hj] at m
      simp only [Option.toList_some, List.mem_append, List.mem_singleton] at m
      rcases m with m | m
      · exact h m
      · exact hx m.symm
theorem NoHit.none_ {c : Int} {t : Lt} (h : NoHit c (formsOf t) 4) : hitF c (formsOf t) = 0 := by
  refine hitF_none ?_
  rcases h with h | h
  · exact .inl h
  · exact .inr h
set_option maxRecDepth 100000 in
set_option maxHeartbeats 1000000 in
theorem refBase_any (c x q : Int) (ok : Bool) (hv : baseF c = (x, q, ok)) (w : World) :
    Calls Try.prog 20 #[.int .i64 c] w fun e w' => e = .returned (.tuple #[.int .i64 x, .int .i64 q, .bool ok]) ∧ Below w.heap.size w w' := by
  have hv' : baseR c letL = (x, q, ok) := hv
  have HL := Lib.hid (show letL.length = 76 by decide +kernel)
  have HLT := Lib.hid (lettersR_any w)
  clear hv
  obtain ⟨l, hl⟩ : ∃ l, letL = l := ⟨_, rfl⟩
  rw [hl] at hv' HL HLT
  have HV := Lib.hid hv'
  clear hl hv'
  go_enter Try.func20, Try.ntmps20
  go_wp2_with fail
  refine HLT.out.mono ?_
  rintro e w1 ⟨⟨ad, rfl, hr⟩, hb1⟩
  have HR := Lib.hid hr
  clear hr HLT
  go_wp2
  go_loopw [6] (fun i wr => ∃ k : Nat, k ≤ 76 ∧ i = .int .i64 k ∧ baseR c l = baseR c (l.drop k) ∧ wr = w1) (fun i _ => 76 - (intOf i).toNat)
  case atStart => exact ⟨0, Nat.zero_le _, rfl, rfl, rfl⟩
  case round =>
    obtain ⟨k, hk, rfl, hp, rfl⟩ := hrel
    have HP := Lib.hid hp
    clear hp
    by_cases hlt : k < 76
    · obtain ⟨t, hk2⟩ : ∃ t, l[k]? = some t := ⟨_, List.getElem?_eq_getElem (by rw [HL.out]; exact hlt)⟩
      have HF := Lib.hid (HR.out.forms hk2)
      obtain ⟨ad', e', hab, c0, _, _, _, _⟩ := HR.out.lt_ hk2
      injection e' with e'
      subst e'
      have HD := Lib.hid (dropCons hk2)
      obtain ⟨y, hy⟩ : ∃ y, t.1 = y := ⟨_, rfl⟩
      rw [hy] at c0
      have HY := Lib.hid hy
      clear hk2 hy
      go_wp2
      go_loopw [7] (fun i w2 => ∃ j : Nat, j ≤ 4 ∧ i = .int .i64 j ∧ NoHit c (formsOf t) j ∧ w2 = wr) (fun i _ => 4 - (intOf i).toNat)
      case atStart => exact ⟨0, Nat.zero_le _, rfl, .inr (by simp), rfl⟩
      case round =>
        obtain ⟨j, hj, rfl, hn, rfl⟩ := hrel
        have HN := Lib.hid hn
        clear hn
        by_cases hlt4 : j < 4
        · obtain ⟨z, hz⟩ : ∃ z, (formsOf t)[j]? = some z := ⟨_, List.getElem?_eq_getElem (by show j < 4; exact hlt4)⟩
          have cz := HF.out.news j (.int .i64 z) (by rw [List.getElem?_map, hz]; rfl)
          rw [addPlain] at cz
          have HZ := Lib.hid hz
          clear hz
          by_cases h0 : c = 0
          · have HX := Lib.hid (HN.out.next HZ.out (.inl h0))
            subst h0
            go_wp2
            go_roundw
            case rel => exact ⟨j + 1, by omega, by go_num, HX.out, trivial⟩
            case measure => simp [intOf]; omega
          · have g0 : (c != 0) = true := by simp [h0]
            by_cases hzc : z = c
            · have hH := HN.out.hit h0 (by rw [HZ.out, hzc])
              have hX := show (x, q, ok) = (y, ((j + 1 : Nat) : Int), true) by
                rw [← HV.out, HP.out, HD.out, baseR, if_neg (by rw [hH]; omega), hH, HY.out]
              simp only [Prod.mk.injEq] at hX
              obtain ⟨rfl, rfl, rfl⟩ := hX
              subst hzc
              clear hH h0
              go_wp2
              go_ret3
              exact ⟨by rw [show ((j + 1 : Nat) : Int) = (j : Int) + 1 by omega]; rfl, hb1⟩
            · have HX := Lib.hid (HN.out.next HZ.out (.inr hzc))
              have g1 : (z == c) = false := by simp [hzc]
              clear hzc h0
              go_wp2
              go_roundw
              case rel => exact ⟨j + 1, by omega, by go_num, HX.out, trivial⟩
              case measure => simp [intOf]; omega
        · obtain rfl : j = 4 := by omega
          have HX := Lib.hid (show baseR c l = baseR c (l.drop (k + 1)) by rw [HP.out, HD.out, baseR, if_pos HN.out.none_])
          go_wp2
          go_roundw
          case rel => exact ⟨k + 1, by omega, by go_num, HX.out, trivial⟩
          case measure => simp [intOf]; omega
    · have hX := show (x, q, ok) = (0, 0, false) by rw [← HV.out, HP.out, List.drop_eq_nil_of_le (by rw [HL.out]; omega)]; rfl
      simp only [Prod.mk.injEq] at hX
      obtain ⟨rfl, rfl, rfl⟩ := hX
      go_wp2
      go_ret3
      exact ⟨rfl, hb1⟩
end Go.Proofs.Ytapdfnffpikeeaa
