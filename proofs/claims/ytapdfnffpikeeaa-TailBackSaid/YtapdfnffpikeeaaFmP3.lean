/- The project's Form and Base. -/
import Derived.Test.YtapdfnffpikeeaaFmP2
import Derived.Test.YtapdfnffpikeeaaLgB2
namespace Go.Proofs.Ytapdfnffpikeeaa
open Go.RowKit

theorem lettersR_any (w : World) : Calls Try.prog 21 #[] w fun e w' => (∃ ad, e = .returned (.slice (some ad) 76 76) ∧ Rd w' 5 (some ad) 76 (cellsL letL)) ∧ Below w.heap.size w w' := by
  refine (letters_any w).mono ?_
  rintro e w1 ⟨rfl, rfl⟩
  exact ⟨⟨_, rfl, rd_newL w letL 42⟩, below_new _ _⟩
theorem hit_four (c : Int) (a b d e : Int) : hitF c [a, b, d, e] ≤ 4 := by
  rw [hit_idx]
  split
  · omega
  · simp only [idx1]
    by_cases h1 : a = c <;> by_cases h2 : b = c <;> by_cases h3 : d = c <;> by_cases h4 : e = c <;> simp [h1, h2, h3, h4]
theorem hit_le (c : Int) (t : Lt) : hitF c (formsOf t) ≤ 4 := hit_four c _ _ _ _
theorem pick_wrap {f v : Int} {ok : Bool} {t : Lt} (hmin : f = -9223372036854775808) (h : pickF (f - 1) (formsOf t) = (v, ok)) : pickF (IntKind.i64.wrap (f - 1)) (formsOf t) = (v, ok) := by
  have hp := pick_min (formsOf t) (by show 4 ≤ 1000; omega)
  have hw : IntKind.i64.wrap (f - 1) = 9223372036854775807 := by rw [hmin]; decide
  rw [hw, hp.1, ← hp.2, ← hmin]
  exact h
theorem form_hit {b f v : Int} {ok : Bool} {t : Lt} (h : formF b f = (v, ok)) (hf : letL.find? (isL b) = some t) : pickF (f - 1) (formsOf t) = (v, ok) := by
  rw [formF_eq] at h
  unfold formP at h
  have : letL.find? (fun t => decide (t.1 = b)) = some t := hf
  rw [this] at h
  exact h
theorem form_miss {b f v : Int} {ok : Bool} (h : formF b f = (v, ok)) (hf : letL.find? (isL b) = none) : v = 0 ∧ ok = false := by
  rw [formF_eq] at h
  unfold formP at h
  have : letL.find? (fun t => decide (t.1 = b)) = none := hf
  rw [this] at h
  injection h with e1 e2
  exact ⟨e1.symm, e2.symm⟩
set_option maxRecDepth 100000 in
set_option maxHeartbeats 1000000 in
theorem fmForm_any (b f v : Int) (ok : Bool) (hv : formF b f = (v, ok)) (h0 : -9223372036854775808 ≤ f) (h9 : f ≤ 9223372036854775807) (w : World) :
    Calls Try.prog 14 #[.int .i64 b, .int .i64 f] w fun e w' => e = .returned (.tuple #[.int .i64 v, .bool ok]) ∧ Below w.heap.size w w' := by
  have hb0 := below_new w (.cells #[.int .i64 b] 3)
  have hc0 : (w.alloc (.cells #[.int .i64 b] 3)).cell? ⟨w.heap.size, 0, none⟩ = some (.int .i64 b) := by rw [World.cell?_alloc_at _ _ _ _ rfl]; rfl
  have hfar : b < 1536 ∨ (1536 ≤ b ∧ 1791 < b) ∨ (1536 ≤ b ∧ b ≤ 1791) := by omega
  rcases hfar with h | ⟨h, h'⟩ | ⟨h, h'⟩
  · obtain ⟨rfl, rfl⟩ : v = 0 ∧ ok = false := by rw [form_far (.inl h)] at hv; injection hv with e1 e2; exact ⟨e1.symm, e2.symm⟩
    clear hv
    go_enter Try.func14, Try.ntmps14
    go_wp2
    go_ret2
    exact ⟨rfl, hb0⟩
  · obtain ⟨rfl, rfl⟩ : v = 0 ∧ ok = false := by rw [form_far (.inr h')] at hv; injection hv with e1 e2; exact ⟨e1.symm, e2.symm⟩
    clear hv
    go_enter Try.func14, Try.ntmps14
    go_wp2
    go_ret2
    exact ⟨rfl, hb0⟩
  · have HM := Lib.hid (fun h => form_miss hv h)
    have HT := Lib.hid (fun (t : Lt) h => form_hit (t := t) hv h)
    have HL := Lib.hid (show letL.length = 76 by decide +kernel)
    clear hv
    obtain ⟨l, hl⟩ : ∃ l, letL = l := ⟨_, rfl⟩
    have HLT := Lib.hid (lettersR_any (w.alloc (.cells #[.int .i64 b] 3)))
    rw [hl] at HM HT HL HLT
    clear hl
    go_enter Try.func14, Try.ntmps14
    go_wp2_with fail
    refine HLT.out.mono ?_
    rintro e w1 ⟨⟨ad, rfl, hr⟩, hbl⟩
    have hc1 := cell_below hbl hc0
    have hb1 := below_self hb0 hbl
    have HR := Lib.hid hr
    clear hr hc0 hb0 hbl HLT
    go_wp2_with fail
    refine (indexFuncL_any (isL b) 23 #[.pointer (some ⟨w.heap.size, 0, none⟩)] (fun _ _ => rfl) (some ad) 76 76 l w1 HR.out (by unfold maxLen; omega) (fun t W hbW => formLit_any b t w.heap.size W (cell_below hbW hc1))).mono ?_
    rintro e w2 ⟨⟨r, rfl, hf⟩, hb⟩
    have hb2 := below_self hb1 hb
    rcases hf with ⟨rfl, hnone⟩ | ⟨k, t, rfl, hk, ht⟩
    · obtain ⟨rfl, rfl⟩ := HM.out hnone
      clear hnone
      go_wp2
      go_ret2
      exact ⟨rfl, hb2⟩
    · have HP := Lib.hid (HT.out t ht)
      have hk76 : k < 76 := by have := (List.getElem?_eq_some_iff.1 hk).1; rw [HL.out] at this; exact this
      have HF := Lib.hid ((HR.out.below hb).forms hk)
      clear ht hk HT HM
      by_cases hmin : f = -9223372036854775808
      · obtain ⟨q, hw, hq⟩ : ∃ q, IntKind.i64.wrap (f - 1) = q ∧ pickF q (formsOf t) = (v, ok) := ⟨_, rfl, pick_wrap hmin HP.out⟩
        have HE := Lib.hid hq
        clear hmin h0 h9 hq HP
        go_wp2_with fail
        refine (pick_any _ 4 4 (formsOf t) q v ok w2 HE.out HF.out (by omega)).mono ?_
        rintro e w3 ⟨rfl, hb3⟩
        have hb4 := below_self hb2 hb3
        go_wp2
        go_ret2
        exact ⟨rfl, hb4⟩
      · have hlo : -9223372036854775808 ≤ f - 1 := by omega
        have hhi : f - 1 ≤ 9223372036854775807 := by omega
        clear hmin
        go_wp2_with fail
        refine (pick_any _ 4 4 (formsOf t) (f - 1) v ok w2 HP.out HF.out (by omega)).mono ?_
        rintro e w3 ⟨rfl, hb3⟩
        have hb4 := below_self hb2 hb3
        go_wp2
        go_ret2
        exact ⟨rfl, hb4⟩
set_option maxRecDepth 100000 in
set_option maxHeartbeats 1000000 in
theorem fmBase_any (c x q : Int) (ok : Bool) (hv : baseF c = (x, q, ok)) (w : World) :
    Calls Try.prog 25 #[.int .i64 c] w fun e w' => e = .returned (.tuple #[.int .i64 x, .int .i64 q, .bool ok]) ∧ Below w.heap.size w w' := by
  have hfar : c < 64336 ∨ (64336 ≤ c ∧ 65279 < c) ∨ (64336 ≤ c ∧ c ≤ 65279) := by omega
  rcases hfar with h | ⟨h, h'⟩ | ⟨h, h'⟩
  · rw [base_far (.inl h)] at hv
    simp only [Prod.mk.injEq] at hv
    obtain ⟨rfl, rfl, rfl⟩ := hv
    go_enter Try.func25, Try.ntmps25
    go_wp2
    go_ret3
    exact ⟨rfl, Below.refl _ _⟩
  · rw [base_far (.inr h')] at hv
    simp only [Prod.mk.injEq] at hv
    obtain ⟨rfl, rfl, rfl⟩ := hv
    go_enter Try.func25, Try.ntmps25
    go_wp2
    go_ret3
    exact ⟨rfl, Below.refl _ _⟩
  · have HL := Lib.hid (show letL.length = 76 by decide +kernel)
    have hv' : baseR c letL = (x, q, ok) := hv
    have HLT := Lib.hid (lettersR_any w)
    clear hv
    obtain ⟨l, hl⟩ : ∃ l, letL = l := ⟨_, rfl⟩
    rw [hl] at hv' HL HLT
    have HV := Lib.hid hv'
    clear hl hv'
    go_enter Try.func25, Try.ntmps25
    go_wp2_with fail
    refine HLT.out.mono ?_
    rintro e w1 ⟨⟨ad, rfl, hr⟩, hb1⟩
    have HR := Lib.hid hr
    clear hr HLT
    go_wp2
    go_loopw [18] (fun i wr => ∃ k : Nat, k ≤ 76 ∧ i = .int .i64 k ∧ baseR c l = baseR c (l.drop k) ∧ wr = w1) (fun i _ => 76 - (intOf i).toNat)
    case atStart => exact ⟨0, Nat.zero_le _, rfl, rfl, rfl⟩
    case round =>
      obtain ⟨k, hk, rfl, hp, rfl⟩ := hrel
      have HP := Lib.hid hp
      clear hp
      by_cases hlt : k < 76
      · obtain ⟨t, hk2⟩ : ∃ t, l[k]? = some t := ⟨_, List.getElem?_eq_getElem (by rw [HL.out]; exact hlt)⟩
        have HF := Lib.hid (HR.out.forms hk2)
        obtain ⟨ad', e', hab, c0, _, _, _, _⟩ := HR.out.lt_ hk2
        injection e' with e'
        subst e'
        have HD := Lib.hid (dropCons hk2)
        obtain ⟨h, hh⟩ : ∃ h, hitF c (formsOf t) = h := ⟨_, rfl⟩
        have HH := Lib.hid hh
        obtain ⟨y, hy⟩ : ∃ y, t.1 = y := ⟨_, rfl⟩
        rw [hy] at c0
        have HY := Lib.hid hy
        clear hk2 hh hy
        go_wp2_with fail
        refine (place_any _ 4 4 (formsOf t) c h wr HH.out HF.out (by omega)).mono ?_
        rintro e w3 ⟨⟨r, rfl, hr2⟩, rfl⟩
        rcases Nat.eq_zero_or_pos h with h0 | h0
        · have HX := Lib.hid (show baseR c l = baseR c (l.drop (k + 1)) by rw [HP.out, HD.out, baseR, if_pos (by rw [HH.out]; exact h0)])
          subst h0
          clear hr2
          go_wp2
          go_roundw
          case rel => exact ⟨k + 1, by omega, by go_num, HX.out, trivial⟩
          case measure => simp [intOf]; omega
        · have hX := show (x, q, ok) = (y, (h : Int), true) by rw [← HV.out, HP.out, HD.out, baseR, if_neg (by rw [HH.out]; omega), HH.out, HY.out]
          simp only [Prod.mk.injEq] at hX
          obtain ⟨rfl, rfl, rfl⟩ := hX
          have hr3 := hr2 (by omega)
          have hle := Lib.hid (hit_le c t)
          have hh4 : h ≤ 4 := by rw [← HH.out]; exact hle.out
          have hd : decide (h ≠ 0) = true := decide_eq_true (by omega)
          obtain ⟨j, rfl⟩ : ∃ j : Nat, h = j + 1 := ⟨h - 1, by omega⟩
          obtain rfl : r = (j : Int) := by rw [hr3]; omega
          clear hr2 hr3 h0
          go_wp2
          go_ret3
          exact ⟨by rw [show ((j + 1 : Nat) : Int) = 1 + (j : Int) by omega]; rfl, hb1⟩
      · have hX := show (x, q, ok) = (0, 0, false) by rw [← HV.out, HP.out, List.drop_eq_nil_of_le (by rw [HL.out]; omega)]; rfl
        simp only [Prod.mk.injEq] at hX
        obtain ⟨rfl, rfl, rfl⟩ := hX
        go_wp2
        go_ret3
        exact ⟨rfl, hb1⟩
end Go.Proofs.Ytapdfnffpikeeaa
