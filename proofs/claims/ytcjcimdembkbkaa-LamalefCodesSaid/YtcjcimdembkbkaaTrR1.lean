/- The trie's reference: Check and Get; the project's rise. -/
import Derived.Test.YtcjcimdembkbkaaRgD
import Derived.Test.YtcjcimdembkbkaaMem2
namespace Go.Proofs.Ytcjcimdembkbkaa
open Go.RowKit

set_option maxRecDepth 100000 in
set_option maxHeartbeats 1000000 in
theorem prRise_any (A : Option Addr) (n c : Nat) (l : List Rg) (w : World) (hr : Rd w 3 A n (cellsG l)) (hn : n ≤ maxLen) :
    Calls Try.prog 68 #[.slice A n c] w fun e w' => e = .returned (.bool (riseB (-1) l)) ∧ Below w.heap.size w w' := by
  have HL := Lib.hid hr.lenG
  unfold maxLen at hn
  go_enter Try.func68, Try.ntmps68
  go_wp2
  go_loopw [3, 8] (fun z i wr => ∃ (k : Nat) (x : Int), k ≤ n ∧ i = .int .i64 k ∧ z = .int .i64 x ∧ riseB (-1) l = riseB x (l.drop k) ∧ Below w.heap.size w wr) (fun _ i _ => n - (intOf i).toNat)
  case atStart => exact ⟨0, -1, Nat.zero_le _, rfl, rfl, rfl, Below.refl _ _⟩
  case round =>
    obtain ⟨k, x, hk, rfl, rfl, hp, hb⟩ := hrel
    have HP := Lib.hid hp
    clear hp
    by_cases hlt : k < n
    · obtain ⟨s, hsk⟩ : ∃ s, l[k]? = some s := ⟨_, List.getElem?_eq_getElem (by rw [HL.out]; exact hlt)⟩
      obtain ⟨ad, rfl, hab, c1, c2, c3⟩ := (hr.below hb).rg hsk
      have HD := Lib.hid (dropCons hsk)
      clear hsk
      obtain ⟨lo, hi, v⟩ := s
      simp only at c1 c2 c3
      have hba := hb.alloc hb.size (.cells #[.int .i64 lo, .int .i64 hi, .int .i64 v] 81)
      have hc : lo ≤ x ∨ (x < lo ∧ hi < lo) ∨ (x < lo ∧ lo ≤ hi ∧ 1114111 < hi) ∨ (x < lo ∧ lo ≤ hi ∧ hi ≤ 1114111) := by omega
      rcases hc with h | ⟨h, h2⟩ | ⟨h, h2, h3⟩ | ⟨h, h2, h3⟩
      · have HF := Lib.hid (show riseB (-1) l = false by rw [HP.out, HD.out]; exact riseB_no (.inl h))
        go_wp2
        go_ret
        exact ⟨retB (by simp [HF.out]), hba⟩
      · have HF := Lib.hid (show riseB (-1) l = false by rw [HP.out, HD.out]; exact riseB_no (.inr (.inl h2)))
        go_wp2
        go_ret
        exact ⟨retB (by simp [HF.out]), hba⟩
      · have HF := Lib.hid (show riseB (-1) l = false by rw [HP.out, HD.out]; exact riseB_no (.inr (.inr h3)))
        go_wp2
        go_ret
        exact ⟨retB (by simp [HF.out]), hba⟩
      · have HF := Lib.hid (show riseB (-1) l = riseB hi (l.drop (k + 1)) by rw [HP.out, HD.out]; exact riseB_yes (by simp only; omega))
        go_wp2
        go_roundw
        case rel => exact ⟨k + 1, hi, by omega, by go_num, rfl, HF.out, hba⟩
        case measure => simp [intOf]; omega
    · have HF := Lib.hid (show riseB (-1) l = true by rw [HP.out, List.drop_eq_nil_of_le (by rw [HL.out]; omega)]; rfl)
      go_wp2
      go_ret
      exact ⟨retB (by simp [HF.out]), hb⟩

set_option maxRecDepth 100000 in
set_option maxHeartbeats 1000000 in
theorem refGetG_any (A : Option Addr) (n c : Nat) (l : List Rg) (z x : Int) (w : World) (hr : Rd w 3 A n (cellsG l)) (hn : n ≤ maxLen) :
    Calls Try.prog 59 #[.slice A n c, .int .i64 z, .int .i64 x] w fun e w' => e = .returned (.int .i64 (getG l z x)) ∧ w = w' := by
  have HL := Lib.hid hr.lenG
  unfold maxLen at hn
  go_enter Try.func59, Try.ntmps59
  go_wp2
  go_loopw [7] (fun i wr => ∃ (k : Nat), k ≤ n ∧ i = .int .i64 k ∧ getG l z x = getG (l.drop k) z x ∧ w = wr) (fun i _ => n - (intOf i).toNat)
  case atStart => exact ⟨0, Nat.zero_le _, rfl, rfl, rfl⟩
  case round =>
    obtain ⟨k, hk, rfl, hp, rfl⟩ := hrel
    have HP := Lib.hid hp
    clear hp
    by_cases hlt : k < n
    · obtain ⟨s, hsk⟩ : ∃ s, l[k]? = some s := ⟨_, List.getElem?_eq_getElem (by rw [HL.out]; exact hlt)⟩
      obtain ⟨ad, rfl, hab, c1, c2, c3⟩ := hr.rg hsk
      have HD := Lib.hid (dropCons hsk)
      clear hsk
      obtain ⟨lo, hi, v⟩ := s
      simp only at c1 c2 c3
      by_cases h1 : lo ≤ x
      · by_cases h2 : x ≤ hi
        · have HF := Lib.hid (show getG l z x = v by rw [HP.out, HD.out]; exact if_pos ⟨h1, h2⟩)
          go_wp2
          go_ret
          exact ⟨by simp [HF.out], rfl⟩
        · have HF := Lib.hid (show getG l z x = getG (l.drop (k + 1)) z x by rw [HP.out, HD.out]; exact if_neg (fun h => h2 h.2))
          go_wp2
          go_roundw
          case rel => exact ⟨k + 1, by omega, by go_num, HF.out, trivial⟩
          case measure => simp [intOf]; omega
      · have HF := Lib.hid (show getG l z x = getG (l.drop (k + 1)) z x by rw [HP.out, HD.out]; exact if_neg (fun h => h1 h.1))
        go_wp2
        go_roundw
        case rel => exact ⟨k + 1, by omega, by go_num, HF.out, trivial⟩
        case measure => simp [intOf]; omega
    · have HF := Lib.hid (show getG l z x = z by rw [HP.out, List.drop_eq_nil_of_le (by rw [HL.out]; omega)]; rfl)
      go_wp2
      go_ret
      exact ⟨by simp [HF.out], rfl⟩
end Go.Proofs.Ytcjcimdembkbkaa
