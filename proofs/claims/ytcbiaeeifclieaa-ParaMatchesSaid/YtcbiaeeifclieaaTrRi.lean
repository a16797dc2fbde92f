/- The project's rise. -/
import Derived.Test.YtcbiaeeifclieaaRgD
import Derived.Test.YtcbiaeeifclieaaMem2
namespace Go.Proofs.Ytcbiaeeifclieaa
open Go.RowKit
set_option maxRecDepth 100000 in
set_option maxHeartbeats 1000000 in
theorem prRise_any (A : Option Addr) (n c : Nat) (l : List Rg) (w : World) (hr : Rd w 3 A n (cellsG l)) (hn : n ≤ maxLen) :
    Calls Try.prog 93 #[.slice A n c] w fun e w' => e = .returned (.bool (riseB (-1) l)) ∧ Below w.heap.size w w' := by
  have HL := Lib.hid hr.lenG
  unfold maxLen at hn
  go_enter Try.func93, Try.ntmps93
  go_wp2
  go_loopw [3, 8] (fun z i wr => ∃ (k : Nat) (x : Int), k ≤ n ∧ i = .int .i64 k ∧ z = .int .i64 x ∧ riseB (-1) l = riseB x (l.drop k) ∧ Below w.heap.size w wr) (fun _ i _ => n - (intOf i).toNat)
  case atStart => exact ⟨0, -1, Nat.zero_le _, rfl, rfl, rfl, Below.refl _ _⟩
  case round =>
    obtain ⟨k, x, hk, rfl, rfl, hp, hb⟩ := hrel
    have HP := Lib.hid hp
    clear hp
    by_cases hlt : k < n
    · obtain ⟨s, hsk⟩ : ∃ s, l[k]? = some s := ⟨_, List.getElem?_eq_getElem (by rw [HL.out]; exact hlt)⟩
      obtain ⟨ad, rfl, hab, c1, c2, c3⟩ := (hr.below hb).rg hsk
      have HD := Lib.hid (dropCons hsk)
      clear hsk
      obtain ⟨lo, hi, v⟩ := s
      simp only at c1 c2 c3
      have hba := hb.alloc hb.size (.cells #[.int .i64 lo, .int .i64 hi, .int .i64 v] 142)
      have hc : lo ≤ x ∨ (x < lo ∧ hi < lo) ∨ (x < lo ∧ lo ≤ hi ∧ 1114111 < hi) ∨ (x < lo ∧ lo ≤ hi ∧ hi ≤ 1114111) := by omega
      rcases hc with h | ⟨h, h2⟩ | ⟨h, h2, h3⟩ | ⟨h, h2, h3⟩
      · have HF := Lib.hid (show riseB (-1) l = false by rw [HP.out, HD.out]; exact riseB_no (.inl h))
        go_wp2
        go_ret
        exact ⟨retB (by simp [HF.out]), hba⟩
      · have HF := Lib.hid (show riseB (-1) l = false by rw [HP.out, HD.out]; exact riseB_no (.inr (.inl h2)))
        go_wp2
        go_ret
        exact ⟨retB (by simp [HF.out]), hba⟩
      · have HF := Lib.hid (show riseB (-1) l = false by rw [HP.out, HD.out]; exact riseB_no (.inr (.inr h3)))
        go_wp2
        go_ret
        exact ⟨retB (by simp [HF.out]), hba⟩
      · have HF := Lib.hid (show riseB (-1) l = riseB hi (l.drop (k + 1)) by rw [HP.out, HD.out]; exact riseB_yes (by simp only; omega))
        go_wp2
        go_roundw
        case rel => exact ⟨k + 1, hi, by omega, by go_num, rfl, HF.out, hba⟩
        case measure => simp [intOf]; omega
    · have HF := Lib.hid (show riseB (-1) l = true by rw [HP.out, List.drop_eq_nil_of_le (by rw [HL.out]; omega)]; rfl)
      go_wp2
      go_ret
      exact ⟨retB (by simp [HF.out]), hb⟩
end Go.Proofs.Ytcbiaeeifclieaa
