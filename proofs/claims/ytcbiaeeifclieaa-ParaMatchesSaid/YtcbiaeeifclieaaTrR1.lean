/- The trie's reference: Check and Get; the project's rise. -/
import Derived.Test.YtcbiaeeifclieaaRgD
import Derived.Test.YtcbiaeeifclieaaMem2
import Derived.Test.YtcbiaeeifclieaaTrRi
namespace Go.Proofs.Ytcbiaeeifclieaa
open Go.RowKit

set_option maxRecDepth 100000 in
set_option maxHeartbeats 1000000 in
theorem refGetG_any (A : Option Addr) (n c : Nat) (l : List Rg) (z x : Int) (w : World) (hr : Rd w 3 A n (cellsG l)) (hn : n ≤ maxLen) :
    Calls Try.prog 80 #[.slice A n c, .int .i64 z, .int .i64 x] w fun e w' => e = .returned (.int .i64 (getG l z x)) ∧ w = w' := by
  have HL := Lib.hid hr.lenG
  unfold maxLen at hn
  go_enter Try.func80, Try.ntmps80
  go_wp2
  go_loopw [7] (fun i wr => ∃ (k : Nat), k ≤ n ∧ i = .int .i64 k ∧ getG l z x = getG (l.drop k) z x ∧ w = wr) (fun i _ => n - (intOf i).toNat)
  case atStart => exact ⟨0, Nat.zero_le _, rfl, rfl, rfl⟩
  case round =>
    obtain ⟨k, hk, rfl, hp, rfl⟩ := hrel
    have HP := Lib.hid hp
    clear hp
    by_cases hlt : k < n
    · obtain ⟨s, hsk⟩ : ∃ s, l[k]? = some s := ⟨_, List.getElem?_eq_getElem (by rw [HL.out]; exact hlt)⟩
      obtain ⟨ad, rfl, hab, c1, c2, c3⟩ := hr.rg hsk
      have HD := Lib.hid (dropCons hsk)
      clear hsk
      obtain ⟨lo, hi, v⟩ := s
      simp only at c1 c2 c3
      by_cases h1 : lo ≤ x
      · by_cases h2 : x ≤ hi
        · have HF := Lib.hid (show getG l z x = v by rw [HP.out, HD.out]; exact if_pos ⟨h1, h2⟩)
          go_wp2
          go_ret
          exact ⟨by simp [HF.out], rfl⟩
        · have HF := Lib.hid (show getG l z x = getG (l.drop (k + 1)) z x by rw [HP.out, HD.out]; exact if_neg (fun h => h2 h.2))
          go_wp2
          go_roundw
          case rel => exact ⟨k + 1, by omega, by go_num, HF.out, trivial⟩
          case measure => simp [intOf]; omega
      · have HF := Lib.hid (show getG l z x = getG (l.drop (k + 1)) z x by rw [HP.out, HD.out]; exact if_neg (fun h => h1 h.1))
        go_wp2
        go_roundw
        case rel => exact ⟨k + 1, by omega, by go_num, HF.out, trivial⟩
        case measure => simp [intOf]; omega
    · have HF := Lib.hid (show getG l z x = z by rw [HP.out, List.drop_eq_nil_of_le (by rw [HL.out]; omega)]; rfl)
      go_wp2
      go_ret
      exact ⟨by simp [HF.out], rfl⟩
end Go.Proofs.Ytcbiaeeifclieaa
