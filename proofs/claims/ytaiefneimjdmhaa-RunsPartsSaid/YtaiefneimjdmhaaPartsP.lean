/- The project's Parts of spans. -/
import Derived.Test.YtaiefneimjdmhaaPartsD
import Derived.Test.YtaiefneimjdmhaaSpRightP
namespace Go.Proofs.Ytaiefneimjdmhaa
open Go.RowKit

set_option maxRecDepth 100000 in
set_option maxHeartbeats 1000000 in
theorem prParts_any (A : Option Addr) (n c : Nat) (l : List Sp) (m : Int) (w : World) (hr : Rd w 2 A n (cellsS l)) (hn : n ≤ maxLen) :
    Calls Try.prog 29 #[.slice A n c, .int .i64 m] w fun e w' => e = .returned (.bool (partsS l m)) ∧ Below w.heap.size w w' := by
  have hlen : l.length = n := by have := hr.1; rw [cellsS_len] at this; omega
  have HL := Lib.hid hlen
  clear hlen
  unfold maxLen at hn
  go_enter Try.func29, Try.ntmps29
  go_wp2
  go_loopw [5, 10] (fun e i wr => ∃ (k : Nat) (x : Int), k ≤ n ∧ i = .int .i64 k ∧ e = .int .i64 x ∧ partsS l m = partsFrom x (l.drop k) m ∧ Below w.heap.size w wr) (fun _ i _ => n - (intOf i).toNat)
  case atStart => exact ⟨0, 0, Nat.zero_le _, rfl, rfl, rfl, Below.refl _ _⟩
  case round =>
    obtain ⟨k, x, hk, rfl, rfl, hp, hb⟩ := hrel
    have HP := Lib.hid hp
    clear hp
    by_cases hlt : k < n
    · obtain ⟨s, hsk⟩ : ∃ s, l[k]? = some s := ⟨_, List.getElem?_eq_getElem (by rw [HL.out]; exact hlt)⟩
      obtain ⟨ad, rfl, hab, c1, c2⟩ := (hr.below hb).span hsk
      have HD := Lib.hid (dropCons hsk)
      clear hsk
      obtain ⟨lo, hi⟩ := s
      simp only at c1 c2
      go_wp2_with fail
      refine (prRight_any lo hi _).mono ?_
      rintro e w1 ⟨rfl, hb1⟩
      have hb2 := hb.trans ((below_self (below_new wr _) hb1).mono hb.size)
      have d1 : w1.cell? ⟨wr.heap.size, 0, none⟩ = some (.int .i64 lo) := cell_below hb1 (by rw [World.cell?_alloc_at _ _ _ _ rfl]; rfl)
      have d2 : w1.cell? ⟨wr.heap.size, 1, none⟩ = some (.int .i64 hi) := cell_below hb1 (by rw [World.cell?_alloc_at _ _ _ _ rfl]; rfl)
      clear hb1 c1 c2
      cases hr1 : rightB (lo, hi) with
      | false =>
        have HF := Lib.hid (show partsS l m = false by rw [HP.out, HD.out]; exact partsFrom_no (.inl hr1))
        go_wp2
        go_ret
        exact ⟨retB (by simp [HF.out]), hb2⟩
      | true =>
        cases he : (lo == x) with
        | false =>
          have hne : (lo != x) = true := by simpa using he
          have HF := Lib.hid (show partsS l m = false by rw [HP.out, HD.out]; exact partsFrom_no (.inr he))
          go_wp2
          go_ret
          exact ⟨retB (by simp [HF.out]), hb2⟩
        | true =>
          have hne : (lo != x) = false := by simpa using he
          have HF := Lib.hid (show partsS l m = partsFrom hi (l.drop (k + 1)) m by rw [HP.out, HD.out]; exact partsFrom_yes hr1 he)
          go_wp2
          go_roundw
          case rel => exact ⟨k + 1, hi, by omega, by go_num, rfl, HF.out, hb2⟩
          case measure => simp [intOf]; omega
    · have HF := Lib.hid (show partsS l m = (x == m) by rw [HP.out, List.drop_eq_nil_of_le (by rw [HL.out]; omega)]; rfl)
      go_wp2
      go_ret
      exact ⟨retB (by simp [HF.out]), hb⟩
end Go.Proofs.Ytaiefneimjdmhaa
