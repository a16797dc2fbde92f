/- para's Split, walked. -/
import Derived.Test.YtcbiaeeifclieaaPaE
namespace Go.Proofs.Ytcbiaeeifclieaa
open Go.RowKit

theorem parA_yes {xs : List Int} {k : Nat} (h : k + 1 = xs.length ∨ endB xs k = true) : parA xs (k + 1) = ((parA xs k).1 ++ [((parA xs k).2, (k : Int) + 1)], (k : Int) + 1) := by rw [parA, if_pos h]
theorem parA_no {xs : List Int} {k : Nat} (h : ¬ (k + 1 = xs.length ∨ endB xs k = true)) : parA xs (k + 1) = parA xs k := by rw [parA, if_neg h]
set_option maxRecDepth 100000 in
set_option maxHeartbeats 2000000 in
theorem prSplit_any (b : Nat) (A : Option Addr) (n c : Nat) (xs : List Int) (w : World) (hP : PropAt w b) (hr : Rd w 1 A n (xs.map (Value.int .i64))) (hn : n ≤ 100000) :
    Calls Try.prog 21 #[.pointer (some ⟨b, 0, none⟩), .slice A n c] w fun e w' => ∃ v, e = .returned v ∧ w'.ownsRow w.heap.size 33 2 v (parL xs).length (cellsS (parL xs)) ∧ Below w.heap.size w w' := by
  have hlen : xs.length = n := by simpa using hr.len1
  have HL := Lib.hid hlen
  have HP := Lib.hid hP
  have HR := Lib.hid hr
  clear hlen hP hr
  go_enter Try.func21, Try.ntmps21
  go_wp2_with fail
  go_loopw [5, 6, 11] (fun v x i wr => ∃ k : Nat, k ≤ n ∧ i = .int .i64 (k : Int) ∧ x = .int .i64 (parA xs k).2 ∧ wr.ownsRow w.heap.size 33 2 v (parA xs k).1.length (cellsS (parA xs k).1) ∧ Below w.heap.size w wr) (fun _ _ i _ => n - (intOf i).toNat)
  case atStart => exact ⟨0, Nat.zero_le _, rfl, rfl, ⟨rfl, .inl ⟨rfl, rfl⟩⟩, Below.refl _ _⟩
  case round =>
    obtain ⟨k, hk, rfl, rfl, hown, hb⟩ := hrel
    have hal := (parA_len xs k).1
    obtain ⟨acc, y, hacc⟩ : ∃ acc y, parA xs k = (acc, y) := ⟨_, _, rfl⟩
    have HA := Lib.hid hacc
    rw [hacc] at hal hown ⊢
    simp only at hal hown ⊢
    have HO := Lib.hid hown
    have HB := Lib.hid hb
    clear hown hb hacc
    by_cases hlt : k < n
    · by_cases he : k + 1 = n
      · have HS := Lib.hid (parA_yes (xs := xs) (k := k) (.inl (by rw [HL.out]; exact he)))
        rw [HA.out] at HS
        have ge : ((k : Int) + 1 == (n : Int)) = true := by simp; omega
        have hz := HB.out.size
        clear he
        go_wp2_with (at_builtin; refine wpList_app rfl _ _ _ rfl spanSlice (by decide) u5 acc.length _ rfl (HO.out.alloc _) ⟨wr.heap.size, 0, none⟩ 1 1 [.int .i64 y, .int .i64 ((k : Int) + 1)] rfl rfl (cells_new wr [_, _] _) (oneInt2 _ _ _) (by omega) (by unfold maxLen; omega) (Nat.le_trans hz (by simp)) ?_; intro v1 w1 hown1 hg1 hat1)
        have hgr := below_app (HB.out.alloc hz _) hg1 (HO.out.alloc _) (Nat.le_trans hz (by simp))
        go_roundw
        case rel => exact ⟨k + 1, by omega, by go_num, by rw [HS.out], by rw [HS.out]; simp only; rw [cellsS_snoc, List.length_append]; exact hown1, hgr⟩
        case measure => simp [intOf]; omega
      · have ge : ((k : Int) + 1 == (n : Int)) = false := by simp; omega
        obtain ⟨v, hv⟩ : ∃ v, endB xs k = v := ⟨_, rfl⟩
        have HE := Lib.hid (prEnds_any b A n c k xs v hv wr (HP.out.below HB.out) (HR.out.below HB.out) hlt (by omega))
        have hz := HB.out.size
        cases v with
        | true =>
          have HS := Lib.hid (parA_yes (xs := xs) (k := k) (.inr hv))
          rw [HA.out] at HS
          clear hv he
          go_wp2_with (first
            | (go_at_call 52; with_reducible refine HE.out.mono ?_; rintro e w2 ⟨rfl, hb2⟩; have HO2 := Lib.hid (own_below HO.out hb2); have HB2 := Lib.hid (HB.out.trans (hb2.mono hz)); have hz2 := HB2.out.size)
            | (at_builtin; refine wpList_app rfl _ _ _ rfl spanSlice (by decide) u5 acc.length _ rfl (HO2.out.alloc _) ⟨w2.heap.size, 0, none⟩ 1 1 [.int .i64 y, .int .i64 ((k : Int) + 1)] rfl rfl (cells_new w2 [_, _] _) (oneInt2 _ _ _) (by omega) (by unfold maxLen; omega) (Nat.le_trans hz2 (by simp)) ?_; intro v1 w1 hown1 hg1 hat1)
            | fail)
          have hgr := below_app (HB2.out.alloc hz2 _) hg1 (HO2.out.alloc _) (Nat.le_trans hz2 (by simp))
          go_roundw
          case rel => exact ⟨k + 1, by omega, by go_num, by rw [HS.out], by rw [HS.out]; simp only; rw [cellsS_snoc, List.length_append]; exact hown1, hgr⟩
          case measure => simp [intOf]; omega
        | false =>
          have HS := Lib.hid (parA_no (xs := xs) (k := k) (by rw [HL.out, hv]; simp; exact he))
          rw [HA.out] at HS
          clear hv he
          go_wp2_with (first
            | (go_at_call 52; with_reducible refine HE.out.mono ?_; rintro e w2 ⟨rfl, hb2⟩; have HO2 := Lib.hid (own_below HO.out hb2); have HB2 := Lib.hid (HB.out.trans (hb2.mono hz)))
            | fail)
          go_roundw
          case rel => exact ⟨k + 1, by omega, by go_num, by rw [HS.out], by rw [HS.out]; exact HO2.out, HB2.out⟩
          case measure => simp [intOf]; omega
    · obtain rfl : k = n := by omega
      have HZ := Lib.hid (show parL xs = acc by unfold parL; rw [HL.out, HA.out])
      go_wp2
      go_ret
      exact ⟨u5, rfl, by rw [HZ.out]; exact HO.out, HB.out⟩
end Go.Proofs.Ytcbiaeeifclieaa
