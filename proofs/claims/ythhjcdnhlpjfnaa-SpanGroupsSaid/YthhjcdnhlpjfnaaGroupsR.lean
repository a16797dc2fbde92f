/- The reference's Groups of spans, and whether a place begins a part. -/
import Derived.Test.YthhjcdnhlpjfnaaCutD
import Derived.Test.YthhjcdnhlpjfnaaSpRightR
import Derived.Test.YthhjcdnhlpjfnaaGroupsD
namespace Go.Proofs.Ythhjcdnhlpjfnaa
open Go.RowKit

set_option maxRecDepth 100000 in
set_option maxHeartbeats 2000000 in
theorem refParted_any (p m : Int) (A : Option Addr) (n c : Nat) (l : List Sp) (w : World) (hr : Rd w 2 A n (cellsS l)) (hn : n ≤ maxLen) :
    Calls Try.prog 44 #[.int .i64 p, .int .i64 m, .slice A n c] w fun e w' => e = .returned (.bool (partedS p m l)) ∧ Below w.heap.size w w' := by
  have hlen : l.length = n := by have := hr.1; rw [cellsS_len] at this; omega
  have HL := Lib.hid hlen
  clear hlen
  unfold maxLen at hn
  go_enter Try.func44, Try.ntmps44
  go_wp2
  go_loopw [7] (fun i wr => ∃ k : Nat, k ≤ n ∧ i = .int .i64 k ∧ (l.take k).any (acrossB p m) = false ∧ Below w.heap.size w wr) (fun i _ => n - (intOf i).toNat)
  case atStart => exact ⟨0, Nat.zero_le _, rfl, by simp, Below.refl _ _⟩
  case round =>
    obtain ⟨k, hk, rfl, hno, hb⟩ := hrel
    have HN := Lib.hid hno
    clear hno
    by_cases hlt : k < n
    · obtain ⟨s, hsk⟩ : ∃ s, l[k]? = some s := ⟨_, List.getElem?_eq_getElem (by rw [HL.out]; exact hlt)⟩
      obtain ⟨ad, rfl, hab, c1, c2⟩ := (hr.below hb).span hsk
      have HS := Lib.hid hsk
      have HT := Lib.hid (show (l.take (k + 1)).any (acrossB p m) = acrossB p m s by rw [List.take_add_one, hsk, List.any_append, HN.out]; simp)
      clear hsk
      obtain ⟨lo, hi⟩ := s
      simp only at c1 c2
      go_wp2_with fail
      refine (refRight_any lo hi _).mono ?_
      rintro e w1 ⟨rfl, hb1⟩
      have hb2 := hb.trans (Below.mono (below_self (below_new wr _) hb1) hb.size)
      have d1 : w1.cell? ⟨wr.heap.size, 0, none⟩ = some (.int .i64 lo) := cell_below hb1 (by rw [World.cell?_alloc_at _ _ _ _ rfl]; rfl)
      have d2 : w1.cell? ⟨wr.heap.size, 1, none⟩ = some (.int .i64 hi) := cell_below hb1 (by rw [World.cell?_alloc_at _ _ _ _ rfl]; rfl)
      clear hb1 c1 c2
      cases hr1 : rightB (lo, hi) with
      | false =>
        have HA := Lib.hid (show acrossB p m (lo, hi) = false by unfold acrossB; rw [hr1]; rfl)
        go_wp2
        go_roundw
        case rel => exact ⟨k + 1, by omega, by go_num, by rw [HT.out, HA.out], hb2⟩
        case measure => simp [intOf]; omega
      | true =>
        have hdec : m < hi ∨ (hi ≤ m ∧ p ≤ lo) ∨ (hi ≤ m ∧ lo < p ∧ hi ≤ p) ∨ (hi ≤ m ∧ lo < p ∧ p < hi) := by omega
        rcases hdec with h | ⟨h, h2⟩ | ⟨h, h2, h3⟩ | ⟨h, h2, h3⟩
        · have HA := Lib.hid (show acrossB p m (lo, hi) = false by unfold acrossB; rw [hr1]; simp; omega)
          go_wp2
          go_roundw
          case rel => exact ⟨k + 1, by omega, by go_num, by rw [HT.out, HA.out], hb2⟩
          case measure => simp [intOf]; omega
        · have HA := Lib.hid (show acrossB p m (lo, hi) = false by unfold acrossB; rw [hr1]; simp; omega)
          go_wp2
          go_roundw
          case rel => exact ⟨k + 1, by omega, by go_num, by rw [HT.out, HA.out], hb2⟩
          case measure => simp [intOf]; omega
        · have HA := Lib.hid (show acrossB p m (lo, hi) = false by unfold acrossB; rw [hr1]; simp; omega)
          go_wp2
          go_roundw
          case rel => exact ⟨k + 1, by omega, by go_num, by rw [HT.out, HA.out], hb2⟩
          case measure => simp [intOf]; omega
        · have HF := Lib.hid (show partedS p m l = false by
            have HA : acrossB p m (lo, hi) = true := by unfold acrossB; rw [hr1]; simp; omega
            unfold partedS
            rw [List.any_eq_true.2 ⟨_, List.mem_of_getElem? HS.out, HA⟩]; rfl)
          go_wp2
          go_ret
          exact ⟨retB (by simp [HF.out]), hb2⟩
    · have HF := Lib.hid (show partedS p m l = true by
        unfold partedS
        have := HN.out
        rw [List.take_of_length_le (by rw [HL.out]; omega)] at this
        rw [this]; rfl)
      go_wp2
      go_ret
      exact ⟨retB (by simp [HF.out]), hb⟩

set_option maxRecDepth 100000 in
set_option maxHeartbeats 2000000 in
theorem refGroups_any (m : Int) (A : Option Addr) (n c : Nat) (l : List Sp) (w : World) (hr : Rd w 2 A n (cellsS l)) (hn : n ≤ maxLen) (hm : m ≤ 1000000) :
    Calls Try.prog 17 #[.int .i64 m, .slice A n c] w fun e w' => ∃ v, e = .returned v ∧ w'.ownsRow w.heap.size 27 2 v (groupsS m l).length (cellsS (groupsS m l)) ∧ Below w.heap.size w w' := by
  go_enter Try.func17, Try.ntmps17
  go_wp2
  go_loopw [5, 6, 7] (fun v x i wr => ∃ (k : Nat) (acc : List Sp) (y : Int), k ≤ m.toNat ∧ i = .int .i64 (k + 1) ∧ x = .int .i64 y ∧ acc.length ≤ k ∧ groupsS m l = acc ++ groupsGo m l (m.toNat - k) y (k + 1) ∧ wr.ownsRow w.heap.size 27 2 v acc.length (cellsS acc) ∧ Below w.heap.size w wr) (fun _ _ i _ => (m + 1 - intOf i).toNat)
  case atStart => exact ⟨0, [], 0, Nat.zero_le _, rfl, rfl, Nat.le_refl _, rfl, ⟨rfl, .inl ⟨rfl, rfl⟩⟩, Below.refl _ _⟩
  case round =>
    obtain ⟨k, acc, y, hk, rfl, rfl, hal, hg, hown, hb⟩ := hrel
    have HG := Lib.hid hg
    clear hg
    by_cases hlt : (k : Int) + 1 ≤ m
    · obtain ⟨f, hf⟩ : ∃ f, m.toNat - k = f + 1 := ⟨m.toNat - k - 1, by omega⟩
      have hf' : m.toNat - (k + 1) = f := by omega
      have HF := Lib.hid hf
      have HF' := Lib.hid hf'
      have hk1 : k + 1 ≤ m.toNat := by omega
      clear hf hf'
      have hcast : ((k : Int) + 1 + 1) = (((k + 1 : Nat) : Int) + 1) := by omega
      have HC := Lib.hid hcast
      clear hcast
      by_cases he : (k : Int) + 1 = m
      · have HY := Lib.hid (groupsGo_yes (l := l) (f := f) (lo := y) (.inl he))
        have he' : ((k : Int) + 1 == m) = true := by simpa using he
        clear he
        go_wp2_with (at_builtin; refine wpList_app rfl _ _ _ rfl spanSlice (by decide) u5 acc.length _ rfl (hown.alloc _) ⟨wr.heap.size, 0, none⟩ 1 1 [.int .i64 y, .int .i64 ((k : Int) + 1)] rfl rfl (cells_new wr [_, _] _) (oneInt2 _ _ _) (by omega) (by unfold maxLen; omega) (Nat.le_trans hb.size (by simp)) ?_; intro v1 w1 hown1 hg1 hat1)
        have hgr := below_app (hb.alloc hb.size _) hg1 (hown.alloc _) (Nat.le_trans hb.size (by simp))
        go_roundw
        case rel => exact ⟨k + 1, acc ++ [(y, (k : Int) + 1)], (k : Int) + 1, hk1, by rw [← HC.out], rfl, by simp; omega, by rw [HG.out, HF.out, HY.out, HF'.out, ← HC.out]; simp, by rw [cellsS_snoc, List.length_append]; exact hown1, hgr⟩
        case measure => simp [intOf]; omega
      · have he' : ((k : Int) + 1 == m) = false := by simpa using he
        go_wp2_with fail
        refine (refParted_any _ m A n c l _ (hr.below hb) hn).mono ?_
        rintro e w1 ⟨rfl, hb1⟩
        have hb2 := hb.trans (hb1.mono hb.size)
        have hown2 := hown.kept (w' := w1) (row := none) ⟨hb1.os, hb1.tape, hb1.output, hb1.size, fun j hj _ => hb1.block j hj⟩ (by rcases u5.ownBlock with _ | _ <;> simp)
        clear hb1 hown hb
        cases hp : partedS ((k : Int) + 1) m l with
        | true =>
          have HY := Lib.hid (groupsGo_yes (l := l) (f := f) (lo := y) (n := m) (p := (k : Int) + 1) (.inr hp))
          clear he
          go_wp2_with (at_builtin; refine wpList_app rfl _ _ _ rfl spanSlice (by decide) u5 acc.length _ rfl (hown2.alloc _) ⟨w1.heap.size, 0, none⟩ 1 1 [.int .i64 y, .int .i64 ((k : Int) + 1)] rfl rfl (cells_new w1 [_, _] _) (oneInt2 _ _ _) (by omega) (by unfold maxLen; omega) (Nat.le_trans hb2.size (by simp)) ?_; intro v1 w3 hown1 hg1 hat1)
          have hgr := below_app (hb2.alloc hb2.size _) hg1 (hown2.alloc _) (Nat.le_trans hb2.size (by simp))
          go_roundw
          case rel => exact ⟨k + 1, acc ++ [(y, (k : Int) + 1)], (k : Int) + 1, hk1, by rw [← HC.out], rfl, by simp; omega, by rw [HG.out, HF.out, HY.out, HF'.out, ← HC.out]; simp, by rw [cellsS_snoc, List.length_append]; exact hown1, hgr⟩
          case measure => simp [intOf]; omega
        | false =>
          have HY := Lib.hid (groupsGo_no (l := l) (f := f) (lo := y) (n := m) (p := (k : Int) + 1) (fun h => by rcases h with h | h; exact he h; rw [hp] at h; cases h))
          clear he
          go_wp2
          go_roundw
          case rel => exact ⟨k + 1, acc, y, hk1, by rw [← HC.out], rfl, by omega, by rw [HG.out, HF.out, HY.out, HF'.out, ← HC.out], hown2, hb2⟩
          case measure => simp [intOf]; omega
    · have HZ := Lib.hid (show groupsS m l = acc by rw [HG.out, show m.toNat - k = 0 by omega]; simp [groupsGo])
      go_wp2
      go_ret
      exact ⟨u5, rfl, by rw [HZ.out]; exact hown, hb⟩
end Go.Proofs.Ythhjcdnhlpjfnaa
