/- Clusters: cells of a slice of clusters; the reference's Identity, and where clusters end on either side. -/
import Derived.Test.YtnmefomipldalaaPartsD
import Derived.Test.YtnmefomipldalaaClD
namespace Go.Proofs.Ytnmefomipldalaa
open Go.RowKit

def identS (n : Nat) : List Cl := (List.range n).map fun i : Nat => (((i : Int), (i : Int) + 1), ((i : Int), (i : Int) + 1))
theorem identS_succ (k : Nat) : identS (k + 1) = identS k ++ [(((k : Int), (k : Int) + 1), ((k : Int), (k : Int) + 1))] := by simp [identS, List.range_succ]
theorem identS_len (k : Nat) : (identS k).length = k := by simp [identS]

set_option maxRecDepth 100000 in
set_option maxHeartbeats 2000000 in
theorem refIdentity_any (m : Int) (w : World) (hm : m ≤ 1000000) :
    Calls Try.prog 24 #[.int .i64 m] w fun e w' => ∃ v, e = .returned v ∧ w'.ownsRow w.heap.size 33 4 v m.toNat (cellsC (identS m.toNat)) ∧ Below w.heap.size w w' := by
  go_enter Try.func24, Try.ntmps24
  go_wp2
  go_loopw [3, 4] (fun v i wr => ∃ k : Nat, k ≤ m.toNat ∧ i = .int .i64 k ∧ wr.ownsRow w.heap.size 33 4 v k (cellsC (identS k)) ∧ Below w.heap.size w wr) (fun _ i _ => (m - intOf i).toNat)
  case atStart => exact ⟨0, Nat.zero_le _, rfl, ⟨rfl, .inl ⟨rfl, rfl⟩⟩, Below.refl _ _⟩
  case round =>
    obtain ⟨k, hk, rfl, hown, hb⟩ := hrel
    have HS := Lib.hid (show cellsC (identS (k + 1)) = cellsC (identS k) ++ [.int .i64 (k : Int), .int .i64 ((k : Int) + 1), .int .i64 (k : Int), .int .i64 ((k : Int) + 1)] by rw [identS_succ, cellsC_snoc])
    by_cases hlt : (k : Int) < m
    · have hnw := cells_new (wr.alloc (.cells #[.int .i64 (k : Int), .int .i64 ((k : Int) + 1)] 31)) [.int .i64 (k : Int), .int .i64 ((k : Int) + 1), .int .i64 (k : Int), .int .i64 ((k : Int) + 1)] 33
      rw [World.size_alloc] at hnw
      have HW := Lib.hid hnw
      have hown' := (hown.alloc (.cells #[.int .i64 (k : Int), .int .i64 ((k : Int) + 1)] 31)).alloc (.cells #[.int .i64 (k : Int), .int .i64 ((k : Int) + 1), .int .i64 (k : Int), .int .i64 ((k : Int) + 1)] 33)
      clear hnw
      have hb2 := (hb.alloc hb.size (.cells #[.int .i64 (k : Int), .int .i64 ((k : Int) + 1)] 31)).alloc (Nat.le_trans hb.size (by simp)) (.cells #[.int .i64 (k : Int), .int .i64 ((k : Int) + 1), .int .i64 (k : Int), .int .i64 ((k : Int) + 1)] 33)
      go_wp2_with (at_builtin; refine wpList_app rfl _ _ _ rfl clusSlice (by decide) u3 k _ rfl hown' ⟨wr.heap.size + 1, 0, none⟩ 1 1 _ rfl rfl HW.out (oneInt4 _ _ _ _ _) (by omega) (by unfold maxLen; omega) hb2.size ?_; intro v1 w1 hown1 hg1 hat1)
      have hgr := below_app hb2 hg1 hown' hb2.size
      go_roundw
      case rel => exact ⟨k + 1, by omega, by go_num, by rw [HS.out]; exact hown1, hgr⟩
      case measure => simp [intOf]; omega
    · have HK := Lib.hid (show k = m.toNat by omega)
      go_wp2
      go_ret
      exact ⟨u3, rfl, by rw [← HK.out]; exact hown, hb⟩

def insStep (n : Int) (c : Cl) : Int := if n < c.1.2 then c.1.2 else n
def insS (l : List Cl) : Int := l.foldl insStep 0
set_option maxRecDepth 100000 in
set_option maxHeartbeats 1000000 in
theorem ref_ins_any (A : Option Addr) (n c : Nat) (l : List Cl) (w : World) (hr : Rd w 4 A n (cellsC l)) (hn : n ≤ maxLen) :
    Calls Try.prog 58 #[.slice A n c] w fun e w' => e = .returned (.int .i64 (insS l)) ∧ w' = w := by
  have hlen : l.length = n := by have := hr.1; rw [cellsC_len] at this; omega
  have HL := Lib.hid hlen
  clear hlen
  unfold maxLen at hn
  go_enter Try.func58, Try.ntmps58
  go_wp2
  go_loop [3, 4] (fun x i => ∃ (k : Nat) (y : Int), k ≤ n ∧ i = .int .i64 k ∧ x = .int .i64 y ∧ insS l = (l.drop k).foldl insStep y) (fun _ i => n - (intOf i).toNat)
  case atStart => exact ⟨0, 0, Nat.zero_le _, rfl, rfl, rfl⟩
  case round =>
    obtain ⟨k, y, hk, rfl, rfl, hh⟩ := hrel
    have HH := Lib.hid hh
    clear hh
    by_cases hlt : k < n
    · obtain ⟨s, hsk⟩ : ∃ s, l[k]? = some s := ⟨_, List.getElem?_eq_getElem (by rw [HL.out]; exact hlt)⟩
      have HD := Lib.hid (dropCons hsk)
      obtain ⟨ad, rfl, hab, c1, c2, c3, c4⟩ := hr.clus hsk
      clear hsk
      obtain ⟨⟨s1, s2⟩, s3, s4⟩ := s
      simp only at c1 c2 c3 c4
      go_wp2
      all_goals
        go_round
        case rel => exact ⟨k + 1, insStep y ((s1, s2), (s3, s4)), by omega, by go_num, by first | rfl | (simp only [insStep]; first | rw [if_pos ‹_›] | rw [if_neg ‹_›] | rw [if_neg (by omega)]), by rw [HH.out, HD.out]; rfl⟩
        case measure => simp [intOf]; omega
    · have HZ := Lib.hid (show insS l = y by rw [HH.out, List.drop_eq_nil_of_le (by rw [HL.out]; omega)]; rfl)
      go_wp2
      go_ret
      exact ⟨retI HZ.out.symm, rfl⟩

def outsStep (n : Int) (c : Cl) : Int := if n < c.2.2 then c.2.2 else n
def outsS (l : List Cl) : Int := l.foldl outsStep 0
set_option maxRecDepth 100000 in
set_option maxHeartbeats 1000000 in
theorem ref_outs_any (A : Option Addr) (n c : Nat) (l : List Cl) (w : World) (hr : Rd w 4 A n (cellsC l)) (hn : n ≤ maxLen) :
    Calls Try.prog 59 #[.slice A n c] w fun e w' => e = .returned (.int .i64 (outsS l)) ∧ w' = w := by
  have hlen : l.length = n := by have := hr.1; rw [cellsC_len] at this; omega
  have HL := Lib.hid hlen
  clear hlen
  unfold maxLen at hn
  go_enter Try.func59, Try.ntmps59
  go_wp2
  go_loop [3, 4] (fun x i => ∃ (k : Nat) (y : Int), k ≤ n ∧ i = .int .i64 k ∧ x = .int .i64 y ∧ outsS l = (l.drop k).foldl outsStep y) (fun _ i => n - (intOf i).toNat)
  case atStart => exact ⟨0, 0, Nat.zero_le _, rfl, rfl, rfl⟩
  case round =>
    obtain ⟨k, y, hk, rfl, rfl, hh⟩ := hrel
    have HH := Lib.hid hh
    clear hh
    by_cases hlt : k < n
    · obtain ⟨s, hsk⟩ : ∃ s, l[k]? = some s := ⟨_, List.getElem?_eq_getElem (by rw [HL.out]; exact hlt)⟩
      have HD := Lib.hid (dropCons hsk)
      obtain ⟨ad, rfl, hab, c1, c2, c3, c4⟩ := hr.clus hsk
      clear hsk
      obtain ⟨⟨s1, s2⟩, s3, s4⟩ := s
      simp only at c1 c2 c3 c4
      go_wp2
      all_goals
        go_round
        case rel => exact ⟨k + 1, outsStep y ((s1, s2), (s3, s4)), by omega, by go_num, by first | rfl | (simp only [outsStep]; first | rw [if_pos ‹_›] | rw [if_neg ‹_›] | rw [if_neg (by omega)]), by rw [HH.out, HD.out]; rfl⟩
        case measure => simp [intOf]; omega
    · have HZ := Lib.hid (show outsS l = y by rw [HH.out, List.drop_eq_nil_of_le (by rw [HL.out]; omega)]; rfl)
      go_wp2
      go_ret
      exact ⟨retI HZ.out.symm, rfl⟩
end Go.Proofs.Ytnmefomipldalaa
