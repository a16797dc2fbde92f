/- naskhlaw11.SpellPrints. -/
import Derived.Test.YtcdogkabdhbjmaaDoorSwW
import Derived.Test.YtcdogkabdhbjmaaDoorSwR1
import Derived.BigQuiet
import Derived.Deep.QuietTactic
import Derived.Test.YtcdogkabdhbjmaaDoorSwL1
import Derived.Test.YtcdogkabdhbjmaaDoorSwPr
import Derived.Test.YtcdogkabdhbjmaaDoorSwPq
/- Options as words: slices.Equal at strings that are the same; all words, the reference's. -/
namespace Go.Proofs.YtcdogkabdhbjmaaDoor
open Go.RowKit

set_option maxRecDepth 100000 in
set_option maxHeartbeats 2000000 in
theorem eqStr_any (A B : Option Addr) (n c1 c2 : Nat) (xs : List Value) (hx : ∀ v ∈ xs, ∃ s, v = .string s) (hn : n ≤ 1000) (w : World) (hA : Rd w 1 A n xs) (hB : Rd w 1 B n xs) :
    Calls Tryd.prog 22 #[.slice A n c1, .slice B n c2] w fun e w' => e = .returned (.bool true) ∧ Below w.heap.size w w' := by
  have HX := Lib.hid hx
  have HL := Lib.hid hA.len1
  clear hx
  go_enter Tryd.func22, Tryd.ntmps22
  go_wp2
  go_loopw [13] (fun i wr => ∃ (k q : Nat), k ≤ n ∧ i = .int .i64 k ∧ wr = w.drewN q) (fun i _ => n - (intOf i).toNat)
  case atStart => exact ⟨0, 0, Nat.zero_le _, rfl, rfl⟩
  case round =>
    obtain ⟨k, q, hk, rfl, rfl⟩ := hrel
    by_cases hlt : k < n
    · obtain ⟨v, hv⟩ : ∃ v, xs[k]? = some v := ⟨_, List.getElem?_eq_getElem (by rw [HL.out]; exact hlt)⟩
      obtain ⟨s, rfl⟩ := HX.out v (List.mem_of_getElem? hv)
      obtain ⟨a, rfl, _, hca⟩ := hA.at_ hlt
      obtain ⟨b, rfl, _, hcb⟩ := hB.at_ hlt
      have ca : w.cell? (a.add k) = some (.string s) := hca _ hv
      have cb : w.cell? (b.add k) = some (.string s) := hcb _ hv
      have h1 : (s.toList == s.toList) = true := by simp
      have hi : (k : Int) < (n : Int) := by omega
      have hi0 : (0 : Int) ≤ (k : Int) := by omega
      clear hv hca hcb
      go_wp2
      go_quiet (fail)
      go_wp2
      go_roundw
      case rel => exact ⟨k + 1, q + nq, by omega, by go_num, by first | rfl | exact (World.drewN_drewN _ _ _) | exact (World.drewN_add _ _ _).symm⟩
      case measure => simp [intOf]; omega
    · go_wp2
      go_ret
      exact ⟨rfl, drewBelow q⟩
/-- The words of the fields below k. -/
def wordsBelow (k : Nat) : List ByteArray := (List.range k).flatMap wordsOf
theorem wordsBelow_next (k : Nat) : wordsBelow (k + 1) = wordsBelow k ++ wordsOf k := by
  unfold wordsBelow
  rw [List.range_succ, List.flatMap_append]
  simp
theorem wordsBelow_all : (wordsBelow 14).map Value.string = wordVals := by rfl
theorem wordsBelow_len : ∀ k, k ≤ 14 → (wordsBelow k).length ≤ 26 := by decide +kernel
set_option maxRecDepth 100000 in
set_option maxHeartbeats 2000000 in
theorem refWords_any (w : World) : Calls Tryd.prog 24 #[] w fun e w' => ∃ A c, e = .returned (.slice A 26 c) ∧ Rd w' 1 A 26 wordVals ∧ Below w.heap.size w w' := by
  go_enter Tryd.func24, Tryd.ntmps24
  go_wp2
  go_loopw [1, 2] (fun v i wr => ∃ (k : Nat), k ≤ 14 ∧ i = .int .i64 k ∧ wr.ownsRow w.heap.size 9 1 v (wordsBelow k).length ((wordsBelow k).map Value.string) ∧ Below w.heap.size w wr) (fun _ i _ => 14 - (intOf i).toNat)
  case atStart => exact ⟨0, Nat.zero_le _, rfl, World.ownsRow_nil _ _ _ _, Below.refl _ _⟩
  case round =>
    obtain ⟨k, hk, rfl, hown, hb⟩ := hrel
    have hwl := wordsBelow_len k hk
    obtain ⟨A, c, rfl, hnc⟩ := own_form hown
    have HO := Lib.hid hown
    have HB := Lib.hid hb
    clear hown hb
    by_cases hlt : k < 14
    · go_wp2_with fail
      refine (words_any k hlt _).mono ?_
      rintro e w1 ⟨A1, c1, rfl, hr1, hb1⟩
      have HO1 := Lib.hid (own_below HO.out hb1)
      have hB1 := HB.out.trans (hb1.mono HB.out.size)
      have HB1 := Lib.hid hB1
      have hs1 := hB1.size
      have hwl2 := wordsBelow_len (k + 1) (by omega)
      rw [wordsBelow_next, List.length_append] at hwl2
      have HRD := Lib.hid hr1
      clear hr1 hb1 hB1
      have h1 : ∀ u ∈ (wordsOf k).map Value.string, u.oneCell' = true := fun u hu => by
        obtain ⟨x, _, rfl⟩ := List.mem_map.1 hu
        rfl
      go_wp2_with (at_builtin; refine wpList_appR rfl _ _ _ rfl strSlice (by decide) _ (wordsBelow k).length _ rfl HO1.out (some A1) (wordsOf k).length _ ((wordsOf k).map Value.string) rfl HRD.out h1 (by omega) (by unfold maxLen; omega) hs1 ?_; intro v1 w2 hown1 hg1 hat1)
      have HW := Lib.hid (show w2.ownsRow w.heap.size 9 1 v1 (wordsBelow (k + 1)).length ((wordsBelow (k + 1)).map Value.string) by
        rw [wordsBelow_next, List.length_append, List.map_append]
        exact hown1)
      have HB2 := Lib.hid (below_app HB1.out hg1 HO1.out hs1)
      clear hown1 hg1 hat1 h1
      go_wp2
      go_roundw
      case rel => exact ⟨k + 1, by omega, by go_num, HW.out, HB2.out⟩
      case measure => simp [intOf]; omega
    · obtain rfl : k = 14 := by omega
      go_wp2
      go_ret
      refine ⟨A, c, rfl, ?_, HB.out⟩
      rw [← wordsBelow_all]
      exact Rd.of_own HO.out
end Go.Proofs.YtcdogkabdhbjmaaDoor
namespace Go.Proofs.YtcdogkabdhbjmaaDoor
open Go.RowKit

theorem wordVals_str : ∀ v ∈ wordVals, ∃ s, v = .string s := fun v hv => by
  unfold wordVals at hv
  obtain ⟨t, _, rfl⟩ := List.mem_map.1 hv
  exact ⟨_, rfl⟩
set_option maxRecDepth 100000 in
set_option maxHeartbeats 8000000 in
theorem spellPrints_any (d l t g : Int) (b0 b1 b2 b3 b4 b5 b6 b7 b8 b9 : Bool) (w : World) (hT : TermsAt w) (hK : KindsAt w) :
    Calls Tryd.prog 6 #[.agg #[.int .i64 d, .int .i64 l, .int .i64 t, .int .i64 g, .bool b0, .bool b1, .bool b2, .bool b3, .bool b4, .bool b5, .bool b6, .bool b7, .bool b8, .bool b9]] w fun e w' => e = .returned (.bool true) ∧ Below w.heap.size w w' := by
  obtain ⟨S, E, hR⟩ : ∃ S E, printF ⟨d, l, t, g, b0, b1, b2, b3, b4, b5, b6, b7, b8, b9⟩ = (S, E) := ⟨_, _, rfl⟩
  have HR := Lib.hid hR
  obtain ⟨W1, hW1⟩ : ∃ W1, w.alloc (.cells #[.int .i64 d, .int .i64 l, .int .i64 t, .int .i64 g, .bool b0, .bool b1, .bool b2, .bool b3, .bool b4, .bool b5, .bool b6, .bool b7, .bool b8, .bool b9] 23) = W1 := ⟨_, rfl⟩
  have hO1 : OptAt W1 w.heap.size ⟨d, l, t, g, b0, b1, b2, b3, b4, b5, b6, b7, b8, b9⟩ := by rw [← hW1]; exact OptAt.new_ w ⟨d, l, t, g, b0, b1, b2, b3, b4, b5, b6, b7, b8, b9⟩ 23
  have hb1 : Below w.heap.size w W1 := by rw [← hW1]; exact below_new _ _
  have HK1 := Lib.hid (hK.below hb1)
  have HT1 := Lib.hid (hT.below hb1)
  have HO1 := Lib.hid hO1
  have HB1 := Lib.hid hb1
  have h0 : (S.toList == S.toList) = true := by simp
  have c0 : W1.cell? ⟨w.heap.size, 0, none⟩ = some (.int .i64 d) := hO1.1 0 _ rfl
  have c1 : W1.cell? ⟨w.heap.size, 1, none⟩ = some (.int .i64 l) := hO1.1 1 _ rfl
  have c2 : W1.cell? ⟨w.heap.size, 2, none⟩ = some (.int .i64 t) := hO1.1 2 _ rfl
  have c3 : W1.cell? ⟨w.heap.size, 3, none⟩ = some (.int .i64 g) := hO1.1 3 _ rfl
  have c4 : W1.cell? ⟨w.heap.size, 4, none⟩ = some (.bool b0) := hO1.1 4 _ rfl
  have c5 : W1.cell? ⟨w.heap.size, 5, none⟩ = some (.bool b1) := hO1.1 5 _ rfl
  have c6 : W1.cell? ⟨w.heap.size, 6, none⟩ = some (.bool b2) := hO1.1 6 _ rfl
  have c7 : W1.cell? ⟨w.heap.size, 7, none⟩ = some (.bool b3) := hO1.1 7 _ rfl
  have c8 : W1.cell? ⟨w.heap.size, 8, none⟩ = some (.bool b4) := hO1.1 8 _ rfl
  have c9 : W1.cell? ⟨w.heap.size, 9, none⟩ = some (.bool b5) := hO1.1 9 _ rfl
  have c10 : W1.cell? ⟨w.heap.size, 10, none⟩ = some (.bool b6) := hO1.1 10 _ rfl
  have c11 : W1.cell? ⟨w.heap.size, 11, none⟩ = some (.bool b7) := hO1.1 11 _ rfl
  have c12 : W1.cell? ⟨w.heap.size, 12, none⟩ = some (.bool b8) := hO1.1 12 _ rfl
  have c13 : W1.cell? ⟨w.heap.size, 13, none⟩ = some (.bool b9) := hO1.1 13 _ rfl
  clear hR hK hT hO1 hb1
  go_enter Tryd.func6, Tryd.ntmps6
  go_wp2_with fail
  refine (swPrint_any d l t g b0 b1 b2 b3 b4 b5 b6 b7 b8 b9 S E HR.out _ HT1.out HK1.out).mono ?_
  rintro e w2 ⟨rfl, hb2⟩
  have hO2 := HO1.out.below hb2
  have HK2 := Lib.hid (HK1.out.below hb2)
  have HT2 := Lib.hid (HT1.out.below hb2)
  have HB2 := Lib.hid (below_self HB1.out hb2)
  clear hb2 HK1 HT1 HB1 HO1 c0 c1 c2 c3 c4 c5 c6 c7 c8 c9 c10 c11 c12 c13 hW1
  have c0 : w2.cell? ⟨w.heap.size, 0, none⟩ = some (.int .i64 d) := hO2.1 0 _ rfl
  have c1 : w2.cell? ⟨w.heap.size, 1, none⟩ = some (.int .i64 l) := hO2.1 1 _ rfl
  have c2 : w2.cell? ⟨w.heap.size, 2, none⟩ = some (.int .i64 t) := hO2.1 2 _ rfl
  have c3 : w2.cell? ⟨w.heap.size, 3, none⟩ = some (.int .i64 g) := hO2.1 3 _ rfl
  have c4 : w2.cell? ⟨w.heap.size, 4, none⟩ = some (.bool b0) := hO2.1 4 _ rfl
  have c5 : w2.cell? ⟨w.heap.size, 5, none⟩ = some (.bool b1) := hO2.1 5 _ rfl
  have c6 : w2.cell? ⟨w.heap.size, 6, none⟩ = some (.bool b2) := hO2.1 6 _ rfl
  have c7 : w2.cell? ⟨w.heap.size, 7, none⟩ = some (.bool b3) := hO2.1 7 _ rfl
  have c8 : w2.cell? ⟨w.heap.size, 8, none⟩ = some (.bool b4) := hO2.1 8 _ rfl
  have c9 : w2.cell? ⟨w.heap.size, 9, none⟩ = some (.bool b5) := hO2.1 9 _ rfl
  have c10 : w2.cell? ⟨w.heap.size, 10, none⟩ = some (.bool b6) := hO2.1 10 _ rfl
  have c11 : w2.cell? ⟨w.heap.size, 11, none⟩ = some (.bool b7) := hO2.1 11 _ rfl
  have c12 : w2.cell? ⟨w.heap.size, 12, none⟩ = some (.bool b8) := hO2.1 12 _ rfl
  have c13 : w2.cell? ⟨w.heap.size, 13, none⟩ = some (.bool b9) := hO2.1 13 _ rfl
  clear hO2
  go_wp2_with fail
  refine (refPrint_any d l t g b0 b1 b2 b3 b4 b5 b6 b7 b8 b9 S E HR.out _).mono ?_
  rintro e w3 ⟨rfl, hb3⟩
  have HK3 := Lib.hid (HK2.out.below hb3)
  have HT3 := Lib.hid (HT2.out.below hb3)
  have HB3 := Lib.hid (below_self HB2.out hb3)
  clear hb3 HK2 HT2 HB2 c0 c1 c2 c3 c4 c5 c6 c7 c8 c9 c10 c11 c12 c13
  go_wp2_with fail
  refine (swWords_any _ HT3.out).mono ?_
  rintro e w4 ⟨A, rfl, hr4, hb4⟩
  have HR4 := Lib.hid hr4
  have HK4 := Lib.hid (HK3.out.below hb4)
  have HT4 := Lib.hid (HT3.out.below hb4)
  have HB4 := Lib.hid (below_self HB3.out hb4)
  clear hr4 hb4 HK3 HT3 HB3
  go_wp2_with fail
  refine (refWords_any _).mono ?_
  rintro e w5 ⟨A5, c5, rfl, hr5, hb5⟩
  have HA5 := Lib.hid (HR4.out.below hb5)
  have HR5 := Lib.hid hr5
  have HK5 := Lib.hid (HK4.out.below hb5)
  have HT5 := Lib.hid (HT4.out.below hb5)
  have HB5 := Lib.hid (below_self HB4.out hb5)
  clear hr5 hb5 HK4 HT4 HB4 HR4
  go_wp2_with fail
  refine (eqStr_any (some A) A5 26 26 c5 wordVals wordVals_str (by decide) w5 HA5.out HR5.out).mono ?_
  rintro e w6 ⟨rfl, hb6⟩
  have HK6 := Lib.hid (HK5.out.below hb6)
  have HT6 := Lib.hid (HT5.out.below hb6)
  have HB6 := Lib.hid (below_self HB5.out hb6)
  clear hb6 HK5 HT5 HB5 HA5 HR5
  go_wp2_with fail
  refine (awake11_any _ HT6.out HK6.out).mono ?_
  rintro e w7 ⟨rfl, hb7⟩
  have HB7 := Lib.hid (below_self HB6.out hb7)
  clear hb7
  go_wp2_with fail
  go_ret
  exact ⟨rfl, HB7.out⟩
end Go.Proofs.YtcdogkabdhbjmaaDoor
