/- Options as words: all words, the project's. -/
import Derived.Test.YtcdogkabdhbjmaaDoorSwN
import Derived.Test.YtcdogkabdhbjmaaDoorSwR4
namespace Go.Proofs.YtcdogkabdhbjmaaDoor
open Go.RowKit

def wordVals : List Value := termsL.map fun t => Value.string t.1
theorem wordVals_len : wordVals.length = 26 := rfl
/-- The row of words when k of them have been laid. -/
def rowW (k : Nat) : List Value := wordVals.take k ++ List.replicate (26 - k) (.string ⟨#[]⟩)
theorem rowW_set {k : Nat} {t : ByteArray × Nat × Int} (h : termsL[k]? = some t) : (rowW k).set k (.string t.1) = rowW (k + 1) := by
  have hk : k < 26 := (List.getElem?_eq_some_iff.1 h).1
  have hv : wordVals[k]? = some (.string t.1) := by unfold wordVals; rw [List.getElem?_map, h]; rfl
  have ht : wordVals.take (k + 1) = wordVals.take k ++ [.string t.1] := by rw [List.take_add_one, hv]; rfl
  have hl : (wordVals.take k).length = k := by rw [List.length_take, wordVals_len]; omega
  unfold rowW
  rw [ht, show 26 - k = (26 - (k + 1)) + 1 by omega, List.replicate_succ, List.set_append_right _ _ (by omega), hl, Nat.sub_self]
  simp
theorem rowW_at {k : Nat} (hk : k < 26) : (rowW k)[k]? = some (.string ⟨#[]⟩) := by
  have hl : (wordVals.take k).length = k := by rw [List.length_take, wordVals_len]; omega
  unfold rowW
  rw [List.getElem?_append_right (by omega), hl, Nat.sub_self, List.getElem?_replicate, if_pos (by omega)]
theorem rowW_end : rowW 26 = wordVals := by
  unfold rowW
  rw [List.take_of_length_le (by rw [wordVals_len]; exact Nat.le_refl _)]
  simp
set_option maxRecDepth 100000 in
set_option maxHeartbeats 4000000 in
theorem swWords_any (w : World) (hT : TermsAt w) :
    Calls Tryd.prog 23 #[] w fun e w' => ∃ A, e = .returned (.slice (some A) 26 26) ∧ Rd w' 1 (some A) 26 wordVals ∧ Below w.heap.size w w' := by
  have HT := Lib.hid hT
  clear hT
  go_enter Tryd.func23, Tryd.ntmps23
  go_wp2_with (first
    | (at_make; refine wpList_mkFull rfl _ _ _ rfl (base := w.heap.size) (z := .string ⟨#[]⟩) (bytes := 16) Tryd.underlying37 (by kernel_rfl) rfl _ _ 26 rfl rfl rfl rfl (by omega) (by unfold maxLen; omega) (Nat.le_refl _) ?_; intro w0 hown0 hg0; have hb0 : Below w.heap.size w w0 := (Below.refl w.heap.size w).grown hg0 (Nat.le_refl _) (fun k hk => by cases hk); have HLT := Lib.hid (loadTerms (HT.out.below hb0)); have HB0 := Lib.hid hb0; have HO0 := Lib.hid hown0; clear hb0 hown0 hg0)
    | ((with_reducible refine wpList_loadV rfl 66 _ rfl ⟨0, 0, none⟩ (.agg termsA) ?_ HLT.out ?_); rfl))
  go_loopw [6] (fun i wr => ∃ (k : Nat), k ≤ 26 ∧ i = .int .i64 k ∧ wr.ownsRow w.heap.size 9 1 (.slice (some ⟨w.heap.size, 0, none⟩) 26 26) 26 (rowW k) ∧ Below w.heap.size w wr) (fun i _ => 26 - (intOf i).toNat)
  case atStart => exact ⟨0, Nat.zero_le _, rfl, HO0.out, HB0.out⟩
  case round =>
    obtain ⟨k, hk, rfl, hown, hb⟩ := hrel
    have HO := Lib.hid hown
    have HB := Lib.hid hb
    by_cases hlt : k < 26
    · obtain ⟨⟨wd, f, m⟩, ht⟩ : ∃ t, termsL[k]? = some t := ⟨_, List.getElem?_eq_getElem (by rw [terms_len]; exact hlt)⟩
      have hidx : ∀ w, (Instr.index 66 (.agg termsA) (.int .i64 (k : Int))).run Tryd.prog w = .ok (.agg #[.string wd, .int .i64 (f : Int), .int .i64 m]) w := fun w => idxTerms ht w
      have cz : wr.cell? ⟨w.heap.size, k, none⟩ = some (.string ⟨#[]⟩) := by rw [hown.cellAt k (by omega)]; exact rowW_at hlt
      have fz := hown.frozenAt k
      have hlw := cell_lt cz
      simp only at hlw
      have hst := (HO.out.stored k (.string wd)).1
      rw [rowW_set ht] at hst
      have HW := Lib.hid (hst.alloc (.cells #[.string wd, .int .i64 (f : Int), .int .i64 m] 65))
      have hbs := below_setB HB.out (Nat.le_refl _) k (.string wd)
      have HB2 := Lib.hid (hbs.alloc hbs.size (.cells #[.string wd, .int .i64 (f : Int), .int .i64 m] 65))
      clear ht hown hb hst hbs
      go_wp2
      go_roundw
      case rel => exact ⟨k + 1, by omega, by go_num, HW.out, HB2.out⟩
      case measure => simp [intOf]; omega
    · obtain rfl : k = 26 := by omega
      clear hown hb
      go_wp2
      go_ret
      refine ⟨_, rfl, ?_, HB.out⟩
      rw [← rowW_end]
      exact Rd.of_own HO.out
end Go.Proofs.YtcdogkabdhbjmaaDoor
