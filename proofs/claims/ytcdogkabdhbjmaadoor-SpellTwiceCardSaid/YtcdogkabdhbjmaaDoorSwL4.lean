/- naskhlaw11.SpellTwice. -/
import Derived.Test.YtcdogkabdhbjmaaDoorSwL1
import Derived.Test.YtcdogkabdhbjmaaDoorSwT2
import Derived.Test.YtcdogkabdhbjmaaDoorSwB
namespace Go.Proofs.YtcdogkabdhbjmaaDoor
open Go.RowKit

theorem find_each : (termsL.all fun t => decide (findT t.1 = some t.2)) = true := by decide +kernel
theorem twice_said {t : ByteArray × Nat × Int} (ht : t ∈ termsL) : saidF [t.1, t.1] = (Opt.zero, 12) := by
  have hf := of_decide_eq_true (List.all_eq_true.1 find_each t ht)
  have hk := (terms_ok t ht).1
  unfold saidF
  rw [saidL, hf]
  simp only
  have h0 : (List.replicate 14 false).getD t.2.1 false = false := by
    rw [List.getD_eq_getElem?_getD, List.getElem?_replicate, if_pos hk]
    rfl
  rw [h0, if_neg (by decide), saidL, hf]
  simp only
  have h1 : ((List.replicate 14 false).set t.2.1 true).getD t.2.1 false = true := by
    rw [List.getD_eq_getElem?_getD, List.getElem?_set_self (by simpa using hk)]
    rfl
  rw [h1, if_pos rfl]
theorem twice_words {w : ByteArray} (hw : wordOk w = true) (n m : Nat) : wordsF (blk n ++ w ++ blk (1 + m) ++ w) = [w, w] := by
  obtain ⟨h1, h2, _⟩ := wordOk_of hw
  rw [words_split]
  have e : (blk n ++ w ++ blk (1 + m) ++ w).data.toList = List.replicate n 32 ++ (w.data.toList ++ (32 :: (List.replicate m 32 ++ (w.data.toList ++ [])))) := by
    simp only [ByteArray.data_append, Array.toList_append, blk]
    rw [Nat.add_comm 1 m, List.replicate_succ]
    simp
  rw [e, splitL_blanks, splitL_word _ _ _ h1, List.nil_append, splitL_blank _ _ _ rfl h2, splitL_blanks, splitL_word _ _ _ h1, List.nil_append]
  rw [splitL, if_neg h2]
theorem twice_parse {t : ByteArray × Nat × Int} (ht : t ∈ termsL) (n m : Nat) (hn : n ≤ 10) (hm : m ≤ 10) : parseF (blk n ++ t.1 ++ blk (1 + m) ++ t.1) = (Opt.zero, 12) := by
  have hw := List.all_eq_true.1 terms_word t ht
  have hs : t.1.size ≤ 14 := by
    have := (wordOk_of hw).2.2
    simpa using this
  unfold parseF
  rw [twice_words hw, twice_said ht, if_neg (by simp only [ByteArray.size_append, blk_size]; omega), if_neg (by decide)]
theorem arr50 (t : Array Value) (h : t.size = 50) : ∃ u0 u1 u2 u3 u4 u5 u6 u7 u8 u9 u10 u11 u12 u13 u14 u15 u16 u17 u18 u19 u20 u21 u22 u23 u24 u25 u26 u27 u28 u29 u30 u31 u32 u33 u34 u35 u36 u37 u38 u39 u40 u41 u42 u43 u44 u45 u46 u47 u48 u49, t = #[u0, u1, u2, u3, u4, u5, u6, u7, u8, u9, u10, u11, u12, u13, u14, u15, u16, u17, u18, u19, u20, u21, u22, u23, u24, u25, u26, u27, u28, u29, u30, u31, u32, u33, u34, u35, u36, u37, u38, u39, u40, u41, u42, u43, u44, u45, u46, u47, u48, u49] := by
  obtain ⟨l⟩ := t
  simp only [List.size_toArray] at h
  rcases l with _ | ⟨u0, l⟩
  · simp at h
  rcases l with _ | ⟨u1, l⟩
  · simp at h
  rcases l with _ | ⟨u2, l⟩
  · simp at h
  rcases l with _ | ⟨u3, l⟩
  · simp at h
  rcases l with _ | ⟨u4, l⟩
  · simp at h
  rcases l with _ | ⟨u5, l⟩
  · simp at h
  rcases l with _ | ⟨u6, l⟩
  · simp at h
  rcases l with _ | ⟨u7, l⟩
  · simp at h
  rcases l with _ | ⟨u8, l⟩
  · simp at h
  rcases l with _ | ⟨u9, l⟩
  · simp at h
  rcases l with _ | ⟨u10, l⟩
  · simp at h
  rcases l with _ | ⟨u11, l⟩
  · simp at h
  rcases l with _ | ⟨u12, l⟩
  · simp at h
  rcases l with _ | ⟨u13, l⟩
  · simp at h
  rcases l with _ | ⟨u14, l⟩
  · simp at h
  rcases l with _ | ⟨u15, l⟩
  · simp at h
  rcases l with _ | ⟨u16, l⟩
  · simp at h
  rcases l with _ | ⟨u17, l⟩
  · simp at h
  rcases l with _ | ⟨u18, l⟩
  · simp at h
  rcases l with _ | ⟨u19, l⟩
  · simp at h
  rcases l with _ | ⟨u20, l⟩
  · simp at h
  rcases l with _ | ⟨u21, l⟩
  · simp at h
  rcases l with _ | ⟨u22, l⟩
  · simp at h
  rcases l with _ | ⟨u23, l⟩
  · simp at h
  rcases l with _ | ⟨u24, l⟩
  · simp at h
  rcases l with _ | ⟨u25, l⟩
  · simp at h
  rcases l with _ | ⟨u26, l⟩
  · simp at h
  rcases l with _ | ⟨u27, l⟩
  · simp at h
  rcases l with _ | ⟨u28, l⟩
  · simp at h
  rcases l with _ | ⟨u29, l⟩
  · simp at h
  rcases l with _ | ⟨u30, l⟩
  · simp at h
  rcases l with _ | ⟨u31, l⟩
  · simp at h
  rcases l with _ | ⟨u32, l⟩
  · simp at h
  rcases l with _ | ⟨u33, l⟩
  · simp at h
  rcases l with _ | ⟨u34, l⟩
  · simp at h
  rcases l with _ | ⟨u35, l⟩
  · simp at h
  rcases l with _ | ⟨u36, l⟩
  · simp at h
  rcases l with _ | ⟨u37, l⟩
  · simp at h
  rcases l with _ | ⟨u38, l⟩
  · simp at h
  rcases l with _ | ⟨u39, l⟩
  · simp at h
  rcases l with _ | ⟨u40, l⟩
  · simp at h
  rcases l with _ | ⟨u41, l⟩
  · simp at h
  rcases l with _ | ⟨u42, l⟩
  · simp at h
  rcases l with _ | ⟨u43, l⟩
  · simp at h
  rcases l with _ | ⟨u44, l⟩
  · simp at h
  rcases l with _ | ⟨u45, l⟩
  · simp at h
  rcases l with _ | ⟨u46, l⟩
  · simp at h
  rcases l with _ | ⟨u47, l⟩
  · simp at h
  rcases l with _ | ⟨u48, l⟩
  · simp at h
  rcases l with _ | ⟨u49, l⟩
  · simp at h
  have : l = [] := by
    rw [← List.length_eq_zero_iff]
    simp only [List.length_cons] at h
    omega
  subst this
  exact ⟨_, _, _, _, _, _, _, _, _, _, _, _, _, _, _, _, _, _, _, _, _, _, _, _, _, _, _, _, _, _, _, _, _, _, _, _, _, _, _, _, _, _, _, _, _, _, _, _, _, _, rfl⟩
set_option maxRecDepth 100000 in
set_option maxHeartbeats 4000000 in
theorem spellTwice_any (a b : Nat) (ha : a < 256) (hb : b < 256) (w : World) (hT : TermsAt w) (hK : KindsAt w) :
    Calls Tryd.prog 9 #[.int .u8 (a : Int), .int .u8 (b : Int)] w fun e w' => e = .returned (.bool true) ∧ Below w.heap.size w w' := by
  have HT := Lib.hid hT
  have HK := Lib.hid hK
  obtain ⟨k, hk⟩ : ∃ k, a % 26 = k := ⟨_, rfl⟩
  have hk26 : k < 26 := by omega
  have HKA := Lib.hid hk
  obtain ⟨t, ht⟩ : ∃ t, termsL[k]? = some t := ⟨_, List.getElem?_eq_getElem (by rw [terms_len]; exact hk26)⟩
  have HTM := Lib.hid (List.mem_of_getElem? ht)
  have hv : wordVals[k]? = some (.string t.1) := by unfold wordVals; rw [List.getElem?_map, ht]; rfl
  have HV := Lib.hid hv
  have hws : t.1.size ≤ 14 := by
    have := (wordOk_of (List.all_eq_true.1 terms_word t HTM.out)).2.2
    simpa using this
  have HWS := Lib.hid hws
  have hr1 : (a : Int) % 26 = (k : Int) := by omega
  clear hT hK hk ht hv hws
  go_enter Tryd.func9, Tryd.ntmps9
  go_wp2_with fail
  refine (swWords_any w HT.out).mono ?_
  rintro e w1 ⟨A, rfl, hr, hb1⟩
  obtain ⟨ad, hA, _, hc⟩ := hr.at_ hk26
  obtain rfl := Option.some.inj hA
  have cx := hc _ HV.out
  have HT1 := Lib.hid (HT.out.below hb1)
  have HK1 := Lib.hid (HK.out.below hb1)
  have HB1 := Lib.hid hb1
  clear hr hb1 hA hc HT HK
  go_wp2_with fail
  refine twice_region (p := ⟨b, t.1, hb, HWS.out⟩) (w0 := w1) (by rfl) (by kernel_rfl) (by kernel_rfl) (by kernel_rfl) ?hH ?_
  case hH => exact ⟨rfl, rfl, rfl, rfl, (Below.refl _ _).drew⟩
  intro a' w' hA e7
  obtain ⟨tm, df⟩ := a'
  have hdf := hA.defers
  have hsz := hA.size
  have hbw := hA.below
  simp only at hdf hsz e7
  subst hdf
  obtain ⟨u0, u1, u2, u3, u4, u5, u6, u7, u8, u9, u10, u11, u12, u13, u14, u15, u16, u17, u18, u19, u20, u21, u22, u23, u24, u25, u26, u27, u28, u29, u30, u31, u32, u33, u34, u35, u36, u37, u38, u39, u40, u41, u42, u43, u44, u45, u46, u47, u48, u49, rfl⟩ := arr50 tm hsz
  obtain rfl := Option.some.inj e7
  have HP := Lib.hid (twice_parse HTM.out (b % 5) (b % 7) (by omega) (by omega))
  generalize blk (b % 5) ++ t.1 ++ blk (1 + b % 7) ++ t.1 = s at *
  have HT2 := Lib.hid (HT1.out.below hbw)
  have HK2 := Lib.hid (HK1.out.below hbw)
  have HB2 := Lib.hid (below_self HB1.out hbw)
  clear hA hsz e7 hbw HT1 HK1 HB1 cx hr1
  go_wp2_with fail
  refine (swParse_any s Opt.zero 12 HP.out w' HT2.out HK2.out).mono ?_
  rintro e w3 ⟨rfl, hb3⟩
  have HT3 := Lib.hid (HT2.out.below hb3)
  have HK3 := Lib.hid (HK2.out.below hb3)
  have HB3 := Lib.hid (below_self HB2.out hb3)
  simp only [Opt.zero, Opt.val, Opt.cells]
  clear hb3 HT2 HK2 HB2
  have HT4 := Lib.hid (HT3.out.below (below_new w3 (.cells #[.int .i64 0, .int .i64 0, .int .i64 0, .int .i64 0, .bool false, .bool false, .bool false, .bool false, .bool false, .bool false, .bool false, .bool false, .bool false, .bool false] 23)))
  have HK4 := Lib.hid (HK3.out.below (below_new w3 (.cells #[.int .i64 0, .int .i64 0, .int .i64 0, .int .i64 0, .bool false, .bool false, .bool false, .bool false, .bool false, .bool false, .bool false, .bool false, .bool false, .bool false] 23)))
  have HB4 := Lib.hid (below_self HB3.out (below_new w3 (.cells #[.int .i64 0, .int .i64 0, .int .i64 0, .int .i64 0, .bool false, .bool false, .bool false, .bool false, .bool false, .bool false, .bool false, .bool false, .bool false, .bool false] 23)))
  go_wp2_with fail
  refine (awake11_any _ HT4.out HK4.out).mono ?_
  rintro e w5 ⟨rfl, hb5⟩
  have HB5 := Lib.hid (below_self HB4.out hb5)
  clear hb5
  go_wp2_with fail
  go_ret
  exact ⟨rfl, HB5.out⟩
end Go.Proofs.YtcdogkabdhbjmaaDoor
