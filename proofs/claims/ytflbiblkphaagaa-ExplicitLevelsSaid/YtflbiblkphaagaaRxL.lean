/- The reference's Levels, walked. -/
import Derived.Test.YtflbiblkphaagaaRxP
import Derived.Test.YtflbiblkphaagaaRsP3
import Derived.Test.YtflbiblkphaagaaRsP4
import Derived.Test.YtflbiblkphaagaaPaM
import Derived.Deep.DeepCutAuto
namespace Go.Proofs.Ytflbiblkphaagaa
open Go.RowKit

/-- What lies in memory between two rounds. -/
structure RxAt (w0 w : World) (B b : Nat) (s : Stk) (u7 u8 : Value) (k7 k8 : Nat) (l7 l8 : List Int) : Prop where
  rs : RsAt w b s
  r7 : w.ownsRow B 3 1 u7 k7 (l7.map (Value.int .i64))
  r8 : w.ownsRow B 3 1 u8 k8 (l8.map (Value.int .i64))
  ne : u7.ownBlock = none ∨ u7.ownBlock ≠ u8.ownBlock
  low_ : Below w0.heap.size w0 w
  hb : b < B
  hB : B ≤ w.heap.size
  h0 : w0.heap.size < b
section
variable {w0 w w' : World} {B b k7 k8 : Nat} {s t : Stk} {u7 u8 v : Value} {l7 l8 : List Int}
theorem RxAt.low (h : RxAt w0 w B b s u7 u8 k7 k8 l7 l8) (hb : Below w.heap.size w w') : RxAt w0 w' B b s u7 u8 k7 k8 l7 l8 :=
  ⟨h.rs.low hb, own_below h.r7 hb, own_below h.r8 hb, h.ne, below_self h.low_ hb, h.hb, Nat.le_trans h.hB hb.size, h.h0⟩
theorem RxAt.call (h : RxAt w0 w B b s u7 u8 k7 k8 l7 l8) (hs : RsAt w' b t) (hk : Kept w w' [b]) : RxAt w0 w' B b t u7 u8 k7 k8 l7 l8 :=
  ⟨hs, own_kept h.r7 hk (by simpa using h.hb), own_kept h.r8 hk (by simpa using h.hb), h.ne, hk.lower h.low_ h.low_.size (by have := h.h0; simp; omega), h.hb, Nat.le_trans h.hB hk.size, h.h0⟩
theorem RxAt.app7 (h : RxAt w0 w B b s u7 u8 k7 k8 l7 l8) {x : Int} (ho : w'.ownsRow B 3 1 v (k7 + 1) (l7.map (Value.int .i64) ++ [.int .i64 x])) (hg : w.grownBy w' u7.ownBlock) (hat : v.ownBlock = u7.ownBlock ∨ v.ownBlock = some w.heap.size) : RxAt w0 w' B b s v u8 (k7 + 1) k8 (l7 ++ [x]) l8 := by
  refine ⟨h.rs.grown hg (own_row h.r7), by rw [List.map_append]; exact ho, ?_, ?_, below_app h.low_ hg (own_base h.r7 (by have := h.hb; have := h.h0; omega)) h.low_.size, h.hb, Nat.le_trans h.hB hg.size, h.h0⟩
  · rcases h.ne with e | e
    · rcases e8 : u8.ownBlock with _ | g8
      · exact h.r8.kept hg (.inl e8)
      · exact h.r8.kept hg (.inr (by rw [e, e8]; simp))
    · exact h.r8.kept hg (.inr (fun e' => e e'.symm))
  · rcases hat with e | e
    · rw [e]; exact h.ne
    · right
      rw [e]
      intro e'
      have := (h.r8.lt _ e'.symm).2
      omega
theorem RxAt.app8 (h : RxAt w0 w B b s u7 u8 k7 k8 l7 l8) {x : Int} (ho : w'.ownsRow B 3 1 v (k8 + 1) (l8.map (Value.int .i64) ++ [.int .i64 x])) (hg : w.grownBy w' u8.ownBlock) (hat : v.ownBlock = u8.ownBlock ∨ v.ownBlock = some w.heap.size) : RxAt w0 w' B b s u7 v k7 (k8 + 1) l7 (l8 ++ [x]) := by
  refine ⟨h.rs.grown hg (own_row h.r8), ?_, by rw [List.map_append]; exact ho, ?_, below_app h.low_ hg (own_base h.r8 (by have := h.hb; have := h.h0; omega)) h.low_.size, h.hb, Nat.le_trans h.hB hg.size, h.h0⟩
  · rcases h.ne with e | e
    · exact h.r7.kept hg (.inl e)
    · exact h.r7.kept hg (.inr e)
  · rcases h.ne with e | e
    · exact .inl e
    · rcases hat with e2 | e2
      · right; rw [e2]; exact e
      · right
        rw [e2]
        intro e'
        have := (h.r7.lt _ e').2
        omega
end
set_option maxRecDepth 100000 in
set_option maxHeartbeats 16000000 in
theorem rxLevels_any (A : Option Addr) (n c : Nat) (xs : List Int) (level : Int) (w : World) (hr : Rd w 1 A n (xs.map (Value.int .i64))) (hn : n ≤ 100000) (hnc : n ≤ c) : Calls Try.prog 30 #[.slice A n c, .int .i64 level] w fun e w' => (∃ V cv V' cv', e = .returned (.tuple #[.slice V n cv, .slice V' n cv']) ∧ Rd w' 1 V n ((lvL xs (baseL level) n).map (Value.int .i64)) ∧ Rd w' 1 V' n ((clL xs (baseL level) n).map (Value.int .i64))) ∧ Below w.heap.size w w' := by
  have hlen : xs.length = n := by simpa using hr.len1
  have HL := Lib.hid hlen
  have HR := Lib.hid hr
  obtain ⟨base, hbase⟩ : ∃ base, baseL level = base := ⟨_, rfl⟩
  rw [hbase]
  have hmm : min (max level 0) 1 = base := hbase
  obtain ⟨l0, hl0⟩ : ∃ l0, (if level < 0 then 0 else level) = l0 := ⟨_, rfl⟩
  have hmi : (if 1 < l0 then 1 else l0) = base := by
    rw [← hmm, ← hl0]
    repeat' split
    all_goals omega
  have hns : newS base = stE xs base 0 := rfl
  have HN := Lib.hid (rsNew_any base w)
  rw [hns] at HN
  clear hr hlen hbase hmm hns
  go_enter Try.func30, Try.ntmps30
  go_wp2_with fail
  refine HN.out.mono ?_
  rintro e w1 ⟨⟨b, rfl, hA1, hbl⟩, hb1⟩
  have HX1 : Hid (RxAt w w1 w1.heap.size b (stE xs base 0) (.slice none 0 0) (.slice none 0 0) 0 0 (lvL xs base 0) (clL xs base 0)) := Lib.hid ⟨hA1, ⟨rfl, .inl ⟨rfl, rfl⟩⟩, ⟨rfl, .inl ⟨rfl, rfl⟩⟩, .inl rfl, hb1, hA1.lt, Nat.le_refl _, hbl⟩
  clear hA1 hbl hb1 hmi hl0
  go_wp2_with fail
  go_loopw [9, 7, 8] (fun i u7 u8 wr => ∃ k : Nat, k ≤ n ∧ i = .int .i64 (k : Int) ∧ RxAt w wr w1.heap.size b (stE xs base k) u7 u8 k k (lvL xs base k) (clL xs base k)) (fun i _ _ _ => n - (intOf i).toNat)
  case atStart => exact ⟨0, Nat.zero_le _, rfl, HX1.out⟩
  case round =>
    obtain ⟨k, hk, rfl, hX⟩ := hrel
    have HX := Lib.hid hX
    obtain ⟨V7, c7, rfl, hc7⟩ := own_form hX.r7
    obtain ⟨V8, c8, rfl, hc8⟩ := own_form hX.r8
    by_cases hlt : k < n
    · obtain ⟨x, hx⟩ : ∃ x, xs[k]? = some x := ⟨_, List.getElem?_eq_getElem (by rw [HL.out]; exact hlt)⟩
      have hRd : Rd wr 1 A n (xs.map (Value.int .i64)) := HR.out.below hX.low_
      obtain ⟨ad, rfl, hab, hcell⟩ := hRd.at_ hlt
      have cx := hcell _ (by rw [List.getElem?_map, hx]; rfl)
      have hxd : xs.getD k 0 = x := by rw [List.getD_eq_getElem?_getD, hx]; rfl
      have HXK := Lib.hid hx
      have hkn : (k : Int) < (n : Int) := by omega
      have hk0 : (0 : Int) ≤ (k : Int) := by omega
      have hk5 : (k : Int) ≤ 100000 := by omega
      have hex : exA xs base k = outX base (stepA (stE xs base k) x) x := by unfold exA; rw [hxd]
      have hst : stE xs base (k + 1) = stepB xs k x (stepA (stE xs base k) x) := by rw [stE, hxd]
      have hfw := few_st xs base k
      have HLV := Lib.hid (lvL_step xs base k)
      have HCL := Lib.hid (clL_step xs base k)
      obtain ⟨s, hs⟩ : ∃ s, stE xs base k = s := ⟨_, rfl⟩
      rw [hs] at HX hex hst hfw
      have hfa : s.a ≤ 100000000 := by have := hfw.1; omega
      have hfb : s.b ≤ 100000000 := by have := hfw.2.1; omega
      have hfc : s.c ≤ 100000000 := by have := hfw.2.2; omega
      clear hcell hx hxd hRd hX hs hfw
      by_cases h22 : x = 22
      · subst h22
        have hEX : exA xs base k = ((endIS s).top.lv, (givS (endIS s) 22)) := by rw [hex]; simp [stepA, outX, leftC]
        have hST : stE xs base (k + 1) = endIS s := by rw [hst]; (unfold stepA stepB; simp [opB])
        have HST := Lib.hid hST
        rw [hEX] at HLV HCL
        simp only at HLV HCL
        clear hEX hST hex hst
        go_wp2_with fail
        refine (rsEndI_any b s wr HX.out.rs hfa hfc).mono ?_
        rintro e w2 ⟨rfl, hA2, hk2⟩
        have HX2 := Lib.hid (HX.out.call hA2 hk2)
        clear hA2 hk2
        have HT := Lib.hid (rsTop_any b (endIS s) w2 HX2.out.rs)
        unfold entV at HT
        have fd := entR_lv (Stk.top (endIS s)).lv (Stk.top (endIS s)).ov (Stk.top (endIS s)).is
        go_wp2_with fail
        refine HT.out.mono ?_
        rintro e w3 ⟨rfl, hb3⟩
        have HX3 := Lib.hid (HX2.out.low hb3)
        clear hb3
        go_wp2_with fail
        refine (rxGiven_any b (endIS s) 22 w3 HX3.out.rs).mono ?_
        rintro e w4 ⟨rfl, hb4⟩
        have HX4 := Lib.hid (HX3.out.low hb4)
        clear hb4
        have HLF := Lib.hid (rxLeft_any 22 w4)
        rw [show leftC 22 = false from by decide] at HLF
        go_wp2_with fail
        refine HLF.out.mono ?_
        rintro e w5 ⟨rfl, rfl⟩
        go_wp2_with (first
          | (at_builtin; refine wpList_app rfl _ _ _ rfl intSliceM (by decide) (.slice V8 k c8) k _ rfl (HX5.out.r8.alloc _) ⟨w6.heap.size, 0, none⟩ 1 1 [.int .i64 (givS (endIS s) 22)] rfl rfl (cells_new w6 [_] _) (oneInt _ _) (by omega) (by unfold maxLen; omega) (by have := HX5.out.hB; simp; omega) ?_; intro v8 w7 hown7 hg7 hat7; have HX6 := Lib.hid ((HX5.out.low (below_new w6 _)).app8 hown7 hg7 (by simpa using hat7)))
          | (at_builtin; refine wpList_app rfl _ _ _ rfl intSliceM (by decide) (.slice V7 k c7) k _ rfl (HX4.out.r7.alloc _) ⟨w4.heap.size, 0, none⟩ 1 1 [.int .i64 (endIS s).top.lv] rfl rfl (cells_new w4 [_] _) (oneInt _ _) (by omega) (by unfold maxLen; omega) (by have := HX4.out.hB; simp; omega) ?_; intro v7 w6 hown6 hg6 hat6; have HX5 := Lib.hid ((HX4.out.low (below_new w4 _)).app7 hown6 hg6 (by simpa using hat6)))
          | fail)
        rw [← HLV.out, ← HCL.out] at HX6
        clear hown6 hg6 hat6 hown7 hg7 hat7
        rw [← HST.out] at HX6
        go_wp2_with fail
        go_roundw
        case rel => exact ⟨k + 1, by omega, by go_num, HX6.out⟩
        case measure => simp [intOf]; omega
      by_cases h10 : x = 10
      · subst h10
        have hEX : exA xs base k = (base, 10) := by rw [hex]; simp [outX]
        have hST : stE xs base (k + 1) = s := by rw [hst]; (unfold stepA stepB; simp [opB])
        have HST := Lib.hid hST
        rw [hEX] at HLV HCL
        simp only at HLV HCL
        clear hEX hST hex hst
        have HX2 := HX
        have HT := Lib.hid (rsTop_any b s wr HX2.out.rs)
        unfold entV at HT
        have fd := entR_lv (Stk.top s).lv (Stk.top s).ov (Stk.top s).is
        go_wp2_with fail
        refine HT.out.mono ?_
        rintro e w3 ⟨rfl, hb3⟩
        have HX3 := Lib.hid (HX2.out.low hb3)
        clear hb3
        go_wp2_with fail
        refine (rxGiven_any b s 10 w3 HX3.out.rs).mono ?_
        rintro e w4 ⟨rfl, hb4⟩
        have HX4 := Lib.hid (HX3.out.low hb4)
        clear hb4
        go_wp2_with (first
          | (at_builtin; refine wpList_app rfl _ _ _ rfl intSliceM (by decide) (.slice V8 k c8) k _ rfl (HX5.out.r8.alloc _) ⟨w6.heap.size, 0, none⟩ 1 1 [.int .i64 10] rfl rfl (cells_new w6 [_] _) (oneInt _ _) (by omega) (by unfold maxLen; omega) (by have := HX5.out.hB; simp; omega) ?_; intro v8 w7 hown7 hg7 hat7; have HX6 := Lib.hid ((HX5.out.low (below_new w6 _)).app8 hown7 hg7 (by simpa using hat7)))
          | (at_builtin; refine wpList_app rfl _ _ _ rfl intSliceM (by decide) (.slice V7 k c7) k _ rfl (HX4.out.r7.alloc _) ⟨w4.heap.size, 0, none⟩ 1 1 [.int .i64 base] rfl rfl (cells_new w4 [_] _) (oneInt _ _) (by omega) (by unfold maxLen; omega) (by have := HX4.out.hB; simp; omega) ?_; intro v7 w6 hown6 hg6 hat6; have HX5 := Lib.hid ((HX4.out.low (below_new w4 _)).app7 hown6 hg6 (by simpa using hat6)))
          | fail)
        rw [← HLV.out, ← HCL.out] at HX6
        clear hown6 hg6 hat6 hown7 hg7 hat7
        rw [← HST.out] at HX6
        go_wp2_with fail
        go_roundw
        case rel => exact ⟨k + 1, by omega, by go_num, HX6.out⟩
        case measure => simp [intOf]; omega
      by_cases h16 : x = 16
      · subst h16
        have hEX : exA xs base k = (s.top.lv, 9) := by rw [hex]; simp [stepA, outX, leftC]
        have hST : stE xs base (k + 1) = (embS s true 13).2 := by rw [hst]; simp [stepA, stepB]
        have HST := Lib.hid hST
        rw [hEX] at HLV HCL
        simp only at HLV HCL
        clear hEX hST hex hst
        have HX2 := HX
        have HT := Lib.hid (rsTop_any b s wr HX2.out.rs)
        unfold entV at HT
        have fd := entR_lv (Stk.top s).lv (Stk.top s).ov (Stk.top s).is
        go_wp2_with fail
        refine HT.out.mono ?_
        rintro e w3 ⟨rfl, hb3⟩
        have HX3 := Lib.hid (HX2.out.low hb3)
        clear hb3
        go_wp2_with fail
        refine (rxGiven_any b s 16 w3 HX3.out.rs).mono ?_
        rintro e w4 ⟨rfl, hb4⟩
        have HX4 := Lib.hid (HX3.out.low hb4)
        clear hb4
        have HLF := Lib.hid (rxLeft_any 16 w4)
        rw [show leftC 16 = true from by decide] at HLF
        go_wp2_with fail
        refine HLF.out.mono ?_
        rintro e w5 ⟨rfl, rfl⟩
        go_wp2_with (first
          | (at_builtin; refine wpList_app rfl _ _ _ rfl intSliceM (by decide) (.slice V8 k c8) k _ rfl (HX5.out.r8.alloc _) ⟨w6.heap.size, 0, none⟩ 1 1 [.int .i64 9] rfl rfl (cells_new w6 [_] _) (oneInt _ _) (by omega) (by unfold maxLen; omega) (by have := HX5.out.hB; simp; omega) ?_; intro v8 w7 hown7 hg7 hat7; have HX6 := Lib.hid ((HX5.out.low (below_new w6 _)).app8 hown7 hg7 (by simpa using hat7)))
          | (at_builtin; refine wpList_app rfl _ _ _ rfl intSliceM (by decide) (.slice V7 k c7) k _ rfl (HX4.out.r7.alloc _) ⟨w4.heap.size, 0, none⟩ 1 1 [.int .i64 s.top.lv] rfl rfl (cells_new w4 [_] _) (oneInt _ _) (by omega) (by unfold maxLen; omega) (by have := HX4.out.hB; simp; omega) ?_; intro v7 w6 hown6 hg6 hat6; have HX5 := Lib.hid ((HX4.out.low (below_new w4 _)).app7 hown6 hg6 (by simpa using hat6)))
          | fail)
        rw [← HLV.out, ← HCL.out] at HX6
        clear hown6 hg6 hat6 hown7 hg7 hat7
        go_wp2_with fail
        refine (rsEmbed_any b s true 13 w7 HX6.out.rs hfb).mono ?_
        rintro e w8 ⟨rfl, hA8, hk8⟩
        have HX9 := Lib.hid (HX6.out.call hA8 hk8)
        clear hA8 hk8
        rw [← HST.out] at HX9
        go_wp2_with fail
        go_roundw
        case rel => exact ⟨k + 1, by omega, by go_num, HX9.out⟩
        case measure => simp [intOf]; omega
      by_cases h14 : x = 14
      · subst h14
        have hEX : exA xs base k = (s.top.lv, 9) := by rw [hex]; simp [stepA, outX, leftC]
        have hST : stE xs base (k + 1) = (embS s false 13).2 := by rw [hst]; simp [stepA, stepB]
        have HST := Lib.hid hST
        rw [hEX] at HLV HCL
        simp only at HLV HCL
        clear hEX hST hex hst
        have HX2 := HX
        have HT := Lib.hid (rsTop_any b s wr HX2.out.rs)
        unfold entV at HT
        have fd := entR_lv (Stk.top s).lv (Stk.top s).ov (Stk.top s).is
        go_wp2_with fail
        refine HT.out.mono ?_
        rintro e w3 ⟨rfl, hb3⟩
        have HX3 := Lib.hid (HX2.out.low hb3)
        clear hb3
        go_wp2_with fail
        refine (rxGiven_any b s 14 w3 HX3.out.rs).mono ?_
        rintro e w4 ⟨rfl, hb4⟩
        have HX4 := Lib.hid (HX3.out.low hb4)
        clear hb4
        have HLF := Lib.hid (rxLeft_any 14 w4)
        rw [show leftC 14 = true from by decide] at HLF
        go_wp2_with fail
        refine HLF.out.mono ?_
        rintro e w5 ⟨rfl, rfl⟩
        go_wp2_with (first
          | (at_builtin; refine wpList_app rfl _ _ _ rfl intSliceM (by decide) (.slice V8 k c8) k _ rfl (HX5.out.r8.alloc _) ⟨w6.heap.size, 0, none⟩ 1 1 [.int .i64 9] rfl rfl (cells_new w6 [_] _) (oneInt _ _) (by omega) (by unfold maxLen; omega) (by have := HX5.out.hB; simp; omega) ?_; intro v8 w7 hown7 hg7 hat7; have HX6 := Lib.hid ((HX5.out.low (below_new w6 _)).app8 hown7 hg7 (by simpa using hat7)))
          | (at_builtin; refine wpList_app rfl _ _ _ rfl intSliceM (by decide) (.slice V7 k c7) k _ rfl (HX4.out.r7.alloc _) ⟨w4.heap.size, 0, none⟩ 1 1 [.int .i64 s.top.lv] rfl rfl (cells_new w4 [_] _) (oneInt _ _) (by omega) (by unfold maxLen; omega) (by have := HX4.out.hB; simp; omega) ?_; intro v7 w6 hown6 hg6 hat6; have HX5 := Lib.hid ((HX4.out.low (below_new w4 _)).app7 hown6 hg6 (by simpa using hat6)))
          | fail)
        rw [← HLV.out, ← HCL.out] at HX6
        clear hown6 hg6 hat6 hown7 hg7 hat7
        go_wp2_with fail
        refine (rsEmbed_any b s false 13 w7 HX6.out.rs hfb).mono ?_
        rintro e w8 ⟨rfl, hA8, hk8⟩
        have HX9 := Lib.hid (HX6.out.call hA8 hk8)
        clear hA8 hk8
        rw [← HST.out] at HX9
        go_wp2_with fail
        go_roundw
        case rel => exact ⟨k + 1, by omega, by go_num, HX9.out⟩
        case measure => simp [intOf]; omega
      by_cases h17 : x = 17
      · subst h17
        have hEX : exA xs base k = (s.top.lv, 9) := by rw [hex]; simp [stepA, outX, leftC]
        have hST : stE xs base (k + 1) = (embS s true 1).2 := by rw [hst]; simp [stepA, stepB]
        have HST := Lib.hid hST
        rw [hEX] at HLV HCL
        simp only at HLV HCL
        clear hEX hST hex hst
        have HX2 := HX
        have HT := Lib.hid (rsTop_any b s wr HX2.out.rs)
        unfold entV at HT
        have fd := entR_lv (Stk.top s).lv (Stk.top s).ov (Stk.top s).is
        go_wp2_with fail
        refine HT.out.mono ?_
        rintro e w3 ⟨rfl, hb3⟩
        have HX3 := Lib.hid (HX2.out.low hb3)
        clear hb3
        go_wp2_with fail
        refine (rxGiven_any b s 17 w3 HX3.out.rs).mono ?_
        rintro e w4 ⟨rfl, hb4⟩
        have HX4 := Lib.hid (HX3.out.low hb4)
        clear hb4
        have HLF := Lib.hid (rxLeft_any 17 w4)
        rw [show leftC 17 = true from by decide] at HLF
        go_wp2_with fail
        refine HLF.out.mono ?_
        rintro e w5 ⟨rfl, rfl⟩
        go_wp2_with (first
          | (at_builtin; refine wpList_app rfl _ _ _ rfl intSliceM (by decide) (.slice V8 k c8) k _ rfl (HX5.out.r8.alloc _) ⟨w6.heap.size, 0, none⟩ 1 1 [.int .i64 9] rfl rfl (cells_new w6 [_] _) (oneInt _ _) (by omega) (by unfold maxLen; omega) (by have := HX5.out.hB; simp; omega) ?_; intro v8 w7 hown7 hg7 hat7; have HX6 := Lib.hid ((HX5.out.low (below_new w6 _)).app8 hown7 hg7 (by simpa using hat7)))
          | (at_builtin; refine wpList_app rfl _ _ _ rfl intSliceM (by decide) (.slice V7 k c7) k _ rfl (HX4.out.r7.alloc _) ⟨w4.heap.size, 0, none⟩ 1 1 [.int .i64 s.top.lv] rfl rfl (cells_new w4 [_] _) (oneInt _ _) (by omega) (by unfold maxLen; omega) (by have := HX4.out.hB; simp; omega) ?_; intro v7 w6 hown6 hg6 hat6; have HX5 := Lib.hid ((HX4.out.low (below_new w4 _)).app7 hown6 hg6 (by simpa using hat6)))
          | fail)
        rw [← HLV.out, ← HCL.out] at HX6
        clear hown6 hg6 hat6 hown7 hg7 hat7
        go_wp2_with fail
        refine (rsEmbed_any b s true 1 w7 HX6.out.rs hfb).mono ?_
        rintro e w8 ⟨rfl, hA8, hk8⟩
        have HX9 := Lib.hid (HX6.out.call hA8 hk8)
        clear hA8 hk8
        rw [← HST.out] at HX9
        go_wp2_with fail
        go_roundw
        case rel => exact ⟨k + 1, by omega, by go_num, HX9.out⟩
        case measure => simp [intOf]; omega
      by_cases h15 : x = 15
      · subst h15
        have hEX : exA xs base k = (s.top.lv, 9) := by rw [hex]; simp [stepA, outX, leftC]
        have hST : stE xs base (k + 1) = (embS s false 0).2 := by rw [hst]; simp [stepA, stepB]
        have HST := Lib.hid hST
        rw [hEX] at HLV HCL
        simp only at HLV HCL
        clear hEX hST hex hst
        have HX2 := HX
        have HT := Lib.hid (rsTop_any b s wr HX2.out.rs)
        unfold entV at HT
        have fd := entR_lv (Stk.top s).lv (Stk.top s).ov (Stk.top s).is
        go_wp2_with fail
        refine HT.out.mono ?_
        rintro e w3 ⟨rfl, hb3⟩
        have HX3 := Lib.hid (HX2.out.low hb3)
        clear hb3
        go_wp2_with fail
        refine (rxGiven_any b s 15 w3 HX3.out.rs).mono ?_
        rintro e w4 ⟨rfl, hb4⟩
        have HX4 := Lib.hid (HX3.out.low hb4)
        clear hb4
        have HLF := Lib.hid (rxLeft_any 15 w4)
        rw [show leftC 15 = true from by decide] at HLF
        go_wp2_with fail
        refine HLF.out.mono ?_
        rintro e w5 ⟨rfl, rfl⟩
        go_wp2_with (first
          | (at_builtin; refine wpList_app rfl _ _ _ rfl intSliceM (by decide) (.slice V8 k c8) k _ rfl (HX5.out.r8.alloc _) ⟨w6.heap.size, 0, none⟩ 1 1 [.int .i64 9] rfl rfl (cells_new w6 [_] _) (oneInt _ _) (by omega) (by unfold maxLen; omega) (by have := HX5.out.hB; simp; omega) ?_; intro v8 w7 hown7 hg7 hat7; have HX6 := Lib.hid ((HX5.out.low (below_new w6 _)).app8 hown7 hg7 (by simpa using hat7)))
          | (at_builtin; refine wpList_app rfl _ _ _ rfl intSliceM (by decide) (.slice V7 k c7) k _ rfl (HX4.out.r7.alloc _) ⟨w4.heap.size, 0, none⟩ 1 1 [.int .i64 s.top.lv] rfl rfl (cells_new w4 [_] _) (oneInt _ _) (by omega) (by unfold maxLen; omega) (by have := HX4.out.hB; simp; omega) ?_; intro v7 w6 hown6 hg6 hat6; have HX5 := Lib.hid ((HX4.out.low (below_new w4 _)).app7 hown6 hg6 (by simpa using hat6)))
          | fail)
        rw [← HLV.out, ← HCL.out] at HX6
        clear hown6 hg6 hat6 hown7 hg7 hat7
        go_wp2_with fail
        refine (rsEmbed_any b s false 0 w7 HX6.out.rs hfb).mono ?_
        rintro e w8 ⟨rfl, hA8, hk8⟩
        have HX9 := Lib.hid (HX6.out.call hA8 hk8)
        clear hA8 hk8
        rw [← HST.out] at HX9
        go_wp2_with fail
        go_roundw
        case rel => exact ⟨k + 1, by omega, by go_num, HX9.out⟩
        case measure => simp [intOf]; omega
      by_cases h18 : x = 18
      · subst h18
        have hEX : exA xs base k = (s.top.lv, 9) := by rw [hex]; simp [stepA, outX, leftC]
        have hST : stE xs base (k + 1) = endES s := by rw [hst]; (unfold stepA stepB; simp)
        have HST := Lib.hid hST
        rw [hEX] at HLV HCL
        simp only at HLV HCL
        clear hEX hST hex hst
        have HX2 := HX
        have HT := Lib.hid (rsTop_any b s wr HX2.out.rs)
        unfold entV at HT
        have fd := entR_lv (Stk.top s).lv (Stk.top s).ov (Stk.top s).is
        go_wp2_with fail
        refine HT.out.mono ?_
        rintro e w3 ⟨rfl, hb3⟩
        have HX3 := Lib.hid (HX2.out.low hb3)
        clear hb3
        go_wp2_with fail
        refine (rxGiven_any b s 18 w3 HX3.out.rs).mono ?_
        rintro e w4 ⟨rfl, hb4⟩
        have HX4 := Lib.hid (HX3.out.low hb4)
        clear hb4
        have HLF := Lib.hid (rxLeft_any 18 w4)
        rw [show leftC 18 = true from by decide] at HLF
        go_wp2_with fail
        refine HLF.out.mono ?_
        rintro e w5 ⟨rfl, rfl⟩
        go_wp2_with (first
          | (at_builtin; refine wpList_app rfl _ _ _ rfl intSliceM (by decide) (.slice V8 k c8) k _ rfl (HX5.out.r8.alloc _) ⟨w6.heap.size, 0, none⟩ 1 1 [.int .i64 9] rfl rfl (cells_new w6 [_] _) (oneInt _ _) (by omega) (by unfold maxLen; omega) (by have := HX5.out.hB; simp; omega) ?_; intro v8 w7 hown7 hg7 hat7; have HX6 := Lib.hid ((HX5.out.low (below_new w6 _)).app8 hown7 hg7 (by simpa using hat7)))
          | (at_builtin; refine wpList_app rfl _ _ _ rfl intSliceM (by decide) (.slice V7 k c7) k _ rfl (HX4.out.r7.alloc _) ⟨w4.heap.size, 0, none⟩ 1 1 [.int .i64 s.top.lv] rfl rfl (cells_new w4 [_] _) (oneInt _ _) (by omega) (by unfold maxLen; omega) (by have := HX4.out.hB; simp; omega) ?_; intro v7 w6 hown6 hg6 hat6; have HX5 := Lib.hid ((HX4.out.low (below_new w4 _)).app7 hown6 hg6 (by simpa using hat6)))
          | fail)
        rw [← HLV.out, ← HCL.out] at HX6
        clear hown6 hg6 hat6 hown7 hg7 hat7
        go_wp2_with fail
        refine (rsEndE_any b s w7 HX6.out.rs hfb).mono ?_
        rintro e w8 ⟨rfl, hA8, hk8⟩
        have HX9 := Lib.hid (HX6.out.call hA8 hk8)
        clear hA8 hk8
        rw [← HST.out] at HX9
        go_wp2_with fail
        go_roundw
        case rel => exact ⟨k + 1, by omega, by go_num, HX9.out⟩
        case measure => simp [intOf]; omega
      by_cases h20 : x = 20
      · subst h20
        have hEX : exA xs base k = (s.top.lv, (givS s 20)) := by rw [hex]; simp [stepA, outX, leftC]
        have hST : stE xs base (k + 1) = (isoS s (rightC xs k)).2 := by rw [hst]; (unfold stepA stepB; simp [opB])
        have HST := Lib.hid hST
        rw [hEX] at HLV HCL
        simp only at HLV HCL
        clear hEX hST hex hst
        have HX2 := HX
        have HT := Lib.hid (rsTop_any b s wr HX2.out.rs)
        unfold entV at HT
        have fd := entR_lv (Stk.top s).lv (Stk.top s).ov (Stk.top s).is
        go_wp2_with fail
        refine HT.out.mono ?_
        rintro e w3 ⟨rfl, hb3⟩
        have HX3 := Lib.hid (HX2.out.low hb3)
        clear hb3
        go_wp2_with fail
        refine (rxGiven_any b s 20 w3 HX3.out.rs).mono ?_
        rintro e w4 ⟨rfl, hb4⟩
        have HX4 := Lib.hid (HX3.out.low hb4)
        clear hb4
        have HLF := Lib.hid (rxLeft_any 20 w4)
        rw [show leftC 20 = false from by decide] at HLF
        go_wp2_with fail
        refine HLF.out.mono ?_
        rintro e w5 ⟨rfl, rfl⟩
        go_wp2_with (first
          | (at_builtin; refine wpList_app rfl _ _ _ rfl intSliceM (by decide) (.slice V8 k c8) k _ rfl (HX5.out.r8.alloc _) ⟨w6.heap.size, 0, none⟩ 1 1 [.int .i64 (givS s 20)] rfl rfl (cells_new w6 [_] _) (oneInt _ _) (by omega) (by unfold maxLen; omega) (by have := HX5.out.hB; simp; omega) ?_; intro v8 w7 hown7 hg7 hat7; have HX6 := Lib.hid ((HX5.out.low (below_new w6 _)).app8 hown7 hg7 (by simpa using hat7)))
          | (at_builtin; refine wpList_app rfl _ _ _ rfl intSliceM (by decide) (.slice V7 k c7) k _ rfl (HX4.out.r7.alloc _) ⟨w4.heap.size, 0, none⟩ 1 1 [.int .i64 s.top.lv] rfl rfl (cells_new w4 [_] _) (oneInt _ _) (by omega) (by unfold maxLen; omega) (by have := HX4.out.hB; simp; omega) ?_; intro v7 w6 hown6 hg6 hat6; have HX5 := Lib.hid ((HX4.out.low (below_new w4 _)).app7 hown6 hg6 (by simpa using hat6)))
          | fail)
        rw [← HLV.out, ← HCL.out] at HX6
        clear hown6 hg6 hat6 hown7 hg7 hat7
        have HRT := Lib.hid (rxRight_any (some ad) n c k xs 20 w7 (HR.out.below HX6.out.low_) hn hnc HXK.out)
        go_wp2_with fail
        refine HRT.out.mono ?_
        rintro e w10 ⟨rfl, hb10⟩
        have HX7 := Lib.hid (HX6.out.low hb10)
        clear hb10
        go_wp2_with fail
        refine (rsIsolate_any b s (rightC xs k) w10 HX7.out.rs hfa hfc).mono ?_
        rintro e w8 ⟨rfl, hA8, hk8⟩
        have HX9 := Lib.hid (HX7.out.call hA8 hk8)
        clear hA8 hk8
        rw [← HST.out] at HX9
        go_wp2_with fail
        go_roundw
        case rel => exact ⟨k + 1, by omega, by go_num, HX9.out⟩
        case measure => simp [intOf]; omega
      by_cases h19 : x = 19
      · subst h19
        have hEX : exA xs base k = (s.top.lv, (givS s 19)) := by rw [hex]; simp [stepA, outX, leftC]
        have hST : stE xs base (k + 1) = (isoS s (rightC xs k)).2 := by rw [hst]; (unfold stepA stepB; simp [opB])
        have HST := Lib.hid hST
        rw [hEX] at HLV HCL
        simp only at HLV HCL
        clear hEX hST hex hst
        have HX2 := HX
        have HT := Lib.hid (rsTop_any b s wr HX2.out.rs)
        unfold entV at HT
        have fd := entR_lv (Stk.top s).lv (Stk.top s).ov (Stk.top s).is
        go_wp2_with fail
        refine HT.out.mono ?_
        rintro e w3 ⟨rfl, hb3⟩
        have HX3 := Lib.hid (HX2.out.low hb3)
        clear hb3
        go_wp2_with fail
        refine (rxGiven_any b s 19 w3 HX3.out.rs).mono ?_
        rintro e w4 ⟨rfl, hb4⟩
        have HX4 := Lib.hid (HX3.out.low hb4)
        clear hb4
        have HLF := Lib.hid (rxLeft_any 19 w4)
        rw [show leftC 19 = false from by decide] at HLF
        go_wp2_with fail
        refine HLF.out.mono ?_
        rintro e w5 ⟨rfl, rfl⟩
        go_wp2_with (first
          | (at_builtin; refine wpList_app rfl _ _ _ rfl intSliceM (by decide) (.slice V8 k c8) k _ rfl (HX5.out.r8.alloc _) ⟨w6.heap.size, 0, none⟩ 1 1 [.int .i64 (givS s 19)] rfl rfl (cells_new w6 [_] _) (oneInt _ _) (by omega) (by unfold maxLen; omega) (by have := HX5.out.hB; simp; omega) ?_; intro v8 w7 hown7 hg7 hat7; have HX6 := Lib.hid ((HX5.out.low (below_new w6 _)).app8 hown7 hg7 (by simpa using hat7)))
          | (at_builtin; refine wpList_app rfl _ _ _ rfl intSliceM (by decide) (.slice V7 k c7) k _ rfl (HX4.out.r7.alloc _) ⟨w4.heap.size, 0, none⟩ 1 1 [.int .i64 s.top.lv] rfl rfl (cells_new w4 [_] _) (oneInt _ _) (by omega) (by unfold maxLen; omega) (by have := HX4.out.hB; simp; omega) ?_; intro v7 w6 hown6 hg6 hat6; have HX5 := Lib.hid ((HX4.out.low (below_new w4 _)).app7 hown6 hg6 (by simpa using hat6)))
          | fail)
        rw [← HLV.out, ← HCL.out] at HX6
        clear hown6 hg6 hat6 hown7 hg7 hat7
        have HRT := Lib.hid (rxRight_any (some ad) n c k xs 19 w7 (HR.out.below HX6.out.low_) hn hnc HXK.out)
        go_wp2_with fail
        refine HRT.out.mono ?_
        rintro e w10 ⟨rfl, hb10⟩
        have HX7 := Lib.hid (HX6.out.low hb10)
        clear hb10
        go_wp2_with fail
        refine (rsIsolate_any b s (rightC xs k) w10 HX7.out.rs hfa hfc).mono ?_
        rintro e w8 ⟨rfl, hA8, hk8⟩
        have HX9 := Lib.hid (HX7.out.call hA8 hk8)
        clear hA8 hk8
        rw [← HST.out] at HX9
        go_wp2_with fail
        go_roundw
        case rel => exact ⟨k + 1, by omega, by go_num, HX9.out⟩
        case measure => simp [intOf]; omega
      by_cases h21 : x = 21
      · subst h21
        have hEX : exA xs base k = (s.top.lv, (givS s 21)) := by rw [hex]; simp [stepA, outX, leftC]
        have hST : stE xs base (k + 1) = (isoS s (rightC xs k)).2 := by rw [hst]; (unfold stepA stepB; simp [opB])
        have HST := Lib.hid hST
        rw [hEX] at HLV HCL
        simp only at HLV HCL
        clear hEX hST hex hst
        have HX2 := HX
        have HT := Lib.hid (rsTop_any b s wr HX2.out.rs)
        unfold entV at HT
        have fd := entR_lv (Stk.top s).lv (Stk.top s).ov (Stk.top s).is
        go_wp2_with fail
        refine HT.out.mono ?_
        rintro e w3 ⟨rfl, hb3⟩
        have HX3 := Lib.hid (HX2.out.low hb3)
        clear hb3
        go_wp2_with fail
        refine (rxGiven_any b s 21 w3 HX3.out.rs).mono ?_
        rintro e w4 ⟨rfl, hb4⟩
        have HX4 := Lib.hid (HX3.out.low hb4)
        clear hb4
        have HLF := Lib.hid (rxLeft_any 21 w4)
        rw [show leftC 21 = false from by decide] at HLF
        go_wp2_with fail
        refine HLF.out.mono ?_
        rintro e w5 ⟨rfl, rfl⟩
        go_wp2_with (first
          | (at_builtin; refine wpList_app rfl _ _ _ rfl intSliceM (by decide) (.slice V8 k c8) k _ rfl (HX5.out.r8.alloc _) ⟨w6.heap.size, 0, none⟩ 1 1 [.int .i64 (givS s 21)] rfl rfl (cells_new w6 [_] _) (oneInt _ _) (by omega) (by unfold maxLen; omega) (by have := HX5.out.hB; simp; omega) ?_; intro v8 w7 hown7 hg7 hat7; have HX6 := Lib.hid ((HX5.out.low (below_new w6 _)).app8 hown7 hg7 (by simpa using hat7)))
          | (at_builtin; refine wpList_app rfl _ _ _ rfl intSliceM (by decide) (.slice V7 k c7) k _ rfl (HX4.out.r7.alloc _) ⟨w4.heap.size, 0, none⟩ 1 1 [.int .i64 s.top.lv] rfl rfl (cells_new w4 [_] _) (oneInt _ _) (by omega) (by unfold maxLen; omega) (by have := HX4.out.hB; simp; omega) ?_; intro v7 w6 hown6 hg6 hat6; have HX5 := Lib.hid ((HX4.out.low (below_new w4 _)).app7 hown6 hg6 (by simpa using hat6)))
          | fail)
        rw [← HLV.out, ← HCL.out] at HX6
        clear hown6 hg6 hat6 hown7 hg7 hat7
        have HRT := Lib.hid (rxRight_any (some ad) n c k xs 21 w7 (HR.out.below HX6.out.low_) hn hnc HXK.out)
        go_wp2_with fail
        refine HRT.out.mono ?_
        rintro e w10 ⟨rfl, hb10⟩
        have HX7 := Lib.hid (HX6.out.low hb10)
        clear hb10
        go_wp2_with fail
        refine (rsIsolate_any b s (rightC xs k) w10 HX7.out.rs hfa hfc).mono ?_
        rintro e w8 ⟨rfl, hA8, hk8⟩
        have HX9 := Lib.hid (HX7.out.call hA8 hk8)
        clear hA8 hk8
        rw [← HST.out] at HX9
        go_wp2_with fail
        go_roundw
        case rel => exact ⟨k + 1, by omega, by go_num, HX9.out⟩
        case measure => simp [intOf]; omega
      by_cases h9 : x = 9
      · subst h9
        have hEX : exA xs base k = (s.top.lv, 9) := by rw [hex]; simp [stepA, outX, leftC]
        have hST : stE xs base (k + 1) = s := by rw [hst]; (unfold stepA stepB; simp [opB])
        have HST := Lib.hid hST
        rw [hEX] at HLV HCL
        simp only at HLV HCL
        clear hEX hST hex hst
        have HX2 := HX
        have HT := Lib.hid (rsTop_any b s wr HX2.out.rs)
        unfold entV at HT
        have fd := entR_lv (Stk.top s).lv (Stk.top s).ov (Stk.top s).is
        go_wp2_with fail
        refine HT.out.mono ?_
        rintro e w3 ⟨rfl, hb3⟩
        have HX3 := Lib.hid (HX2.out.low hb3)
        clear hb3
        go_wp2_with fail
        refine (rxGiven_any b s 9 w3 HX3.out.rs).mono ?_
        rintro e w4 ⟨rfl, hb4⟩
        have HX4 := Lib.hid (HX3.out.low hb4)
        clear hb4
        have HLF := Lib.hid (rxLeft_any 9 w4)
        rw [show leftC 9 = true from by decide] at HLF
        go_wp2_with fail
        refine HLF.out.mono ?_
        rintro e w5 ⟨rfl, rfl⟩
        go_wp2_with (first
          | (at_builtin; refine wpList_app rfl _ _ _ rfl intSliceM (by decide) (.slice V8 k c8) k _ rfl (HX5.out.r8.alloc _) ⟨w6.heap.size, 0, none⟩ 1 1 [.int .i64 9] rfl rfl (cells_new w6 [_] _) (oneInt _ _) (by omega) (by unfold maxLen; omega) (by have := HX5.out.hB; simp; omega) ?_; intro v8 w7 hown7 hg7 hat7; have HX6 := Lib.hid ((HX5.out.low (below_new w6 _)).app8 hown7 hg7 (by simpa using hat7)))
          | (at_builtin; refine wpList_app rfl _ _ _ rfl intSliceM (by decide) (.slice V7 k c7) k _ rfl (HX4.out.r7.alloc _) ⟨w4.heap.size, 0, none⟩ 1 1 [.int .i64 s.top.lv] rfl rfl (cells_new w4 [_] _) (oneInt _ _) (by omega) (by unfold maxLen; omega) (by have := HX4.out.hB; simp; omega) ?_; intro v7 w6 hown6 hg6 hat6; have HX5 := Lib.hid ((HX4.out.low (below_new w4 _)).app7 hown6 hg6 (by simpa using hat6)))
          | fail)
        rw [← HLV.out, ← HCL.out] at HX6
        clear hown6 hg6 hat6 hown7 hg7 hat7
        rw [← HST.out] at HX6
        go_wp2_with fail
        go_roundw
        case rel => exact ⟨k + 1, by omega, by go_num, HX6.out⟩
        case measure => simp [intOf]; omega
      have g22 : (x == 22) = false := by simp [h22]
      have g10 : (x == 10) = false := by simp [h10]
      have g16 : (x == 16) = false := by simp [h16]
      have g14 : (x == 14) = false := by simp [h14]
      have g17 : (x == 17) = false := by simp [h17]
      have g15 : (x == 15) = false := by simp [h15]
      have g18 : (x == 18) = false := by simp [h18]
      have g20 : (x == 20) = false := by simp [h20]
      have g19 : (x == 19) = false := by simp [h19]
      have g21 : (x == 21) = false := by simp [h21]
      have g9 : (x == 9) = false := by simp [h9]
      have HAL := Lib.hid (show leftC x = false by unfold leftC; simp; omega)
      have HNX := Lib.hid (show ¬ x = 22 ∧ ¬ x = 10 ∧ ¬ x = 16 ∧ ¬ x = 14 ∧ ¬ x = 17 ∧ ¬ x = 15 ∧ ¬ x = 18 ∧ ¬ x = 20 ∧ ¬ x = 19 ∧ ¬ x = 21 ∧ ¬ x = 9 from ⟨h22, h10, h16, h14, h17, h15, h18, h20, h19, h21, h9⟩)
      have hEX : exA xs base k = (s.top.lv, (givS s x)) := by rw [hex]; (unfold stepA; rw [if_neg h22]; unfold outX; rw [if_neg h10, if_neg (by rw [HAL.out]; simp)])
      have hST : stE xs base (k + 1) = s := by rw [hst]; (unfold stepA stepB; rw [if_neg h22, if_neg h16, if_neg h14, if_neg h17, if_neg h15, if_neg h18, if_neg (by rw [opB_iff]; omega)])
      have HST := Lib.hid hST
      rw [hEX] at HLV HCL
      simp only at HLV HCL
      clear hEX hST hex hst h22 h10 h16 h14 h17 h15 h18 h20 h19 h21 h9
      have HX2 := HX
      have HT := Lib.hid (rsTop_any b s wr HX2.out.rs)
      unfold entV at HT
      have fd := entR_lv (Stk.top s).lv (Stk.top s).ov (Stk.top s).is
      go_wp2_with fail
      refine HT.out.mono ?_
      rintro e w3 ⟨rfl, hb3⟩
      have HX3 := Lib.hid (HX2.out.low hb3)
      clear hb3
      go_wp2_with fail
      refine (rxGiven_any b s x w3 HX3.out.rs).mono ?_
      rintro e w4 ⟨rfl, hb4⟩
      have HX4 := Lib.hid (HX3.out.low hb4)
      clear hb4
      have HLF := Lib.hid (rxLeft_any x w4)
      rw [show leftC x = false from HAL.out] at HLF
      go_wp2_with fail
      refine HLF.out.mono ?_
      rintro e w5 ⟨rfl, rfl⟩
      go_wp2_with (first
        | (at_builtin; refine wpList_app rfl _ _ _ rfl intSliceM (by decide) (.slice V8 k c8) k _ rfl (HX5.out.r8.alloc _) ⟨w6.heap.size, 0, none⟩ 1 1 [.int .i64 (givS s x)] rfl rfl (cells_new w6 [_] _) (oneInt _ _) (by omega) (by unfold maxLen; omega) (by have := HX5.out.hB; simp; omega) ?_; intro v8 w7 hown7 hg7 hat7; have HX6 := Lib.hid ((HX5.out.low (below_new w6 _)).app8 hown7 hg7 (by simpa using hat7)))
        | (at_builtin; refine wpList_app rfl _ _ _ rfl intSliceM (by decide) (.slice V7 k c7) k _ rfl (HX4.out.r7.alloc _) ⟨w4.heap.size, 0, none⟩ 1 1 [.int .i64 s.top.lv] rfl rfl (cells_new w4 [_] _) (oneInt _ _) (by omega) (by unfold maxLen; omega) (by have := HX4.out.hB; simp; omega) ?_; intro v7 w6 hown6 hg6 hat6; have HX5 := Lib.hid ((HX4.out.low (below_new w4 _)).app7 hown6 hg6 (by simpa using hat6)))
        | fail)
      rw [← HLV.out, ← HCL.out] at HX6
      clear hown6 hg6 hat6 hown7 hg7 hat7
      rw [← HST.out] at HX6
      go_wp2_with fail
      go_roundw
      case rel => exact ⟨k + 1, by omega, by go_num, HX6.out⟩
      case measure => simp [intOf]; omega
    · obtain rfl : k = n := by omega
      have HRA := Lib.hid (Rd.of_own hX.r7)
      have HRB := Lib.hid (Rd.of_own hX.r8)
      clear hX
      go_wp2
      exact bodyPost_ret (v := .tuple #[.slice V7 k c7, .slice V8 k c8]) (by simp [results, go_sem]) rfl ⟨⟨V7, c7, V8, c8, rfl, HRA.out, HRB.out⟩, HX.out.low_⟩
end Go.Proofs.Ytflbiblkphaagaa
