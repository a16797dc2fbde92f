/- Codes as bytes: narrow.appendCode, for each length of a sequence. -/
import Derived.Test.YtoopchpolcfdaaaDoorDecN2
import Derived.Deep.RegionHeld3
import Derived.Deep.AppendLies
import Derived.StillTactics
namespace Go.Proofs.YtoopchpolcfdaaaDoor
open Go.RowKit

theorem u8Slice : SliceOf Tryd.prog 39 5 1 1 := .mk_ (z := .int .u8 0) Tryd.underlying39 (by kernel_rfl) rfl
theorem u8_info : (Tryd.prog.info? 5).map (fun i => (i.zero, i.size, i.bytes)) = some (some (.int .u8 0), 1, 1) := by kernel_rfl

/-- What appendCode leaves. -/
def AppGives (base : Nat) (n : Nat) (xs : List Value) (c : Int) (w : World) (e : Ending) (w' : World) : Prop :=
  ∃ v', e = .returned v' ∧ w'.ownsRow base 5 1 v' (n + (oneN c).length) (xs ++ (oneN c).map (Value.int .u8)) ∧ Below base w w'

theorem append_ill (base : Nat) (v : Value) (n : Nat) (xs : List Value) (c : Int) (w : World) (hown : w.ownsRow base 5 1 v n xs) (hbase : base ≤ w.heap.size) (hn : n ≤ 100000000) (h1 : 1114240 ≤ c) (h2 : c ≤ 1114367) :
    Calls Tryd.prog 47 #[v, .int .i64 c] w (AppGives base n xs c w) := by
  have HO := Lib.hid (show oneN c = [c - 1114112] by rw [oneN_1 (sizeN_ill h1 h2)]; congr 1; omega)
  have hi : illNB c = true := decide_eq_true (by omega)
  go_enter Tryd.func47, Tryd.ntmps47
  go_wp2_with (first
    | (go_at_call 49; refine (isIllN_any c _).mono ?_; rintro e w' ⟨rfl, rfl⟩)
    | (at_builtin; refine wpList_app rfl _ _ _ rfl u8Slice (by decide) v n _ rfl (hown.alloc _) ⟨w.heap.size, 0, none⟩ 1 1 [.int .u8 (c - 1114112)] rfl rfl (cell_one_new _ _ _) (oneInt _ _) (by omega) (by unfold maxLen; omega) (Nat.le_trans hbase (by simp)) ?_; intro v1 w1 hown1 hg1 hat1))
  go_ret
  exact ⟨v1, rfl, by rw [HO.out]; exact hown1, below_app ((Below.refl _ _).alloc hbase _) hg1 (hown.alloc _) (Nat.le_trans hbase (by simp))⟩

set_option maxHeartbeats 2000000 in
theorem append_1 (base : Nat) (v : Value) (n : Nat) (xs : List Value) (c : Int) (w : World) (hs : TabN w) (hown : w.ownsRow base 5 1 v n xs) (hbase : base ≤ w.heap.size) (hg : 3 < base) (hn : n ≤ 100000000) (h1 : 0 ≤ c) (h2 : c < 128) :
    Calls Tryd.prog 47 #[v, .int .i64 c] w (AppGives base n xs c w) := by
  have hz := sizeN_1 h1 h2
  have HO := Lib.hid (show oneN c = [c] by rw [oneN_1 hz]; congr 1; omega)
  have hi : illNB c = false := decide_eq_false (by omega)
  obtain ⟨hl, ⟨m0, m1, m2, m3, m4⟩, _⟩ := hs
  have ho0 := or_mark 7 0 0 (c) rfl (by omega) (by omega) (by omega) (by show c < 128; omega)
  rw [Int.zero_add] at ho0
  go_enter Tryd.func47, Tryd.ntmps47
  go_wp2_with (first
    | (go_at_call 49; refine (isIllN_any c _).mono ?_; rintro e w' ⟨rfl, rfl⟩)
    | (go_at_call 36; refine (sizeN_any c _ hl).mono ?_; rintro e w' ⟨rfl, rfl⟩))
  obtain ⟨i0, hi0, hz0, hz1, hz2⟩ := info_parts u8_info
  have hw1 : IntKind.u8.wrap (c) = c := IntWalk.u8_in _ (by omega)
  go_region_held3 (fun w' => w'.cell? ⟨3, 1, none⟩ = some (.int .i64 0))
    (first
      | go_keep
      | (rw [hgrow.cell_far _ (by simp; omega) (by intro e; have h3 : base ≤ 3 := (hown.lt _ e.symm).1; omega)]; assumption))
    ((refine step_append_lies _ (by rfl) _ _ _ (by rfl) base 5 i0 _ 1 1 Tryd.underlying39 hi0 hz0 hz1 hz2 rfl (by omega) v n xs (by rfl) ((hown.alloc _).drew)
        ⟨w.heap.size, 0, none⟩ 1 1 [.int .u8 (c)] (by rfl) (by rfl) (World.news_of_block (cs := #[.int .u8 (c)]) (t := 5) (fr := (0, 0)) (heap_alloc_new w _)) (oneInt _ _)
        (by omega) (by unfold maxLen; omega) (by omega) (by simp; omega) (w.heap.size + 1) (by simp) ?_; intro gg cap w1 hown1 hgrow hat hlt))
  clear hw1
  have hb1 : Below base w w1 := (((Below.refl base w).alloc hbase _).drew).grown hgrow (by simp; omega) (fun k hk => (hown.lt k hk).1)
  have hz1 : base ≤ w1.heap.size := Nat.le_trans hbase hb1.size
  clear hat hlt
  go_wp2
  refine wp_loop_rounds 1 ?_
  rw [rounds_succ]
  go_wp2
  go_ret
  exact ⟨_, rfl, by rw [HO.out]; simpa using hown1, hb1⟩

set_option maxHeartbeats 2000000 in
theorem append_2 (base : Nat) (v : Value) (n : Nat) (xs : List Value) (c : Int) (w : World) (hs : TabN w) (hown : w.ownsRow base 5 1 v n xs) (hbase : base ≤ w.heap.size) (hg : 3 < base) (hn : n ≤ 100000000) (h1 : 128 ≤ c) (h2 : c < 2048) :
    Calls Tryd.prog 47 #[v, .int .i64 c] w (AppGives base n xs c w) := by
  have hz := sizeN_2 h1 h2
  have HO := Lib.hid (oneN_2 hz)
  have hi : illNB c = false := decide_eq_false (by omega)
  obtain ⟨hl, ⟨m0, m1, m2, m3, m4⟩, _⟩ := hs
  have ho0 := or_mark 5 6 192 (c / 64) rfl (by omega) (by omega) (by omega) (by show c / 64 < 32; omega)
  have ha0 := and63_i64 (c) (by omega) (by omega)
  have hp0 := or_mark 6 2 128 (c % 64) rfl (by omega) (by omega) (by omega) (by show c % 64 < 64; omega)
  go_enter Tryd.func47, Tryd.ntmps47
  go_wp2_with (first
    | (go_at_call 49; refine (isIllN_any c _).mono ?_; rintro e w' ⟨rfl, rfl⟩)
    | (go_at_call 36; refine (sizeN_any c _ hl).mono ?_; rintro e w' ⟨rfl, rfl⟩))
  obtain ⟨i0, hi0, hz0, hz1, hz2⟩ := info_parts u8_info
  have hw1 : IntKind.u8.wrap (192 + c / 64) = 192 + c / 64 := IntWalk.u8_in _ (by omega)
  go_region_held3 (fun w' => w'.cell? ⟨3, 2, none⟩ = some (.int .i64 192))
    (first
      | go_keep
      | (rw [hgrow.cell_far _ (by simp; omega) (by intro e; have h3 : base ≤ 3 := (hown.lt _ e.symm).1; omega)]; assumption))
    ((refine step_append_lies _ (by rfl) _ _ _ (by rfl) base 5 i0 _ 1 1 Tryd.underlying39 hi0 hz0 hz1 hz2 rfl (by omega) v n xs (by rfl) ((hown.alloc _).drew)
        ⟨w.heap.size, 0, none⟩ 1 1 [.int .u8 (192 + c / 64)] (by rfl) (by rfl) (World.news_of_block (cs := #[.int .u8 (192 + c / 64)]) (t := 5) (fr := (0, 0)) (heap_alloc_new w _)) (oneInt _ _)
        (by omega) (by unfold maxLen; omega) (by omega) (by simp; omega) (w.heap.size + 1) (by simp) ?_; intro gg cap w1 hown1 hgrow hat hlt))
  clear hw1
  have hb1 : Below base w w1 := (((Below.refl base w).alloc hbase _).drew).grown hgrow (by simp; omega) (fun k hk => (hown.lt k hk).1)
  have hz1 : base ≤ w1.heap.size := Nat.le_trans hbase hb1.size
  clear hat hlt
  go_wp2
  refine wp_loop_rounds 2 ?_
  rw [rounds_succ]
  go_wp2_with (at_builtin; refine wpList_app rfl _ _ _ rfl u8Slice (by decide) _ _ _ rfl (hown1.alloc _) ⟨w1.heap.size, 0, none⟩ 1 1 [.int .u8 (128 + c % 64)] rfl rfl (cell_one_new _ _ _) (oneInt _ _) (by omega) (by unfold maxLen; omega) (Nat.le_trans hz1 (by simp)) ?_; intro v2 w2 hown2 hg2 hat2)
  have hb2 := below_app (hb1.alloc hz1 _) hg2 (hown1.alloc _) (Nat.le_trans hz1 (by simp))
  have hz2 : base ≤ w2.heap.size := Nat.le_trans hbase hb2.size
  rw [rounds_succ]
  go_wp2
  go_ret
  exact ⟨_, rfl, by rw [HO.out]; simpa using hown2, hb2⟩

set_option maxHeartbeats 2000000 in
theorem append_3 (base : Nat) (v : Value) (n : Nat) (xs : List Value) (c : Int) (w : World) (hs : TabN w) (hown : w.ownsRow base 5 1 v n xs) (hbase : base ≤ w.heap.size) (hg : 3 < base) (hn : n ≤ 100000000) (h1 : 2048 ≤ c) (h2 : c < 65536) (hs2 : c < 55296 ∨ 57343 < c) :
    Calls Tryd.prog 47 #[v, .int .i64 c] w (AppGives base n xs c w) := by
  have hz := sizeN_3 h1 h2 hs2
  have HO := Lib.hid (oneN_3 hz)
  have hi : illNB c = false := decide_eq_false (by omega)
  clear hs2
  obtain ⟨hl, ⟨m0, m1, m2, m3, m4⟩, _⟩ := hs
  have ho0 := or_mark 4 14 224 (c / 4096) rfl (by omega) (by omega) (by omega) (by show c / 4096 < 16; omega)
  have ha1 := and63_i64 (c / 64) (by omega) (by omega)
  have hp1 := or_mark 6 2 128 (c / 64 % 64) rfl (by omega) (by omega) (by omega) (by show c / 64 % 64 < 64; omega)
  have ha0 := and63_i64 (c) (by omega) (by omega)
  have hp0 := or_mark 6 2 128 (c % 64) rfl (by omega) (by omega) (by omega) (by show c % 64 < 64; omega)
  go_enter Tryd.func47, Tryd.ntmps47
  go_wp2_with (first
    | (go_at_call 49; refine (isIllN_any c _).mono ?_; rintro e w' ⟨rfl, rfl⟩)
    | (go_at_call 36; refine (sizeN_any c _ hl).mono ?_; rintro e w' ⟨rfl, rfl⟩))
  obtain ⟨i0, hi0, hz0, hz1, hz2⟩ := info_parts u8_info
  have hw1 : IntKind.u8.wrap (224 + c / 4096) = 224 + c / 4096 := IntWalk.u8_in _ (by omega)
  go_region_held3 (fun w' => w'.cell? ⟨3, 3, none⟩ = some (.int .i64 224))
    (first
      | go_keep
      | (rw [hgrow.cell_far _ (by simp; omega) (by intro e; have h3 : base ≤ 3 := (hown.lt _ e.symm).1; omega)]; assumption))
    ((refine step_append_lies _ (by rfl) _ _ _ (by rfl) base 5 i0 _ 1 1 Tryd.underlying39 hi0 hz0 hz1 hz2 rfl (by omega) v n xs (by rfl) ((hown.alloc _).drew)
        ⟨w.heap.size, 0, none⟩ 1 1 [.int .u8 (224 + c / 4096)] (by rfl) (by rfl) (World.news_of_block (cs := #[.int .u8 (224 + c / 4096)]) (t := 5) (fr := (0, 0)) (heap_alloc_new w _)) (oneInt _ _)
        (by omega) (by unfold maxLen; omega) (by omega) (by simp; omega) (w.heap.size + 1) (by simp) ?_; intro gg cap w1 hown1 hgrow hat hlt))
  clear hw1
  have hb1 : Below base w w1 := (((Below.refl base w).alloc hbase _).drew).grown hgrow (by simp; omega) (fun k hk => (hown.lt k hk).1)
  have hz1 : base ≤ w1.heap.size := Nat.le_trans hbase hb1.size
  clear hat hlt
  go_wp2
  refine wp_loop_rounds 3 ?_
  rw [rounds_succ]
  go_wp2_with (at_builtin; refine wpList_app rfl _ _ _ rfl u8Slice (by decide) _ _ _ rfl (hown1.alloc _) ⟨w1.heap.size, 0, none⟩ 1 1 [.int .u8 (128 + c / 64 % 64)] rfl rfl (cell_one_new _ _ _) (oneInt _ _) (by omega) (by unfold maxLen; omega) (Nat.le_trans hz1 (by simp)) ?_; intro v2 w2 hown2 hg2 hat2)
  have hb2 := below_app (hb1.alloc hz1 _) hg2 (hown1.alloc _) (Nat.le_trans hz1 (by simp))
  have hz2 : base ≤ w2.heap.size := Nat.le_trans hbase hb2.size
  rw [rounds_succ]
  go_wp2_with (at_builtin; refine wpList_app rfl _ _ _ rfl u8Slice (by decide) _ _ _ rfl (hown2.alloc _) ⟨w2.heap.size, 0, none⟩ 1 1 [.int .u8 (128 + c % 64)] rfl rfl (cell_one_new _ _ _) (oneInt _ _) (by omega) (by unfold maxLen; omega) (Nat.le_trans hz2 (by simp)) ?_; intro v3 w3 hown3 hg3 hat3)
  have hb3 := below_app (hb2.alloc hz2 _) hg3 (hown2.alloc _) (Nat.le_trans hz2 (by simp))
  have hz3 : base ≤ w3.heap.size := Nat.le_trans hbase hb3.size
  rw [rounds_succ]
  go_wp2
  go_ret
  exact ⟨_, rfl, by rw [HO.out]; simpa using hown3, hb3⟩

set_option maxHeartbeats 2000000 in
theorem append_4 (base : Nat) (v : Value) (n : Nat) (xs : List Value) (c : Int) (w : World) (hs : TabN w) (hown : w.ownsRow base 5 1 v n xs) (hbase : base ≤ w.heap.size) (hg : 3 < base) (hn : n ≤ 100000000) (h1 : 65536 ≤ c) (h2 : c ≤ 1114111) :
    Calls Tryd.prog 47 #[v, .int .i64 c] w (AppGives base n xs c w) := by
  have hz := sizeN_4 h1 h2
  have HO := Lib.hid (oneN_4 hz)
  have hi : illNB c = false := decide_eq_false (by omega)
  obtain ⟨hl, ⟨m0, m1, m2, m3, m4⟩, _⟩ := hs
  have ho0 := or_mark 3 30 240 (c / 262144) rfl (by omega) (by omega) (by omega) (by show c / 262144 < 8; omega)
  have ha2 := and63_i64 (c / 4096) (by omega) (by omega)
  have hp2 := or_mark 6 2 128 (c / 4096 % 64) rfl (by omega) (by omega) (by omega) (by show c / 4096 % 64 < 64; omega)
  have ha1 := and63_i64 (c / 64) (by omega) (by omega)
  have hp1 := or_mark 6 2 128 (c / 64 % 64) rfl (by omega) (by omega) (by omega) (by show c / 64 % 64 < 64; omega)
  have ha0 := and63_i64 (c) (by omega) (by omega)
  have hp0 := or_mark 6 2 128 (c % 64) rfl (by omega) (by omega) (by omega) (by show c % 64 < 64; omega)
  go_enter Tryd.func47, Tryd.ntmps47
  go_wp2_with (first
    | (go_at_call 49; refine (isIllN_any c _).mono ?_; rintro e w' ⟨rfl, rfl⟩)
    | (go_at_call 36; refine (sizeN_any c _ hl).mono ?_; rintro e w' ⟨rfl, rfl⟩))
  obtain ⟨i0, hi0, hz0, hz1, hz2⟩ := info_parts u8_info
  have hw1 : IntKind.u8.wrap (240 + c / 262144) = 240 + c / 262144 := IntWalk.u8_in _ (by omega)
  go_region_held3 (fun w' => w'.cell? ⟨3, 4, none⟩ = some (.int .i64 240))
    (first
      | go_keep
      | (rw [hgrow.cell_far _ (by simp; omega) (by intro e; have h3 : base ≤ 3 := (hown.lt _ e.symm).1; omega)]; assumption))
    ((refine step_append_lies _ (by rfl) _ _ _ (by rfl) base 5 i0 _ 1 1 Tryd.underlying39 hi0 hz0 hz1 hz2 rfl (by omega) v n xs (by rfl) ((hown.alloc _).drew)
        ⟨w.heap.size, 0, none⟩ 1 1 [.int .u8 (240 + c / 262144)] (by rfl) (by rfl) (World.news_of_block (cs := #[.int .u8 (240 + c / 262144)]) (t := 5) (fr := (0, 0)) (heap_alloc_new w _)) (oneInt _ _)
        (by omega) (by unfold maxLen; omega) (by omega) (by simp; omega) (w.heap.size + 1) (by simp) ?_; intro gg cap w1 hown1 hgrow hat hlt))
  clear hw1
  have hb1 : Below base w w1 := (((Below.refl base w).alloc hbase _).drew).grown hgrow (by simp; omega) (fun k hk => (hown.lt k hk).1)
  have hz1 : base ≤ w1.heap.size := Nat.le_trans hbase hb1.size
  clear hat hlt
  go_wp2
  refine wp_loop_rounds 4 ?_
  rw [rounds_succ]
  go_wp2_with (at_builtin; refine wpList_app rfl _ _ _ rfl u8Slice (by decide) _ _ _ rfl (hown1.alloc _) ⟨w1.heap.size, 0, none⟩ 1 1 [.int .u8 (128 + c / 4096 % 64)] rfl rfl (cell_one_new _ _ _) (oneInt _ _) (by omega) (by unfold maxLen; omega) (Nat.le_trans hz1 (by simp)) ?_; intro v2 w2 hown2 hg2 hat2)
  have hb2 := below_app (hb1.alloc hz1 _) hg2 (hown1.alloc _) (Nat.le_trans hz1 (by simp))
  have hz2 : base ≤ w2.heap.size := Nat.le_trans hbase hb2.size
  rw [rounds_succ]
  go_wp2_with (at_builtin; refine wpList_app rfl _ _ _ rfl u8Slice (by decide) _ _ _ rfl (hown2.alloc _) ⟨w2.heap.size, 0, none⟩ 1 1 [.int .u8 (128 + c / 64 % 64)] rfl rfl (cell_one_new _ _ _) (oneInt _ _) (by omega) (by unfold maxLen; omega) (Nat.le_trans hz2 (by simp)) ?_; intro v3 w3 hown3 hg3 hat3)
  have hb3 := below_app (hb2.alloc hz2 _) hg3 (hown2.alloc _) (Nat.le_trans hz2 (by simp))
  have hz3 : base ≤ w3.heap.size := Nat.le_trans hbase hb3.size
  rw [rounds_succ]
  go_wp2_with (at_builtin; refine wpList_app rfl _ _ _ rfl u8Slice (by decide) _ _ _ rfl (hown3.alloc _) ⟨w3.heap.size, 0, none⟩ 1 1 [.int .u8 (128 + c % 64)] rfl rfl (cell_one_new _ _ _) (oneInt _ _) (by omega) (by unfold maxLen; omega) (Nat.le_trans hz3 (by simp)) ?_; intro v4 w4 hown4 hg4 hat4)
  have hb4 := below_app (hb3.alloc hz3 _) hg4 (hown3.alloc _) (Nat.le_trans hz3 (by simp))
  have hz4 : base ≤ w4.heap.size := Nat.le_trans hbase hb4.size
  rw [rounds_succ]
  go_wp2
  go_ret
  exact ⟨_, rfl, by rw [HO.out]; simpa using hown4, hb4⟩

theorem appendN_any (base : Nat) (v : Value) (n : Nat) (xs : List Value) (c : Int) (w : World) (hs : TabN w) (hown : w.ownsRow base 5 1 v n xs) (hbase : base ≤ w.heap.size) (hg : 3 < base) (hn : n ≤ 100000000) (hc : sizeN c ≠ 0) :
    Calls Tryd.prog 47 #[v, .int .i64 c] w (AppGives base n xs c w) := by
  rcases partsN c with ⟨h, h'⟩ | ⟨h, h'⟩ | ⟨h, h'⟩ | ⟨h, h'⟩ | ⟨h, h', h''⟩ | ⟨h, h'⟩
  · exact append_ill base v n xs c w hown hbase hn h h'
  · exact absurd (sizeN_0 h h') hc
  · exact append_1 base v n xs c w hs hown hbase hg hn h h'
  · exact append_2 base v n xs c w hs hown hbase hg hn h h'
  · exact append_3 base v n xs c w hs hown hbase hg hn h h' h''
  · exact append_4 base v n xs c w hs hown hbase hg hn h h'
end Go.Proofs.YtoopchpolcfdaaaDoor
