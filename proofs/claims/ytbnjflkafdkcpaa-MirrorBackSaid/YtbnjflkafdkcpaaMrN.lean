/- mirror.Count, walked. -/
import Derived.Test.YtbnjflkafdkcpaaMrC
namespace Go.Proofs.Ytbnjflkafdkcpaa
open Go.RowKit

/-- A box with a number that a closure counts up. -/
structure BxN (w0 : World) (base b : Nat) (x : Int) (w : World) : Prop where
  box : w.heap[b]? = some (.cells #[.int .i64 x] 3 (0, 0))
  bel : Below base w0 w
  lo : base ≤ b
theorem BxN.kept {w0 w w1 : World} {base b : Nat} {x : Int} {S : List Nat} (h : BxN w0 base b x w) (hk : Kept w w1 S) (hs : ∀ i ∈ S, ∃ o : Obj, w.heap[i]? = some o ∧ NotC o) (hl : ∀ i ∈ S, base ≤ i) : BxN w0 base b x w1 :=
  ⟨kept_cells hk hs h.box, kept_below hk hl h.bel (Nat.le_trans h.lo (Nat.le_of_lt (hp_lt h.box))), h.lo⟩
set_option maxRecDepth 100000 in
set_option maxHeartbeats 2000000 in
theorem mrAdd_any (w0 : World) (base b : Nat) (x z p q : Int) (hq : q = if z = x then p else p + 1) (hp : 0 ≤ p ∧ p ≤ 100000) (w : World) (h : BxN w0 base b p w) :
    Calls Try.prog 39 #[.int .i64 x, .int .i64 z, .pointer (some ⟨b, 0, none⟩)] w fun e w' => e = .returned (.tuple #[]) ∧ BxN w0 base b q w' ∧ NoC w w' := by
  have c0 : w.cell? ⟨b, 0, none⟩ = some (.int .i64 p) := hp_cell h.box rfl
  have f0 := hp_froz h.box 0
  have H := Lib.hid h
  have HQ : Hid (BxN w0 base b (p + 1) (w.setCell ⟨b, 0, none⟩ (.int .i64 (p + 1)))) := Lib.hid ⟨heap_setCell_same w b 0 _ _ _ h.box, h.bel.setCell (p := ⟨b, 0, none⟩) h.lo _, h.lo⟩
  have HN := Lib.hid (NoC.set h.box 0 (.int .i64 (p + 1)))
  by_cases hzx : z = x
  · rw [if_pos hzx] at hq
    subst hq hzx
    clear h HQ HN
    go_enter Try.func39, Try.ntmps39
    go_wp2
    go_end0
    exact ⟨rfl, H.out, NoC.refl _⟩
  · rw [if_neg hzx] at hq
    subst hq
    have g : (x != z) = true := by simp; omega
    clear h hzx
    go_enter Try.func39, Try.ntmps39
    go_wp2
    go_end0
    exact ⟨rfl, HQ.out, HN.out⟩
/-- each with Count's closure. -/
theorem mrEachN_any (A B : Option Addr) (n c d b : Nat) (cs lv : List Int) (w W0 : World) (hr : Rd w 1 A n (cs.map (Value.int .i64))) (hs : Rd w 1 B n (lv.map (Value.int .i64))) (hwf : ∀ x ∈ cs, (Lit.int .i64 x).wf = true) (hn : n ≤ 100000) (hX : BxN w w.heap.size b 0 W0) :
    Calls Try.prog 36 #[.slice A n c, .slice B n d, .func (.func 39) #[] #[.pointer (some ⟨b, 0, none⟩)]] W0 fun e W' => e = .returned (.tuple #[]) ∧ BxN w w.heap.size b (mrN cs lv n) W' := by
  have hcl : cs.length = n := by simpa using hr.len1
  have hll : lv.length = n := by simpa using hs.len1
  have hE : cs.length = lv.length := by omega
  exact mrEach_any _ #[.pointer (some ⟨b, 0, none⟩)] eg_count A B n c d w.heap.size cs lv (fun k W => BxN w w.heap.size b (mrN cs lv k) W) hcl hll hn hwf
    (fun k W h => Nat.le_trans h.lo (Nat.le_of_lt (hp_lt h.box))) (fun k W h => hr.below h.bel) (fun k W h => hs.below h.bel)
    (fun k W W' S h h1 h2 h3 => h.kept h1 h2 h3) (fun k x y W hx hy h => by
      have hk : k < n := by rw [← hcl]; exact (List.getElem?_eq_some_iff.1 hx).1
      have hb := mrN_in cs lv k
      refine mrAdd_any w _ b x (mrV x y) (mrN cs lv k) (mrN cs lv (k + 1)) ?_ ⟨hb.1, by omega⟩ W h
      have e1 := mrF_at hE hx hy
      rw [mrN]
      simp only [List.getD_eq_getElem?_getD, e1, hx, Option.getD_some]) W0 hX
set_option maxRecDepth 100000 in
set_option maxHeartbeats 2000000 in
theorem mrCount_any (A B : Option Addr) (n c m d : Nat) (cs lv : List Int) (w : World) (hr : Rd w 1 A n (cs.map (Value.int .i64))) (hs : Rd w 1 B m (lv.map (Value.int .i64))) (hwf : ∀ x ∈ cs, (Lit.int .i64 x).wf = true) (hn : n ≤ 100000) :
    Calls Try.prog 22 #[.slice A n c, .slice B m d] w fun e w' => e = .returned (.int .i64 (mrN cs lv (mrF cs lv).length)) ∧ Below w.heap.size w w' := by
  have hcl : cs.length = n := by simpa using hr.len1
  have hll : lv.length = m := by simpa using hs.len1
  have HX : Hid (BxN w w.heap.size w.heap.size 0 (w.alloc (.cells #[.int .i64 0] 3))) := Lib.hid ⟨heap_alloc_new _ _, below_new _ _, Nat.le_refl _⟩
  by_cases hnm : n = m
  · subst hnm
    have HE := Lib.hid (mrEachN_any A B n c d w.heap.size cs lv w _ hr hs hwf hn HX.out)
    have HML := Lib.hid (show (mrF cs lv).length = n by rw [mrF_len (by omega), hcl])
    clear hcl hll hr hs hwf
    go_enter Try.func22, Try.ntmps22
    go_wp2_with (first
      | (go_at_call 36; refine HE.out.mono ?_; rintro e w3 ⟨rfl, h3⟩; have H3 := Lib.hid h3; have c3 : w3.cell? ⟨w.heap.size, 0, none⟩ = some (.int .i64 (mrN cs lv n)) := hp_cell h3.box rfl; clear h3)
      | fail)
    go_ret
    rw [HML.out]
    exact ⟨rfl, H3.out.bel⟩
  · have HM := Lib.hid (show mrF cs lv = [] by unfold mrF; rw [if_neg (by omega)])
    clear hcl hll hr hs hwf
    go_enter Try.func22, Try.ntmps22
    go_wp2_with (first
      | (go_at_call 36; refine (mrEach_ne _ _ A B n c m d hnm _).mono ?_; rintro e w3 ⟨rfl, rfl⟩; have c3 := hp_cell (j := 0) (v := .int .i64 0) HX.out.box rfl)
      | fail)
    go_ret
    rw [HM.out]
    exact ⟨rfl, HX.out.bel⟩
end Go.Proofs.Ytbnjflkafdkcpaa
