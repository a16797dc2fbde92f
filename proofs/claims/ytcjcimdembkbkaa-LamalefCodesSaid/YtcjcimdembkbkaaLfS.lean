/- lamalef.Find: what its closure keeps in memory, and one call of it. -/
import Derived.Test.YtcjcimdembkbkaaLfP1
import Derived.Test.YtcjcimdembkbkaaJnP1
import Derived.Test.YtcjcimdembkbkaaHp
import Derived.Test.YtcjcimdembkbkaaMem3
namespace Go.Proofs.Ytcjcimdembkbkaa
open Go.RowKit

theorem pairSlice : SliceOf Try.prog 35 37 2 16 := .mk_ (z := .agg #[.int .i64 0, .int .i64 0]) Try.underlying35 (by kernel_rfl) rfl
/-- What Find keeps, from block s on: the boxes of the text, the types and 'through', the pairs, and where the next one stands. -/
structure LBox (w : World) (s : Nat) (A : Option Addr) (n c : Nat) (xs : List Int) (B : Option Addr) (d : Nat) (ts : List Int) (th : Bool) (v : Value) (bh : Int) : Prop where
  h0 : w.heap[s]? = some (.cells #[.slice A n c] 22 (0, 0))
  h1 : w.heap[s + 1]? = some (.cells #[.slice B n d] 22 (0, 0))
  h2 : w.heap[s + 2]? = some (.cells #[.bool th] 4 (0, 0))
  h3 : w.heap[s + 3]? = some (.cells #[v] 35 (0, 0))
  h4 : w.heap[s + 4]? = some (.cells #[.int .i64 bh] 3 (0, 0))
  rx : Rd w 1 A n (xs.map (Value.int .i64))
  rt : Rd w 1 B n (ts.map (Value.int .i64))
  la : 0 < n → ∀ ad, A = some ad → ad.block < s
  lb : 0 < n → ∀ ad, B = some ad → ad.block < s
section
variable {w w' : World} {s n c d : Nat} {A B : Option Addr} {xs ts : List Int} {th : Bool} {v : Value} {bh : Int}
theorem LBox.below (h : LBox w s A n c xs B d ts th v bh) (hb : Below (s + 5) w w') : LBox w' s A n c xs B d ts th v bh :=
  ⟨(hb.block s (by omega)).trans h.h0, (hb.block (s + 1) (by omega)).trans h.h1, (hb.block (s + 2) (by omega)).trans h.h2, (hb.block (s + 3) (by omega)).trans h.h3, (hb.block (s + 4) (by omega)).trans h.h4,
   h.rx.belowS h.la (hb.mono (by omega)), h.rt.belowS h.lb (hb.mono (by omega)), h.la, h.lb⟩
theorem LBox.size (h : LBox w s A n c xs B d ts th v bh) : s + 5 ≤ w.heap.size := by have := hp_lt h.h4; omega
theorem LBox.setP (h : LBox w s A n c xs B d ts th v bh) (v' : Value) : LBox (w.setCell ⟨s + 3, 0, none⟩ v') s A n c xs B d ts th v' bh :=
  have hb : Below s w (w.setCell ⟨s + 3, 0, none⟩ v') := (Below.refl s w).setCell (p := ⟨s + 3, 0, none⟩) (by simp) _
  ⟨(hp_far (by omega) _ _).trans h.h0, (hp_far (by omega) _ _).trans h.h1, (hp_far (by omega) _ _).trans h.h2, heap_setCell_same w (s + 3) 0 _ _ _ h.h3, (hp_far (by omega) _ _).trans h.h4, h.rx.belowS h.la hb, h.rt.belowS h.lb hb, h.la, h.lb⟩
theorem LBox.setB (h : LBox w s A n c xs B d ts th v bh) (x : Int) : LBox (w.setCell ⟨s + 4, 0, none⟩ (.int .i64 x)) s A n c xs B d ts th v x :=
  have hb : Below s w (w.setCell ⟨s + 4, 0, none⟩ (.int .i64 x)) := (Below.refl s w).setCell (p := ⟨s + 4, 0, none⟩) (by simp) _
  ⟨(hp_far (by omega) _ _).trans h.h0, (hp_far (by omega) _ _).trans h.h1, (hp_far (by omega) _ _).trans h.h2, (hp_far (by omega) _ _).trans h.h3, heap_setCell_same w (s + 4) 0 _ _ _ h.h4, h.rx.belowS h.la hb, h.rt.belowS h.lb hb, h.la, h.lb⟩
theorem LBox.cell (h : LBox w s A n c xs B d ts th v bh) : w.cell? ⟨s, 0, none⟩ = some (.slice A n c) ∧ w.cell? ⟨s + 1, 0, none⟩ = some (.slice B n d) ∧ w.cell? ⟨s + 2, 0, none⟩ = some (.bool th) ∧ w.cell? ⟨s + 3, 0, none⟩ = some v ∧ w.cell? ⟨s + 4, 0, none⟩ = some (.int .i64 bh) ∧
    w.frozen? ⟨s + 3, 0, none⟩ = false ∧ w.frozen? ⟨s + 4, 0, none⟩ = false :=
  ⟨hp_cell h.h0 rfl, hp_cell h.h1 rfl, hp_cell h.h2 rfl, hp_cell h.h3 rfl, hp_cell h.h4 rfl, hp_froz h.h3 0, hp_froz h.h4 0⟩
end
/-- What a call of the closure leaves: the pairs so far, and where the next one stands. -/
def LGot (w0 w : World) (s : Nat) (A : Option Addr) (n c : Nat) (xs : List Int) (B : Option Addr) (d : Nat) (ts : List Int) (th : Bool) (bh : Int) (l : List Sp) : Prop :=
  ∃ v, LBox w s A n c xs B d ts th v bh ∧ w.ownsRow (s + 5) 37 2 v l.length (cellsS l) ∧ Below s w0 w

set_option maxRecDepth 100000 in
set_option maxHeartbeats 4000000 in
theorem lfSettle_any (s n c d k : Nat) (A B : Option Addr) (xs ts : List Int) (th : Bool) (bh : Int) (l l' : List Sp) (w : World) (hG : LGot w w s A n c xs B d ts th bh l) (hk : k < n) (hx : xs[k]? = some 1604) (hbh : lfNext ts k bh) (hl : l ++ lfAt alefB xs ts th k = l') (hll : l.length ≤ k) (hn : n ≤ 1000000) :
    Calls Try.prog 49 #[.int .i64 (k : Int), .pointer (some ⟨s + 4, 0, none⟩), .pointer (some ⟨s + 1, 0, none⟩), .pointer (some ⟨s, 0, none⟩), .pointer (some ⟨s + 2, 0, none⟩), .pointer (some ⟨s + 3, 0, none⟩)] w fun e w' => (∃ v, e = .returned v) ∧ LGot w w' s A n c xs B d ts th (jFirst ts (k + 1)) l' := by
  obtain ⟨v, hS, hown, _⟩ := hG
  obtain ⟨c0, c1, c2, c3, c4, f3, f4⟩ := hS.cell
  have htl : ts.length = n := by simpa using hS.rt.len1
  have hxl : xs.length = n := by simpa using hS.rx.len1
  have HBE := Lib.hid (jnBehind_any B n d ts k w hS.rt (by omega))
  rw [show jBehind ts k = jFirst ts (k + 1) by unfold jBehind; rw [if_pos ⟨by omega, by omega⟩, Int.toNat_natCast]] at HBE
  obtain ⟨b, hb⟩ : ∃ b, jFirst ts (k + 1) = b := ⟨_, rfl⟩
  have hbr := jFirst_gt ts (k + 1)
  have hnx : ¬ (0 ≤ bh ∧ bh ≤ k) → b = bh := fun h => hb.symm.trans (hbh.is h)
  have hbm := hbh.1
  rw [hb] at HBE hbr ⊢
  have hat : lfAt alefB xs ts th k = if 0 ≤ b ∧ alefB (xs.getD b.toNat 0) = true ∧ (th = true ∨ b = (k : Int) + 1) then [((k : Int), b)] else [] := by
    unfold lfAt; rw [if_pos hx, hb]
  rw [hat] at hl
  rw [htl] at hbr
  obtain ⟨W1, hW1⟩ : ∃ W1, (if 0 ≤ bh ∧ bh ≤ k then w.setCell ⟨s + 4, 0, none⟩ (.int .i64 b) else w) = W1 := ⟨_, rfl⟩
  have hS1 : LBox W1 s A n c xs B d ts th v b := by
    rw [← hW1]
    split
    · exact hS.setB b
    · rename_i h; rw [hnx h]; exact hS
  have ho1 : W1.ownsRow (s + 5) 37 2 v l.length (cellsS l) := by
    rw [← hW1]
    split
    · exact ownsRow_setCell_below hown (by simp) _
    · exact hown
  have hz1 : Below s w W1 := by
    rw [← hW1]
    split
    · exact (Below.refl s w).setCell (p := ⟨s + 4, 0, none⟩) (by simp) _
    · exact Below.refl _ _
  obtain ⟨d0, d1, d2, d3, d4, g3, g4⟩ := hS1.cell
  have HS := Lib.hid hS1
  have HO := Lib.hid ho1
  have HZ := Lib.hid hz1
  have HX := Lib.hid hS.rx
  have HW := Lib.hid hW1
  have HXL := Lib.hid hxl
  clear hS hown hbh hx hat hb hS1 ho1 hz1 htl hW1 hxl
  by_cases hb0 : b = -1
  · obtain rfl : l = l' := by rw [← hl, if_neg (fun h => by omega)]; simp
    subst hb0
    clear hl hbr
    by_cases hq : 0 ≤ bh ∧ bh ≤ k
    · rw [if_pos hq] at HW
      obtain ⟨q1, q2⟩ := hq
      rw [← HW.out] at d0 d1 d2 d3 d4 g3 g4
      clear hnx
      go_enter Try.func49, Try.ntmps49
      go_wp2_with (first
        | (go_at_call 17; with_reducible refine HBE.out.mono ?_; rintro e w1 ⟨rfl, rfl⟩)
        | fail)
      go_end0
      rw [HW.out]
      exact ⟨⟨_, rfl⟩, v, HS.out, HO.out, HZ.out⟩
    · rw [if_neg hq] at HW
      obtain rfl : -1 = bh := hnx hq
      obtain rfl : w = W1 := HW.out
      clear hq hnx
      go_enter Try.func49, Try.ntmps49
      go_wp2_with fail
      go_end0
      exact ⟨⟨_, rfl⟩, v, HS.out, HO.out, HZ.out⟩
  · obtain ⟨b, rfl⟩ : ∃ bn : Nat, b = bn := ⟨b.toNat, by omega⟩
    have hkb : k < b := by omega
    have hbn : b < n := by omega
    obtain ⟨y, hy⟩ : ∃ y, xs[b]? = some y := ⟨_, List.getElem?_eq_getElem (by rw [HXL.out]; exact hbn)⟩
    have hyd : xs.getD b 0 = y := by simp [hy]
    rw [Int.toNat_natCast, hyd] at hl
    have hcell := HS.out.rx.at_ hbn
    obtain ⟨ad, rfl, _, hcc⟩ := hcell
    have cy : W1.cell? (ad.add b) = some (.int .i64 y) := hcc _ (by rw [List.getElem?_map, hy]; rfl)
    have HAL := Lib.hid (fun w => lfAlef_any y w)
    obtain ⟨al, hal⟩ : ∃ al, alefB y = al := ⟨_, rfl⟩
    rw [hal] at HAL hl
    clear hy hyd hal hcc hbr hb0 hbm
    by_cases hadd : al = true ∧ (th = true ∨ (b : Int) = (k : Int) + 1)
    · obtain rfl : l ++ [((k : Int), (b : Int))] = l' := by rw [← hl, if_pos ⟨by omega, hadd⟩]
      obtain ⟨rfl, hth⟩ := hadd
      clear hl
      by_cases hq : 0 ≤ bh ∧ bh ≤ k
      · rw [if_pos hq] at HW
        obtain ⟨q1, q2⟩ := hq
        rw [← HW.out] at d0 d1 d2 d3 d4 g3 g4 cy
        have HS1 := Lib.hid (show LBox (w.setCell ⟨s + 4, 0, none⟩ (.int .i64 (b : Int))) s (some ad) n c xs B d ts th v b by rw [HW.out]; exact HS.out)
        have HO1 := Lib.hid (show (w.setCell ⟨s + 4, 0, none⟩ (.int .i64 (b : Int))).ownsRow (s + 5) 37 2 v l.length (cellsS l) by rw [HW.out]; exact HO.out)
        have HZ1 := Lib.hid (show Below s w (w.setCell ⟨s + 4, 0, none⟩ (.int .i64 (b : Int))) by rw [HW.out]; exact HZ.out)
        clear hnx
        rcases hth with rfl | hth
        · go_enter Try.func49, Try.ntmps49
          go_wp2_with (first
            | (go_at_call 17; with_reducible refine HBE.out.mono ?_; rintro e w1 ⟨rfl, rfl⟩)
            | (go_at_call 32; with_reducible refine (HAL.out _).mono ?_; rintro e w2 ⟨rfl, hb2⟩; have e2 := cell_below hb2 d2; have e3 := cell_below hb2 d3; have e4 := cell_below hb2 d4; have OW2 := own_below (HO1.out) hb2; have HS2 := (HS1.out).below (hb2.mono (HS1.out).size); clear d0 d1 d2 d3 d4 g3 g4)
            | (at_builtin; refine wpList_app rfl _ _ _ rfl pairSlice (by decide) _ l.length _ rfl (OW2.alloc _) ⟨w2.heap.size, 0, none⟩ 1 1 [.int .i64 (k : Int), .int .i64 (b : Int)] rfl rfl (cells_new w2 [_, _] _) (oneInt2 _ _ _) (by omega) (by unfold maxLen; omega) (Nat.le_trans HS2.size (by simp)) ?_; intro v1 w3 hown1 hg1 hat1; obtain ⟨Av, cv, rfl, hcv⟩ := own_form hown1; have hb3 := below_app ((Below.refl (s + 5) w2).alloc HS2.size _) hg1 (OW2.alloc _) (Nat.le_trans HS2.size (by simp)); have HS3 := HS2.below hb3; have t3 := HS3.cell.2.2.2.1; have f3 := HS3.cell.2.2.2.2.2.1)
            | fail)
          go_end0
          exact ⟨⟨_, rfl⟩, _, HS3.setP _, by simpa [cellsS, encS] using ownsRow_setCell_below (a := ⟨s + 3, 0, none⟩) hown1 (show s + 3 < s + 5 by omega) _, ((HZ1.out.trans (hb2.mono (by have := HS1.out.size; omega))).trans (hb3.mono (by omega))).setCell (p := ⟨s + 3, 0, none⟩) (by simp) _⟩
        · have g9 : ((b : Int) == (k : Int) + 1) = true := by simp only [beq_iff_eq]; exact hth
          have g8 : decide ((b : Int) = (k : Int) + 1) = true := decide_eq_true hth
          clear hth
          cases th
          all_goals
            go_enter Try.func49, Try.ntmps49
            go_wp2_with (first
              | (go_at_call 17; with_reducible refine HBE.out.mono ?_; rintro e w1 ⟨rfl, rfl⟩)
              | (go_at_call 32; with_reducible refine (HAL.out _).mono ?_; rintro e w2 ⟨rfl, hb2⟩; have e2 := cell_below hb2 d2; have e3 := cell_below hb2 d3; have e4 := cell_below hb2 d4; have OW2 := own_below (HO1.out) hb2; have HS2 := (HS1.out).below (hb2.mono (HS1.out).size); clear d0 d1 d2 d3 d4 g3 g4)
              | (at_builtin; refine wpList_app rfl _ _ _ rfl pairSlice (by decide) _ l.length _ rfl (OW2.alloc _) ⟨w2.heap.size, 0, none⟩ 1 1 [.int .i64 (k : Int), .int .i64 (b : Int)] rfl rfl (cells_new w2 [_, _] _) (oneInt2 _ _ _) (by omega) (by unfold maxLen; omega) (Nat.le_trans HS2.size (by simp)) ?_; intro v1 w3 hown1 hg1 hat1; obtain ⟨Av, cv, rfl, hcv⟩ := own_form hown1; have hb3 := below_app ((Below.refl (s + 5) w2).alloc HS2.size _) hg1 (OW2.alloc _) (Nat.le_trans HS2.size (by simp)); have HS3 := HS2.below hb3; have t3 := HS3.cell.2.2.2.1; have f3 := HS3.cell.2.2.2.2.2.1)
              | fail)
            go_end0
            exact ⟨⟨_, rfl⟩, _, HS3.setP _, by simpa [cellsS, encS] using ownsRow_setCell_below (a := ⟨s + 3, 0, none⟩) hown1 (show s + 3 < s + 5 by omega) _, ((HZ1.out.trans (hb2.mono (by have := HS1.out.size; omega))).trans (hb3.mono (by omega))).setCell (p := ⟨s + 3, 0, none⟩) (by simp) _⟩
      · rw [if_neg hq] at HW
        obtain rfl : (b : Int) = bh := hnx hq
        obtain rfl : w = W1 := HW.out
        have HS1 := Lib.hid HS.out
        have HO1 := Lib.hid HO.out
        have HZ1 := Lib.hid HZ.out
        have hq' : (k : Int) < (b : Int) := by omega
        clear hq hnx
        rcases hth with rfl | hth
        · go_enter Try.func49, Try.ntmps49
          go_wp2_with (first
            | (go_at_call 17; with_reducible refine HBE.out.mono ?_; rintro e w1 ⟨rfl, rfl⟩)
            | (go_at_call 32; with_reducible refine (HAL.out _).mono ?_; rintro e w2 ⟨rfl, hb2⟩; have e2 := cell_below hb2 d2; have e3 := cell_below hb2 d3; have e4 := cell_below hb2 d4; have OW2 := own_below (HO1.out) hb2; have HS2 := (HS1.out).below (hb2.mono (HS1.out).size); clear d0 d1 d2 d3 d4 g3 g4)
            | (at_builtin; refine wpList_app rfl _ _ _ rfl pairSlice (by decide) _ l.length _ rfl (OW2.alloc _) ⟨w2.heap.size, 0, none⟩ 1 1 [.int .i64 (k : Int), .int .i64 (b : Int)] rfl rfl (cells_new w2 [_, _] _) (oneInt2 _ _ _) (by omega) (by unfold maxLen; omega) (Nat.le_trans HS2.size (by simp)) ?_; intro v1 w3 hown1 hg1 hat1; obtain ⟨Av, cv, rfl, hcv⟩ := own_form hown1; have hb3 := below_app ((Below.refl (s + 5) w2).alloc HS2.size _) hg1 (OW2.alloc _) (Nat.le_trans HS2.size (by simp)); have HS3 := HS2.below hb3; have t3 := HS3.cell.2.2.2.1; have f3 := HS3.cell.2.2.2.2.2.1)
            | fail)
          go_end0
          exact ⟨⟨_, rfl⟩, _, HS3.setP _, by simpa [cellsS, encS] using ownsRow_setCell_below (a := ⟨s + 3, 0, none⟩) hown1 (show s + 3 < s + 5 by omega) _, ((HZ1.out.trans (hb2.mono (by have := HS1.out.size; omega))).trans (hb3.mono (by omega))).setCell (p := ⟨s + 3, 0, none⟩) (by simp) _⟩
        · have g9 : ((b : Int) == (k : Int) + 1) = true := by simp only [beq_iff_eq]; exact hth
          have g8 : decide ((b : Int) = (k : Int) + 1) = true := decide_eq_true hth
          clear hth
          cases th
          all_goals
            go_enter Try.func49, Try.ntmps49
            go_wp2_with (first
              | (go_at_call 17; with_reducible refine HBE.out.mono ?_; rintro e w1 ⟨rfl, rfl⟩)
              | (go_at_call 32; with_reducible refine (HAL.out _).mono ?_; rintro e w2 ⟨rfl, hb2⟩; have e2 := cell_below hb2 d2; have e3 := cell_below hb2 d3; have e4 := cell_below hb2 d4; have OW2 := own_below (HO1.out) hb2; have HS2 := (HS1.out).below (hb2.mono (HS1.out).size); clear d0 d1 d2 d3 d4 g3 g4)
              | (at_builtin; refine wpList_app rfl _ _ _ rfl pairSlice (by decide) _ l.length _ rfl (OW2.alloc _) ⟨w2.heap.size, 0, none⟩ 1 1 [.int .i64 (k : Int), .int .i64 (b : Int)] rfl rfl (cells_new w2 [_, _] _) (oneInt2 _ _ _) (by omega) (by unfold maxLen; omega) (Nat.le_trans HS2.size (by simp)) ?_; intro v1 w3 hown1 hg1 hat1; obtain ⟨Av, cv, rfl, hcv⟩ := own_form hown1; have hb3 := below_app ((Below.refl (s + 5) w2).alloc HS2.size _) hg1 (OW2.alloc _) (Nat.le_trans HS2.size (by simp)); have HS3 := HS2.below hb3; have t3 := HS3.cell.2.2.2.1; have f3 := HS3.cell.2.2.2.2.2.1)
              | fail)
            go_end0
            exact ⟨⟨_, rfl⟩, _, HS3.setP _, by simpa [cellsS, encS] using ownsRow_setCell_below (a := ⟨s + 3, 0, none⟩) hown1 (show s + 3 < s + 5 by omega) _, ((HZ1.out.trans (hb2.mono (by have := HS1.out.size; omega))).trans (hb3.mono (by omega))).setCell (p := ⟨s + 3, 0, none⟩) (by simp) _⟩
    · obtain rfl : l = l' := by rw [← hl, if_neg (fun h => hadd h.2)]; simp
      clear hl
      by_cases hq : 0 ≤ bh ∧ bh ≤ k
      · rw [if_pos hq] at HW
        obtain ⟨q1, q2⟩ := hq
        rw [← HW.out] at d0 d1 d2 d3 d4 g3 g4 cy
        have HS1 := Lib.hid (show LBox (w.setCell ⟨s + 4, 0, none⟩ (.int .i64 (b : Int))) s (some ad) n c xs B d ts th v b by rw [HW.out]; exact HS.out)
        have HO1 := Lib.hid (show (w.setCell ⟨s + 4, 0, none⟩ (.int .i64 (b : Int))).ownsRow (s + 5) 37 2 v l.length (cellsS l) by rw [HW.out]; exact HO.out)
        have HZ1 := Lib.hid (show Below s w (w.setCell ⟨s + 4, 0, none⟩ (.int .i64 (b : Int))) by rw [HW.out]; exact HZ.out)
        clear hnx
        cases al
        · go_enter Try.func49, Try.ntmps49
          go_wp2_with (first
            | (go_at_call 17; with_reducible refine HBE.out.mono ?_; rintro e w1 ⟨rfl, rfl⟩)
            | (go_at_call 32; with_reducible refine (HAL.out _).mono ?_; rintro e w2 ⟨rfl, hb2⟩; have e2 := cell_below hb2 d2; have e3 := cell_below hb2 d3; have e4 := cell_below hb2 d4; have OW2 := own_below (HO1.out) hb2; have HS2 := (HS1.out).below (hb2.mono (HS1.out).size); clear d0 d1 d2 d3 d4 g3 g4)
            | fail)
          go_end0
          exact ⟨⟨_, rfl⟩, v, HS2, OW2, HZ1.out.trans (hb2.mono (by have := HS1.out.size; omega))⟩
        · obtain rfl : th = false := by cases th with
            | false => rfl
            | true => exact absurd ⟨rfl, .inl rfl⟩ hadd
          have g9 : ((b : Int) == (k : Int) + 1) = false := by simp only [beq_eq_false_iff_ne]; exact fun h => hadd ⟨rfl, .inr h⟩
          have g8 : decide ((b : Int) = (k : Int) + 1) = false := decide_eq_false (fun h => hadd ⟨rfl, .inr h⟩)
          clear hadd
          go_enter Try.func49, Try.ntmps49
          go_wp2_with (first
            | (go_at_call 17; with_reducible refine HBE.out.mono ?_; rintro e w1 ⟨rfl, rfl⟩)
            | (go_at_call 32; with_reducible refine (HAL.out _).mono ?_; rintro e w2 ⟨rfl, hb2⟩; have e2 := cell_below hb2 d2; have e3 := cell_below hb2 d3; have e4 := cell_below hb2 d4; have OW2 := own_below (HO1.out) hb2; have HS2 := (HS1.out).below (hb2.mono (HS1.out).size); clear d0 d1 d2 d3 d4 g3 g4)
            | fail)
          go_end0
          exact ⟨⟨_, rfl⟩, v, HS2, OW2, HZ1.out.trans (hb2.mono (by have := HS1.out.size; omega))⟩
      · rw [if_neg hq] at HW
        obtain rfl : (b : Int) = bh := hnx hq
        obtain rfl : w = W1 := HW.out
        have HS1 := Lib.hid HS.out
        have HO1 := Lib.hid HO.out
        have HZ1 := Lib.hid HZ.out
        have hq' : (k : Int) < (b : Int) := by omega
        clear hq hnx
        cases al
        · go_enter Try.func49, Try.ntmps49
          go_wp2_with (first
            | (go_at_call 17; with_reducible refine HBE.out.mono ?_; rintro e w1 ⟨rfl, rfl⟩)
            | (go_at_call 32; with_reducible refine (HAL.out _).mono ?_; rintro e w2 ⟨rfl, hb2⟩; have e2 := cell_below hb2 d2; have e3 := cell_below hb2 d3; have e4 := cell_below hb2 d4; have OW2 := own_below (HO1.out) hb2; have HS2 := (HS1.out).below (hb2.mono (HS1.out).size); clear d0 d1 d2 d3 d4 g3 g4)
            | fail)
          go_end0
          exact ⟨⟨_, rfl⟩, v, HS2, OW2, HZ1.out.trans (hb2.mono (by have := HS1.out.size; omega))⟩
        · obtain rfl : th = false := by cases th with
            | false => rfl
            | true => exact absurd ⟨rfl, .inl rfl⟩ hadd
          have g9 : ((b : Int) == (k : Int) + 1) = false := by simp only [beq_eq_false_iff_ne]; exact fun h => hadd ⟨rfl, .inr h⟩
          have g8 : decide ((b : Int) = (k : Int) + 1) = false := decide_eq_false (fun h => hadd ⟨rfl, .inr h⟩)
          clear hadd
          go_enter Try.func49, Try.ntmps49
          go_wp2_with (first
            | (go_at_call 17; with_reducible refine HBE.out.mono ?_; rintro e w1 ⟨rfl, rfl⟩)
            | (go_at_call 32; with_reducible refine (HAL.out _).mono ?_; rintro e w2 ⟨rfl, hb2⟩; have e2 := cell_below hb2 d2; have e3 := cell_below hb2 d3; have e4 := cell_below hb2 d4; have OW2 := own_below (HO1.out) hb2; have HS2 := (HS1.out).below (hb2.mono (HS1.out).size); clear d0 d1 d2 d3 d4 g3 g4)
            | fail)
          go_end0
          exact ⟨⟨_, rfl⟩, v, HS2, OW2, HZ1.out.trans (hb2.mono (by have := HS1.out.size; omega))⟩
end Go.Proofs.Ytcjcimdembkbkaa
