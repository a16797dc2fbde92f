/- Texts of one claim, one behind the other. -/
import Derived.Deep.RegionWith
import Derived.Test.YtcjcimdembkbkaaMgLo2
import Derived.Test.YtcjcimdembkbkaaMgLo4
import Derived.Test.YtcjcimdembkbkaaMgLo5
/- Joins of a Props that New made. -/
namespace Go.Proofs.Ytcjcimdembkbkaa
open Go.RowKit

def eaPart (xs : List Int) (k : Nat) : List Int := (List.range xs.length).map fun j => if j < k then joinF (xs.getD j 0) else 0
theorem eaPart_zero (xs : List Int) : eaPart xs 0 = List.replicate xs.length 0 := by
  apply List.ext_getElem <;> simp [eaPart]
theorem eaPart_all (xs : List Int) : eaPart xs xs.length = xs.map joinF := by
  apply List.ext_getElem
  · simp [eaPart]
  · intro i h1 h2
    have hi : i < xs.length := by simpa [eaPart] using h1
    simp [eaPart, hi]
theorem eaPart_at {xs : List Int} {k : Nat} (hk : k < xs.length) : (eaPart xs k)[k]? = some 0 := by simp [eaPart, hk]
theorem eaPart_succ {xs : List Int} {k : Nat} {x : Int} (hp : xs[k]? = some x) : eaPart xs (k + 1) = (eaPart xs k).set k (joinF x) := by
  have hk := (List.getElem?_eq_some_iff.1 hp).1
  apply List.ext_getElem
  · simp [eaPart]
  · intro i h1 h2
    have hi : i < xs.length := by simpa [eaPart] using h1
    rw [List.getElem_set]
    simp only [eaPart, List.getElem_map, List.getElem_range]
    by_cases e : k = i
    · subst e
      rw [if_pos (by omega), if_pos rfl]
      simp [hp]
    · rw [if_neg e]
      by_cases h : i < k
      · rw [if_pos (by omega), if_pos h]
      · rw [if_neg (by omega), if_neg h]
set_option maxRecDepth 100000 in
set_option maxHeartbeats 4000000 in
theorem ppEach_any (b : Nat) (A : Option Addr) (n c : Nat) (xs : List Int) (w : World) (hP : PropAt w b) (hr : Rd w 1 A n (xs.map (Value.int .i64))) (hn : n ≤ 1000000) :
    Calls Try.prog 55 #[.slice A n c, .func (.func 56) #[.pointer (some ⟨b, 0, none⟩)] #[]] w fun e w' => (∃ g, w.heap.size ≤ g ∧ e = .returned (.slice (some ⟨g, 0, none⟩) n n) ∧ w'.heap[g]? = some (.cells (intsZ (xs.map joinF)).toArray 3 (0, 0))) ∧ Below w.heap.size w w' := by
  have hxl : xs.length = n := by simpa using hr.len1
  have hmk := mk_intsZ n (by omega)
  have hw1 : (w.alloc (.cells (intsZ (List.replicate n 0)).toArray 3)).heap[w.heap.size]? = some (.cells (intsZ (List.replicate n 0)).toArray 3 (0, 0)) := heap_alloc_new _ _
  have hb1 := below_new w (.cells (intsZ (List.replicate n 0)).toArray 3)
  have HW := Lib.hid hw1
  have HB := Lib.hid hb1
  have HR := Lib.hid hr
  have HP := Lib.hid hP
  have HXL := Lib.hid hxl
  clear hw1 hb1 hr hxl hP
  go_enter Try.func55, Try.ntmps55
  go_wp2_with fail
  generalize w.alloc (.cells (intsZ (List.replicate n 0)).toArray 3) = w1 at *
  obtain ⟨s, hse⟩ : ∃ s, w.heap.size = s := ⟨_, rfl⟩
  rw [hse] at HW
  simp only [hse]
  have HSE := Lib.hid hse
  clear hmk hse
  go_loopw [13] (fun i wr => ∃ k : Nat, k ≤ n ∧ i = .int .i64 k ∧ wr.heap[s]? = some (.cells (intsZ (eaPart xs k)).toArray 3 (0, 0)) ∧ Below w.heap.size w wr) (fun i _ => n - (intOf i).toNat)
  case atStart => exact ⟨0, Nat.zero_le _, rfl, by rw [eaPart_zero, HXL.out]; exact HW.out, HB.out⟩
  case round =>
    obtain ⟨k, hk, rfl, hg, hb⟩ := hrel
    have HBR := Lib.hid hb
    by_cases hlt : k < n
    · obtain ⟨x, hxk⟩ : ∃ x, xs[k]? = some x := ⟨_, List.getElem?_eq_getElem (by rw [HXL.out]; exact hlt)⟩
      have hcell := (HR.out.below hb).at_ hlt
      obtain ⟨ad, rfl, _, hc⟩ := hcell
      have cs : wr.cell? (ad.add k) = some (.int .i64 x) := hc _ (by rw [List.getElem?_map, hxk]; rfl)
      obtain ⟨v, hv⟩ : ∃ v, joinF x = v := ⟨_, rfl⟩
      have HJ := Lib.hid (ppJoin_any b x v hv wr (HP.out.below hb))
      have hsu := eaPart_succ hxk
      rw [hv] at hsu
      have HSU := Lib.hid hsu
      have hx0 : (intsZ (eaPart xs k)).toArray[k]? = some (.int .i64 0) := by have := eaPart_at (xs := xs) (k := k) (by rw [HXL.out]; exact hlt); simpa [intsZ] using this
      have HX0 := Lib.hid hx0
      have HG := Lib.hid hg
      clear hg hb hc hxk hsu hv hx0
      go_wp2_with (first
        | (go_at_call 56; with_reducible refine HJ.out.mono ?_; rintro e w4 ⟨rfl, hb4⟩; have g4 := (hb4.block s (hp_lt HG.out)).trans HG.out; have c94 := hp_cell g4 HX0.out; have f94 := hp_froz g4 k)
        | fail)
      have HN := Lib.hid (hp_row g4 k v)
      have HBN := Lib.hid ((below_self HBR.out hb4).setCell (p := ⟨s, k, none⟩) (Nat.le_of_eq HSE.out) (.int .i64 v))
      clear g4 c94 f94 hb4
      go_roundw
      case rel => exact ⟨k + 1, by omega, by go_num, by rw [HSU.out]; exact HN.out, HBN.out⟩
      case measure => simp [intOf]; omega
    · obtain rfl : k = n := by omega
      have hall := eaPart_all xs
      rw [HXL.out] at hall
      rw [hall] at hg
      have HG := Lib.hid hg
      clear hg hb hall
      go_wp2_with fail
      go_ret
      exact ⟨⟨s, Nat.le_of_eq HSE.out, rfl, HG.out⟩, HBR.out⟩
set_option maxRecDepth 100000 in
theorem ppJoins_any (b : Nat) (A : Option Addr) (n c : Nat) (xs : List Int) (w : World) (hP : PropAt w b) (hr : Rd w 1 A n (xs.map (Value.int .i64))) (hn : n ≤ 1000000) :
    Calls Try.prog 37 #[.pointer (some ⟨b, 0, none⟩), .slice A n c] w fun e w' => (∃ g, w.heap.size ≤ g ∧ e = .returned (.slice (some ⟨g, 0, none⟩) n n) ∧ w'.heap[g]? = some (.cells (intsZ (xs.map joinF)).toArray 3 (0, 0))) ∧ Below w.heap.size w w' := by
  have HE := Lib.hid (ppEach_any b A n c xs w hP hr hn)
  clear hP hr
  go_enter Try.func37, Try.ntmps37
  go_wp2_with fail
  refine HE.out.mono ?_
  rintro e w1 ⟨⟨g, hge, rfl, hg⟩, hb⟩
  have HG := Lib.hid hg
  have HB := Lib.hid hb
  clear hg hb
  go_wp2_with fail
  go_ret
  exact ⟨⟨g, hge, rfl, HG.out⟩, HB.out⟩
end Go.Proofs.Ytcjcimdembkbkaa
/- lamalef.Find: what its closure keeps in memory, and one call of it. -/
namespace Go.Proofs.Ytcjcimdembkbkaa
open Go.RowKit

theorem pairSlice : SliceOf Try.prog 35 37 2 16 := .mk_ (z := .agg #[.int .i64 0, .int .i64 0]) Try.underlying35 (by kernel_rfl) rfl
/-- What Find keeps, from block s on: the boxes of the text, the types and 'through', the pairs, and where the next one stands. -/
structure LBox (w : World) (s : Nat) (A : Option Addr) (n c : Nat) (xs : List Int) (B : Option Addr) (d : Nat) (ts : List Int) (th : Bool) (v : Value) (bh : Int) : Prop where
  h0 : w.heap[s]? = some (.cells #[.slice A n c] 22 (0, 0))
  h1 : w.heap[s + 1]? = some (.cells #[.slice B n d] 22 (0, 0))
  h2 : w.heap[s + 2]? = some (.cells #[.bool th] 4 (0, 0))
  h3 : w.heap[s + 3]? = some (.cells #[v] 35 (0, 0))
  h4 : w.heap[s + 4]? = some (.cells #[.int .i64 bh] 3 (0, 0))
  rx : Rd w 1 A n (xs.map (Value.int .i64))
  rt : Rd w 1 B n (ts.map (Value.int .i64))
  la : 0 < n → ∀ ad, A = some ad → ad.block < s
  lb : 0 < n → ∀ ad, B = some ad → ad.block < s
section
variable {w w' : World} {s n c d : Nat} {A B : Option Addr} {xs ts : List Int} {th : Bool} {v : Value} {bh : Int}
theorem LBox.below (h : LBox w s A n c xs B d ts th v bh) (hb : Below (s + 5) w w') : LBox w' s A n c xs B d ts th v bh :=
  ⟨(hb.block s (by omega)).trans h.h0, (hb.block (s + 1) (by omega)).trans h.h1, (hb.block (s + 2) (by omega)).trans h.h2, (hb.block (s + 3) (by omega)).trans h.h3, (hb.block (s + 4) (by omega)).trans h.h4,
   h.rx.belowS h.la (hb.mono (by omega)), h.rt.belowS h.lb (hb.mono (by omega)), h.la, h.lb⟩
theorem LBox.size (h : LBox w s A n c xs B d ts th v bh) : s + 5 ≤ w.heap.size := by have := hp_lt h.h4; omega
theorem LBox.setP (h : LBox w s A n c xs B d ts th v bh) (v' : Value) : LBox (w.setCell ⟨s + 3, 0, none⟩ v') s A n c xs B d ts th v' bh :=
  have hb : Below s w (w.setCell ⟨s + 3, 0, none⟩ v') := (Below.refl s w).setCell (p := ⟨s + 3, 0, none⟩) (by simp) _
  ⟨(hp_far (by omega) _ _).trans h.h0, (hp_far (by omega) _ _).trans h.h1, (hp_far (by omega) _ _).trans h.h2, heap_setCell_same w (s + 3) 0 _ _ _ h.h3, (hp_far (by omega) _ _).trans h.h4, h.rx.belowS h.la hb, h.rt.belowS h.lb hb, h.la, h.lb⟩
theorem LBox.setB (h : LBox w s A n c xs B d ts th v bh) (x : Int) : LBox (w.setCell ⟨s + 4, 0, none⟩ (.int .i64 x)) s A n c xs B d ts th v x :=
  have hb : Below s w (w.setCell ⟨s + 4, 0, none⟩ (.int .i64 x)) := (Below.refl s w).setCell (p := ⟨s + 4, 0, none⟩) (by simp) _
  ⟨(hp_far (by omega) _ _).trans h.h0, (hp_far (by omega) _ _).trans h.h1, (hp_far (by omega) _ _).trans h.h2, (hp_far (by omega) _ _).trans h.h3, heap_setCell_same w (s + 4) 0 _ _ _ h.h4, h.rx.belowS h.la hb, h.rt.belowS h.lb hb, h.la, h.lb⟩
theorem LBox.cell (h : LBox w s A n c xs B d ts th v bh) : w.cell? ⟨s, 0, none⟩ = some (.slice A n c) ∧ w.cell? ⟨s + 1, 0, none⟩ = some (.slice B n d) ∧ w.cell? ⟨s + 2, 0, none⟩ = some (.bool th) ∧ w.cell? ⟨s + 3, 0, none⟩ = some v ∧ w.cell? ⟨s + 4, 0, none⟩ = some (.int .i64 bh) ∧
    w.frozen? ⟨s + 3, 0, none⟩ = false ∧ w.frozen? ⟨s + 4, 0, none⟩ = false :=
  ⟨hp_cell h.h0 rfl, hp_cell h.h1 rfl, hp_cell h.h2 rfl, hp_cell h.h3 rfl, hp_cell h.h4 rfl, hp_froz h.h3 0, hp_froz h.h4 0⟩
end
/-- What a call of the closure leaves: the pairs so far, and where the next one stands. -/
def LGot (w0 w : World) (s : Nat) (A : Option Addr) (n c : Nat) (xs : List Int) (B : Option Addr) (d : Nat) (ts : List Int) (th : Bool) (bh : Int) (l : List Sp) : Prop :=
  ∃ v, LBox w s A n c xs B d ts th v bh ∧ w.ownsRow (s + 5) 37 2 v l.length (cellsS l) ∧ Below s w0 w

set_option maxRecDepth 100000 in
set_option maxHeartbeats 4000000 in
theorem lfSettle_any (s n c d k : Nat) (A B : Option Addr) (xs ts : List Int) (th : Bool) (bh : Int) (l l' : List Sp) (w : World) (hG : LGot w w s A n c xs B d ts th bh l) (hk : k < n) (hx : xs[k]? = some 1604) (hbh : lfNext ts k bh) (hl : l ++ lfAt alefB xs ts th k = l') (hll : l.length ≤ k) (hn : n ≤ 1000000) :
    Calls Try.prog 49 #[.int .i64 (k : Int), .pointer (some ⟨s + 4, 0, none⟩), .pointer (some ⟨s + 1, 0, none⟩), .pointer (some ⟨s, 0, none⟩), .pointer (some ⟨s + 2, 0, none⟩), .pointer (some ⟨s + 3, 0, none⟩)] w fun e w' => (∃ v, e = .returned v) ∧ LGot w w' s A n c xs B d ts th (jFirst ts (k + 1)) l' := by
  obtain ⟨v, hS, hown, _⟩ := hG
  obtain ⟨c0, c1, c2, c3, c4, f3, f4⟩ := hS.cell
  have htl : ts.length = n := by simpa using hS.rt.len1
  have hxl : xs.length = n := by simpa using hS.rx.len1
  have HBE := Lib.hid (jnBehind_any B n d ts k w hS.rt (by omega))
  rw [show jBehind ts k = jFirst ts (k + 1) by unfold jBehind; rw [if_pos ⟨by omega, by omega⟩, Int.toNat_natCast]] at HBE
  obtain ⟨b, hb⟩ : ∃ b, jFirst ts (k + 1) = b := ⟨_, rfl⟩
  have hbr := jFirst_gt ts (k + 1)
  have hnx : ¬ (0 ≤ bh ∧ bh ≤ k) → b = bh := fun h => hb.symm.trans (hbh.is h)
  have hbm := hbh.1
  rw [hb] at HBE hbr ⊢
  have hat : lfAt alefB xs ts th k = if 0 ≤ b ∧ alefB (xs.getD b.toNat 0) = true ∧ (th = true ∨ b = (k : Int) + 1) then [((k : Int), b)] else [] := by
    unfold lfAt; rw [if_pos hx, hb]
  rw [hat] at hl
  rw [htl] at hbr
  obtain ⟨W1, hW1⟩ : ∃ W1, (if 0 ≤ bh ∧ bh ≤ k then w.setCell ⟨s + 4, 0, none⟩ (.int .i64 b) else w) = W1 := ⟨_, rfl⟩
  have hS1 : LBox W1 s A n c xs B d ts th v b := by
    rw [← hW1]
    split
    · exact hS.setB b
    · rename_i h; rw [hnx h]; exact hS
  have ho1 : W1.ownsRow (s + 5) 37 2 v l.length (cellsS l) := by
    rw [← hW1]
    split
    · exact ownsRow_setCell_below hown (by simp) _
    · exact hown
  have hz1 : Below s w W1 := by
    rw [← hW1]
    split
    · exact (Below.refl s w).setCell (p := ⟨s + 4, 0, none⟩) (by simp) _
    · exact Below.refl _ _
  obtain ⟨d0, d1, d2, d3, d4, g3, g4⟩ := hS1.cell
  have HS := Lib.hid hS1
  have HO := Lib.hid ho1
  have HZ := Lib.hid hz1
  have HX := Lib.hid hS.rx
  have HW := Lib.hid hW1
  have HXL := Lib.hid hxl
  clear hS hown hbh hx hat hb hS1 ho1 hz1 htl hW1 hxl
  by_cases hb0 : b = -1
  · obtain rfl : l = l' := by rw [← hl, if_neg (fun h => by omega)]; simp
    subst hb0
    clear hl hbr
    by_cases hq : 0 ≤ bh ∧ bh ≤ k
    · rw [if_pos hq] at HW
      obtain ⟨q1, q2⟩ := hq
      rw [← HW.out] at d0 d1 d2 d3 d4 g3 g4
      clear hnx
      go_enter Try.func49, Try.ntmps49
      go_wp2_with (first
        | (go_at_call 17; with_reducible refine HBE.out.mono ?_; rintro e w1 ⟨rfl, rfl⟩)
        | fail)
      go_end0
      rw [HW.out]
      exact ⟨⟨_, rfl⟩, v, HS.out, HO.out, HZ.out⟩
    · rw [if_neg hq] at HW
      obtain rfl : -1 = bh := hnx hq
      obtain rfl : w = W1 := HW.out
      clear hq hnx
      go_enter Try.func49, Try.ntmps49
      go_wp2_with fail
      go_end0
      exact ⟨⟨_, rfl⟩, v, HS.out, HO.out, HZ.out⟩
  · obtain ⟨b, rfl⟩ : ∃ bn : Nat, b = bn := ⟨b.toNat, by omega⟩
    have hkb : k < b := by omega
    have hbn : b < n := by omega
    obtain ⟨y, hy⟩ : ∃ y, xs[b]? = some y := ⟨_, List.getElem?_eq_getElem (by rw [HXL.out]; exact hbn)⟩
    have hyd : xs.getD b 0 = y := by simp [hy]
    rw [Int.toNat_natCast, hyd] at hl
    have hcell := HS.out.rx.at_ hbn
    obtain ⟨ad, rfl, _, hcc⟩ := hcell
    have cy : W1.cell? (ad.add b) = some (.int .i64 y) := hcc _ (by rw [List.getElem?_map, hy]; rfl)
    have HAL := Lib.hid (fun w => lfAlef_any y w)
    obtain ⟨al, hal⟩ : ∃ al, alefB y = al := ⟨_, rfl⟩
    rw [hal] at HAL hl
    clear hy hyd hal hcc hbr hb0 hbm
    by_cases hadd : al = true ∧ (th = true ∨ (b : Int) = (k : Int) + 1)
    · obtain rfl : l ++ [((k : Int), (b : Int))] = l' := by rw [← hl, if_pos ⟨by omega, hadd⟩]
      obtain ⟨rfl, hth⟩ := hadd
      clear hl
      by_cases hq : 0 ≤ bh ∧ bh ≤ k
      · rw [if_pos hq] at HW
        obtain ⟨q1, q2⟩ := hq
        rw [← HW.out] at d0 d1 d2 d3 d4 g3 g4 cy
        have HS1 := Lib.hid (show LBox (w.setCell ⟨s + 4, 0, none⟩ (.int .i64 (b : Int))) s (some ad) n c xs B d ts th v b by rw [HW.out]; exact HS.out)
        have HO1 := Lib.hid (show (w.setCell ⟨s + 4, 0, none⟩ (.int .i64 (b : Int))).ownsRow (s + 5) 37 2 v l.length (cellsS l) by rw [HW.out]; exact HO.out)
        have HZ1 := Lib.hid (show Below s w (w.setCell ⟨s + 4, 0, none⟩ (.int .i64 (b : Int))) by rw [HW.out]; exact HZ.out)
        clear hnx
        rcases hth with rfl | hth
        · go_enter Try.func49, Try.ntmps49
          go_wp2_with (first
            | (go_at_call 17; with_reducible refine HBE.out.mono ?_; rintro e w1 ⟨rfl, rfl⟩)
            | (go_at_call 32; with_reducible refine (HAL.out _).mono ?_; rintro e w2 ⟨rfl, hb2⟩; have e2 := cell_below hb2 d2; have e3 := cell_below hb2 d3; have e4 := cell_below hb2 d4; have OW2 := own_below (HO1.out) hb2; have HS2 := (HS1.out).below (hb2.mono (HS1.out).size); clear d0 d1 d2 d3 d4 g3 g4)
            | (at_builtin; refine wpList_app rfl _ _ _ rfl pairSlice (by decide) _ l.length _ rfl (OW2.alloc _) ⟨w2.heap.size, 0, none⟩ 1 1 [.int .i64 (k : Int), .int .i64 (b : Int)] rfl rfl (cells_new w2 [_, _] _) (oneInt2 _ _ _) (by omega) (by unfold maxLen; omega) (Nat.le_trans HS2.size (by simp)) ?_; intro v1 w3 hown1 hg1 hat1; obtain ⟨Av, cv, rfl, hcv⟩ := own_form hown1; have hb3 := below_app ((Below.refl (s + 5) w2).alloc HS2.size _) hg1 (OW2.alloc _) (Nat.le_trans HS2.size (by simp)); have HS3 := HS2.below hb3; have t3 := HS3.cell.2.2.2.1; have f3 := HS3.cell.2.2.2.2.2.1)
            | fail)
          go_end0
          exact ⟨⟨_, rfl⟩, _, HS3.setP _, by simpa [cellsS, encS] using ownsRow_setCell_below (a := ⟨s + 3, 0, none⟩) hown1 (show s + 3 < s + 5 by omega) _, ((HZ1.out.trans (hb2.mono (by have := HS1.out.size; omega))).trans (hb3.mono (by omega))).setCell (p := ⟨s + 3, 0, none⟩) (by simp) _⟩
        · have g9 : ((b : Int) == (k : Int) + 1) = true := by simp only [beq_iff_eq]; exact hth
          have g8 : decide ((b : Int) = (k : Int) + 1) = true := decide_eq_true hth
          clear hth
          cases th
          all_goals
            go_enter Try.func49, Try.ntmps49
            go_wp2_with (first
              | (go_at_call 17; with_reducible refine HBE.out.mono ?_; rintro e w1 ⟨rfl, rfl⟩)
              | (go_at_call 32; with_reducible refine (HAL.out _).mono ?_; rintro e w2 ⟨rfl, hb2⟩; have e2 := cell_below hb2 d2; have e3 := cell_below hb2 d3; have e4 := cell_below hb2 d4; have OW2 := own_below (HO1.out) hb2; have HS2 := (HS1.out).below (hb2.mono (HS1.out).size); clear d0 d1 d2 d3 d4 g3 g4)
              | (at_builtin; refine wpList_app rfl _ _ _ rfl pairSlice (by decide) _ l.length _ rfl (OW2.alloc _) ⟨w2.heap.size, 0, none⟩ 1 1 [.int .i64 (k : Int), .int .i64 (b : Int)] rfl rfl (cells_new w2 [_, _] _) (oneInt2 _ _ _) (by omega) (by unfold maxLen; omega) (Nat.le_trans HS2.size (by simp)) ?_; intro v1 w3 hown1 hg1 hat1; obtain ⟨Av, cv, rfl, hcv⟩ := own_form hown1; have hb3 := below_app ((Below.refl (s + 5) w2).alloc HS2.size _) hg1 (OW2.alloc _) (Nat.le_trans HS2.size (by simp)); have HS3 := HS2.below hb3; have t3 := HS3.cell.2.2.2.1; have f3 := HS3.cell.2.2.2.2.2.1)
              | fail)
            go_end0
            exact ⟨⟨_, rfl⟩, _, HS3.setP _, by simpa [cellsS, encS] using ownsRow_setCell_below (a := ⟨s + 3, 0, none⟩) hown1 (show s + 3 < s + 5 by omega) _, ((HZ1.out.trans (hb2.mono (by have := HS1.out.size; omega))).trans (hb3.mono (by omega))).setCell (p := ⟨s + 3, 0, none⟩) (by simp) _⟩
      · rw [if_neg hq] at HW
        obtain rfl : (b : Int) = bh := hnx hq
        obtain rfl : w = W1 := HW.out
        have HS1 := Lib.hid HS.out
        have HO1 := Lib.hid HO.out
        have HZ1 := Lib.hid HZ.out
        have hq' : (k : Int) < (b : Int) := by omega
        clear hq hnx
        rcases hth with rfl | hth
        · go_enter Try.func49, Try.ntmps49
          go_wp2_with (first
            | (go_at_call 17; with_reducible refine HBE.out.mono ?_; rintro e w1 ⟨rfl, rfl⟩)
            | (go_at_call 32; with_reducible refine (HAL.out _).mono ?_; rintro e w2 ⟨rfl, hb2⟩; have e2 := cell_below hb2 d2; have e3 := cell_below hb2 d3; have e4 := cell_below hb2 d4; have OW2 := own_below (HO1.out) hb2; have HS2 := (HS1.out).below (hb2.mono (HS1.out).size); clear d0 d1 d2 d3 d4 g3 g4)
            | (at_builtin; refine wpList_app rfl _ _ _ rfl pairSlice (by decide) _ l.length _ rfl (OW2.alloc _) ⟨w2.heap.size, 0, none⟩ 1 1 [.int .i64 (k : Int), .int .i64 (b : Int)] rfl rfl (cells_new w2 [_, _] _) (oneInt2 _ _ _) (by omega) (by unfold maxLen; omega) (Nat.le_trans HS2.size (by simp)) ?_; intro v1 w3 hown1 hg1 hat1; obtain ⟨Av, cv, rfl, hcv⟩ := own_form hown1; have hb3 := below_app ((Below.refl (s + 5) w2).alloc HS2.size _) hg1 (OW2.alloc _) (Nat.le_trans HS2.size (by simp)); have HS3 := HS2.below hb3; have t3 := HS3.cell.2.2.2.1; have f3 := HS3.cell.2.2.2.2.2.1)
            | fail)
          go_end0
          exact ⟨⟨_, rfl⟩, _, HS3.setP _, by simpa [cellsS, encS] using ownsRow_setCell_below (a := ⟨s + 3, 0, none⟩) hown1 (show s + 3 < s + 5 by omega) _, ((HZ1.out.trans (hb2.mono (by have := HS1.out.size; omega))).trans (hb3.mono (by omega))).setCell (p := ⟨s + 3, 0, none⟩) (by simp) _⟩
        · have g9 : ((b : Int) == (k : Int) + 1) = true := by simp only [beq_iff_eq]; exact hth
          have g8 : decide ((b : Int) = (k : Int) + 1) = true := decide_eq_true hth
          clear hth
          cases th
          all_goals
            go_enter Try.func49, Try.ntmps49
            go_wp2_with (first
              | (go_at_call 17; with_reducible refine HBE.out.mono ?_; rintro e w1 ⟨rfl, rfl⟩)
              | (go_at_call 32; with_reducible refine (HAL.out _).mono ?_; rintro e w2 ⟨rfl, hb2⟩; have e2 := cell_below hb2 d2; have e3 := cell_below hb2 d3; have e4 := cell_below hb2 d4; have OW2 := own_below (HO1.out) hb2; have HS2 := (HS1.out).below (hb2.mono (HS1.out).size); clear d0 d1 d2 d3 d4 g3 g4)
              | (at_builtin; refine wpList_app rfl _ _ _ rfl pairSlice (by decide) _ l.length _ rfl (OW2.alloc _) ⟨w2.heap.size, 0, none⟩ 1 1 [.int .i64 (k : Int), .int .i64 (b : Int)] rfl rfl (cells_new w2 [_, _] _) (oneInt2 _ _ _) (by omega) (by unfold maxLen; omega) (Nat.le_trans HS2.size (by simp)) ?_; intro v1 w3 hown1 hg1 hat1; obtain ⟨Av, cv, rfl, hcv⟩ := own_form hown1; have hb3 := below_app ((Below.refl (s + 5) w2).alloc HS2.size _) hg1 (OW2.alloc _) (Nat.le_trans HS2.size (by simp)); have HS3 := HS2.below hb3; have t3 := HS3.cell.2.2.2.1; have f3 := HS3.cell.2.2.2.2.2.1)
              | fail)
            go_end0
            exact ⟨⟨_, rfl⟩, _, HS3.setP _, by simpa [cellsS, encS] using ownsRow_setCell_below (a := ⟨s + 3, 0, none⟩) hown1 (show s + 3 < s + 5 by omega) _, ((HZ1.out.trans (hb2.mono (by have := HS1.out.size; omega))).trans (hb3.mono (by omega))).setCell (p := ⟨s + 3, 0, none⟩) (by simp) _⟩
    · obtain rfl : l = l' := by rw [← hl, if_neg (fun h => hadd h.2)]; simp
      clear hl
      by_cases hq : 0 ≤ bh ∧ bh ≤ k
      · rw [if_pos hq] at HW
        obtain ⟨q1, q2⟩ := hq
        rw [← HW.out] at d0 d1 d2 d3 d4 g3 g4 cy
        have HS1 := Lib.hid (show LBox (w.setCell ⟨s + 4, 0, none⟩ (.int .i64 (b : Int))) s (some ad) n c xs B d ts th v b by rw [HW.out]; exact HS.out)
        have HO1 := Lib.hid (show (w.setCell ⟨s + 4, 0, none⟩ (.int .i64 (b : Int))).ownsRow (s + 5) 37 2 v l.length (cellsS l) by rw [HW.out]; exact HO.out)
        have HZ1 := Lib.hid (show Below s w (w.setCell ⟨s + 4, 0, none⟩ (.int .i64 (b : Int))) by rw [HW.out]; exact HZ.out)
        clear hnx
        cases al
        · go_enter Try.func49, Try.ntmps49
          go_wp2_with (first
            | (go_at_call 17; with_reducible refine HBE.out.mono ?_; rintro e w1 ⟨rfl, rfl⟩)
            | (go_at_call 32; with_reducible refine (HAL.out _).mono ?_; rintro e w2 ⟨rfl, hb2⟩; have e2 := cell_below hb2 d2; have e3 := cell_below hb2 d3; have e4 := cell_below hb2 d4; have OW2 := own_below (HO1.out) hb2; have HS2 := (HS1.out).below (hb2.mono (HS1.out).size); clear d0 d1 d2 d3 d4 g3 g4)
            | fail)
          go_end0
          exact ⟨⟨_, rfl⟩, v, HS2, OW2, HZ1.out.trans (hb2.mono (by have := HS1.out.size; omega))⟩
        · obtain rfl : th = false := by cases th with
            | false => rfl
            | true => exact absurd ⟨rfl, .inl rfl⟩ hadd
          have g9 : ((b : Int) == (k : Int) + 1) = false := by simp only [beq_eq_false_iff_ne]; exact fun h => hadd ⟨rfl, .inr h⟩
          have g8 : decide ((b : Int) = (k : Int) + 1) = false := decide_eq_false (fun h => hadd ⟨rfl, .inr h⟩)
          clear hadd
          go_enter Try.func49, Try.ntmps49
          go_wp2_with (first
            | (go_at_call 17; with_reducible refine HBE.out.mono ?_; rintro e w1 ⟨rfl, rfl⟩)
            | (go_at_call 32; with_reducible refine (HAL.out _).mono ?_; rintro e w2 ⟨rfl, hb2⟩; have e2 := cell_below hb2 d2; have e3 := cell_below hb2 d3; have e4 := cell_below hb2 d4; have OW2 := own_below (HO1.out) hb2; have HS2 := (HS1.out).below (hb2.mono (HS1.out).size); clear d0 d1 d2 d3 d4 g3 g4)
            | fail)
          go_end0
          exact ⟨⟨_, rfl⟩, v, HS2, OW2, HZ1.out.trans (hb2.mono (by have := HS1.out.size; omega))⟩
      · rw [if_neg hq] at HW
        obtain rfl : (b : Int) = bh := hnx hq
        obtain rfl : w = W1 := HW.out
        have HS1 := Lib.hid HS.out
        have HO1 := Lib.hid HO.out
        have HZ1 := Lib.hid HZ.out
        have hq' : (k : Int) < (b : Int) := by omega
        clear hq hnx
        cases al
        · go_enter Try.func49, Try.ntmps49
          go_wp2_with (first
            | (go_at_call 17; with_reducible refine HBE.out.mono ?_; rintro e w1 ⟨rfl, rfl⟩)
            | (go_at_call 32; with_reducible refine (HAL.out _).mono ?_; rintro e w2 ⟨rfl, hb2⟩; have e2 := cell_below hb2 d2; have e3 := cell_below hb2 d3; have e4 := cell_below hb2 d4; have OW2 := own_below (HO1.out) hb2; have HS2 := (HS1.out).below (hb2.mono (HS1.out).size); clear d0 d1 d2 d3 d4 g3 g4)
            | fail)
          go_end0
          exact ⟨⟨_, rfl⟩, v, HS2, OW2, HZ1.out.trans (hb2.mono (by have := HS1.out.size; omega))⟩
        · obtain rfl : th = false := by cases th with
            | false => rfl
            | true => exact absurd ⟨rfl, .inl rfl⟩ hadd
          have g9 : ((b : Int) == (k : Int) + 1) = false := by simp only [beq_eq_false_iff_ne]; exact fun h => hadd ⟨rfl, .inr h⟩
          have g8 : decide ((b : Int) = (k : Int) + 1) = false := decide_eq_false (fun h => hadd ⟨rfl, .inr h⟩)
          clear hadd
          go_enter Try.func49, Try.ntmps49
          go_wp2_with (first
            | (go_at_call 17; with_reducible refine HBE.out.mono ?_; rintro e w1 ⟨rfl, rfl⟩)
            | (go_at_call 32; with_reducible refine (HAL.out _).mono ?_; rintro e w2 ⟨rfl, hb2⟩; have e2 := cell_below hb2 d2; have e3 := cell_below hb2 d3; have e4 := cell_below hb2 d4; have OW2 := own_below (HO1.out) hb2; have HS2 := (HS1.out).below (hb2.mono (HS1.out).size); clear d0 d1 d2 d3 d4 g3 g4)
            | fail)
          go_end0
          exact ⟨⟨_, rfl⟩, v, HS2, OW2, HZ1.out.trans (hb2.mono (by have := HS1.out.size; omega))⟩
end Go.Proofs.Ytcjcimdembkbkaa
/- lamalef.Find. -/
namespace Go.Proofs.Ytcjcimdembkbkaa
open Go.RowKit

theorem find_start (A B : Option Addr) (n c d : Nat) (xs ts : List Int) (th : Bool) (w : World) (hr : Rd w 1 A n (xs.map (Value.int .i64))) (hs : Rd w 1 B n (ts.map (Value.int .i64))) :
    LGot w (((((w.alloc (.cells #[.slice A n c] 22)).alloc (.cells #[.slice B n d] 22)).alloc (.cells #[.bool th] 4)).alloc (.cells #[.slice none 0 0] 35)).alloc (.cells #[.int .i64 0] 3)) w.heap.size A n c xs B d ts th 0 [] := by
  have hk : Below w.heap.size w (((((w.alloc (.cells #[.slice A n c] 22)).alloc (.cells #[.slice B n d] 22)).alloc (.cells #[.bool th] 4)).alloc (.cells #[.slice none 0 0] 35)).alloc (.cells #[.int .i64 0] 3)) :=
    (((((Below.refl _ _).alloc (Nat.le_refl _) _).alloc (by simp) _).alloc (by simp; omega) _).alloc (by simp; omega) _).alloc (by simp; omega) _
  have hla : 0 < n → ∀ ad, A = some ad → ad.block < w.heap.size := fun hp ad e => by
    obtain ⟨ad', e', hb, _⟩ := hr.2 hp
    rw [e] at e'
    cases e'
    exact hb
  have hlb : 0 < n → ∀ ad, B = some ad → ad.block < w.heap.size := fun hp ad e => by
    obtain ⟨ad', e', hb, _⟩ := hs.2 hp
    rw [e] at e'
    cases e'
    exact hb
  generalize hA : w.alloc (.cells #[.slice A n c] 22) = wa at *
  generalize hB : wa.alloc (.cells #[.slice B n d] 22) = wb at *
  generalize hC : wb.alloc (.cells #[.bool th] 4) = wc at *
  generalize hD : wc.alloc (.cells #[.slice none 0 0] 35) = wd at *
  generalize hE : wd.alloc (.cells #[.int .i64 0] 3) = we at *
  have sa : wa.heap.size = w.heap.size + 1 := by rw [← hA, World.size_alloc]
  have sb : wb.heap.size = w.heap.size + 2 := by rw [← hB, World.size_alloc, sa]
  have sc : wc.heap.size = w.heap.size + 3 := by rw [← hC, World.size_alloc, sb]
  have sd : wd.heap.size = w.heap.size + 4 := by rw [← hD, World.size_alloc, sc]
  have oa : ∀ {k o}, k < wa.heap.size → wa.heap[k]? = some o → wb.heap[k]? = some o := fun hk h => by rw [← hB, heap_alloc_old (h := hk)]; exact h
  have ob : ∀ {k o}, k < wb.heap.size → wb.heap[k]? = some o → wc.heap[k]? = some o := fun hk h => by rw [← hC, heap_alloc_old (h := hk)]; exact h
  have oc : ∀ {k o}, k < wc.heap.size → wc.heap[k]? = some o → wd.heap[k]? = some o := fun hk h => by rw [← hD, heap_alloc_old (h := hk)]; exact h
  have od : ∀ {k o}, k < wd.heap.size → wd.heap[k]? = some o → we.heap[k]? = some o := fun hk h => by rw [← hE, heap_alloc_old (h := hk)]; exact h
  refine ⟨.slice none 0 0, ⟨?_, ?_, ?_, ?_, ?_, hr.below hk, hs.below hk, hla, hlb⟩, ⟨rfl, .inl ⟨rfl, rfl⟩⟩, hk⟩
  · refine od (by omega) (oc (by omega) (ob (by omega) (oa (by omega) ?_)))
    rw [← hA]; exact heap_alloc_new _ _
  · refine od (by omega) (oc (by omega) (ob (by omega) ?_))
    rw [← sa, ← hB]; exact heap_alloc_new _ _
  · refine od (by omega) (oc (by omega) ?_)
    rw [← sb, ← hC]; exact heap_alloc_new _ _
  · refine od (by omega) ?_
    rw [← sc, ← hD]; exact heap_alloc_new _ _
  · rw [← sd, ← hE]; exact heap_alloc_new _ _
set_option maxRecDepth 100000 in
set_option maxHeartbeats 4000000 in
theorem lfFind_any (A B : Option Addr) (n m c d : Nat) (xs ts : List Int) (th : Bool) (w : World) (hr : Rd w 1 A n (xs.map (Value.int .i64))) (hs : Rd w 1 B m (ts.map (Value.int .i64))) (hn : n ≤ 1000000) :
    Calls Try.prog 30 #[.slice A n c, .slice B m d, .bool th] w fun e w' => (∃ v, e = .returned v ∧ w'.ownsRow w.heap.size 37 2 v (lfFind alefB xs ts th).length (cellsS (lfFind alefB xs ts th))) ∧ Below w.heap.size w w' := by
  have hxl : xs.length = n := by simpa using hr.len1
  have htl : ts.length = m := by simpa using hs.len1
  by_cases hnm : n = m
  · subst hnm
    obtain ⟨F, hF⟩ : ∃ F, lfFind alefB xs ts th = F := ⟨_, rfl⟩
    have HF := Lib.hid (show lfUpto alefB xs ts th n = F by rw [← hF]; unfold lfFind; rw [if_pos (by rw [hxl, htl]), hxl])
    rw [hF]
    have HG := Lib.hid (find_start A B n c d xs ts th w hr hs)
    have HXL := Lib.hid hxl
    clear hr hs hxl htl hF
    go_enter Try.func30, Try.ntmps30
    go_wp2_with fail
    simp only [Nat.add_assoc, Nat.reduceAdd]
    have hG := HG.out
    clear HG
    generalize (((((w.alloc (.cells #[.slice A n c] 22)).alloc (.cells #[.slice B n d] 22)).alloc (.cells #[.bool th] 4)).alloc (.cells #[.slice none 0 0] 35)).alloc (.cells #[.int .i64 0] 3)) = w5 at *
    obtain ⟨s, hse⟩ : ∃ s, w.heap.size = s := ⟨_, rfl⟩
    rw [hse] at hG
    simp only [hse]
    have HG := Lib.hid hG
    have HSE := Lib.hid hse
    clear hG hse
    go_loopw [20] (fun i wr => ∃ (k : Nat) (bh : Int), k ≤ n ∧ i = .int .i64 k ∧ lfNext ts k bh ∧ LGot w wr s A n c xs B d ts th bh (lfUpto alefB xs ts th k)) (fun i _ => n - (intOf i).toNat)
    case atStart => exact ⟨0, 0, Nat.zero_le _, rfl, lfNext.start ts, HG.out⟩
    case round =>
      obtain ⟨k, bh, hk, rfl, hnx, v, hS, hown, hb⟩ := hrel
      obtain ⟨c0, c1, c2, c3, c4, f3, f4⟩ := hS.cell
      have HB := Lib.hid hb
      have HNX := Lib.hid hnx
      by_cases hlt : k < n
      · obtain ⟨x, hxk⟩ : ∃ x, xs[k]? = some x := ⟨_, List.getElem?_eq_getElem (by rw [HXL.out]; exact hlt)⟩
        have hcell := hS.rx.at_ hlt
        obtain ⟨ad, rfl, _, hc⟩ := hcell
        have cs : wr.cell? (ad.add k) = some (.int .i64 x) := hc _ (by rw [List.getElem?_map, hxk]; rfl)
        by_cases hx : x = 1604
        · subst hx
          have HST := Lib.hid (lfSettle_any s n c d k (some ad) B xs ts th bh _ _ wr ⟨v, hS, hown, Below.refl _ _⟩ hlt hxk hnx (lfUpto_succ alefB xs ts th k).symm (lfUpto_le _ _ _ _ _) hn)
          clear hS hown hnx hb hc hxk c1 c2 c3 c4 f3 f4
          go_wp2_with (first
            | (go_at_call 49; with_reducible refine HST.out.mono ?_; rintro e w7 ⟨⟨vv, rfl⟩, hG7⟩)
            | fail)
          go_roundw
          case rel =>
            obtain ⟨v7, hS7, ho7, hb7⟩ := hG7
            exact ⟨k + 1, _, by omega, by go_num, (lfNext.new_ ts k).up, v7, hS7, ho7, HB.out.trans hb7⟩
          case measure => simp [intOf]; omega
        · have HK := Lib.hid (show LGot w wr s (some ad) n c xs B d ts th bh (lfUpto alefB xs ts th (k + 1)) by
            have he : lfAt alefB xs ts th k = [] := by
              unfold lfAt
              rw [if_neg (fun h => hx (by rw [hxk] at h; exact Option.some.inj h))]
            rw [lfUpto_succ, he, List.append_nil]
            exact ⟨v, hS, hown, hb⟩)
          have g1 : (x == 1604) = false := by simp [hx]
          clear hS hown hnx hb hc hxk c1 c2 c3 c4 f3 f4 hx
          go_wp2_with fail
          go_roundw
          case rel => exact ⟨k + 1, bh, by omega, by go_num, HNX.out.up, HK.out⟩
          case measure => simp [intOf]; omega
      · obtain rfl : k = n := by omega
        have HO := Lib.hid (show wr.ownsRow s 37 2 v F.length (cellsS F) by rw [← HF.out]; exact own_base hown (by omega))
        clear hS hown hnx hb
        go_wp2_with fail
        go_ret
        rw [HSE.out]
        exact ⟨⟨_, rfl, HO.out⟩, HB.out⟩
  · rw [show lfFind alefB xs ts th = [] from if_neg (by rw [hxl, htl]; exact hnm)]
    have g1 : ((n : Int) == (m : Int)) = false := by simp; omega
    have g2 : ((n : Int) != (m : Int)) = true := by simp; omega
    have hbb : Below w.heap.size w (((w.alloc (.cells #[.slice A n c] 22)).alloc (.cells #[.slice B m d] 22)).alloc (.cells #[.bool th] 4)) := (((Below.refl _ _).alloc (Nat.le_refl _) _).alloc (by simp) _).alloc (by simp; omega) _
    have HBB := Lib.hid hbb
    clear hr hs hxl htl hnm hbb
    go_enter Try.func30, Try.ntmps30
    go_wp2_with fail
    go_ret
    exact ⟨⟨_, rfl, ⟨rfl, .inl ⟨rfl, rfl⟩⟩⟩, HBB.out⟩
end Go.Proofs.Ytcjcimdembkbkaa
/- The reference's Join of a code. -/
namespace Go.Proofs.Ytcjcimdembkbkaa
open Go.RowKit
set_option maxRecDepth 100000 in
set_option maxHeartbeats 1000000 in
theorem refJoin_gen (lJ : List Rg) (nJ : Nat) (cJ : ∀ w : World, Calls Try.prog 60 #[] w fun e w' => e = .returned (.slice (some ⟨w.heap.size, 0, none⟩) nJ nJ) ∧ w' = w.alloc (.cells (cellsG lJ).toArray 81)) (hnJ : lJ.length = nJ) (h4 : nJ ≤ 4096) (c : Int) (w : World) :
    Calls Try.prog 48 #[.int .i64 c] w fun e w' => e = .returned (.int .i64 (getG lJ 0 c)) ∧ Below w.heap.size w w' := by
  have CJ := Lib.hid cJ
  have NJ := Lib.hid hnJ
  clear cJ hnJ
  go_enter Try.func48, Try.ntmps48
  go_wp2_with fail
  refine (CJ.out _).mono ?_
  rintro e w1 ⟨rfl, hw1⟩
  have hr := rd_blk (w := w1) (b := w.heap.size) (t := 81) 3 (cs := cellsG lJ) (m := nJ) (by rw [hw1]; exact heap_alloc_new _ _) (by rw [cellsG_len, NJ.out])
  have hb1 : Below w.heap.size w w1 := by rw [hw1]; exact below_new _ _
  have HR := Lib.hid hr
  clear hw1 hr
  go_wp2_with fail
  refine (refGetG_any (some ⟨w.heap.size, 0, none⟩) nJ nJ lJ 0 c w1 HR.out (by unfold maxLen; omega)).mono ?_
  rintro e w2 ⟨rfl, rfl⟩
  go_wp2
  go_ret
  exact ⟨rfl, hb1⟩
theorem refJoin_any (c v : Int) (hv : joinF c = v) (w : World) : Calls Try.prog 48 #[.int .i64 c] w fun e w' => e = .returned (.int .i64 v) ∧ Below w.heap.size w w' := by
  rw [← hv]
  exact refJoin_gen joinL 68 joinRanges_any (by decide +kernel) (by omega) c w
end Go.Proofs.Ytcjcimdembkbkaa
/- The reference's Forms. -/
namespace Go.Proofs.Ytcjcimdembkbkaa
open Go.RowKit

theorem intSliceJ : SliceOf Try.prog 22 3 1 8 := .mk_ (z := .int .i64 0) Try.underlying22 (by kernel_rfl) rfl
theorem jJoined_last {ts : List Int} {k : Nat} (hk : k < ts.length) : jJoined ts (jAhead ts k) = jJoinI ts (jLast ts k) := by
  have := jLast_lt ts k
  unfold jAhead
  rw [if_pos ⟨by omega, by omega⟩, Int.toNat_natCast]
  unfold jJoined jJoinI
  by_cases c : 0 ≤ jLast ts k
  · rw [if_pos ⟨c, by omega⟩, if_pos c]
  · rw [if_neg (fun h => c h.1), if_neg c]
theorem jJoined_self {ts : List Int} {k : Nat} (hk : k < ts.length) : jJoined ts k = jJoin ts k := by
  unfold jJoined
  rw [if_pos ⟨by omega, by omega⟩, Int.toNat_natCast]
set_option maxRecDepth 100000 in
set_option maxHeartbeats 4000000 in
theorem refForms_any (A : Option Addr) (n c : Nat) (ts : List Int) (w : World) (hr : Rd w 1 A n (ts.map (Value.int .i64))) (hn : n ≤ 1000000) :
    Calls Try.prog 14 #[.slice A n c] w fun e w' => (∃ v, e = .returned v ∧ w'.ownsRow w.heap.size 3 1 v n ((jForms ts).map (Value.int .i64))) ∧ Below w.heap.size w w' := by
  have hlen : ts.length = n := by simpa using hr.len1
  have HL := Lib.hid hlen
  have HR := Lib.hid hr
  clear hlen hr
  go_enter Try.func14, Try.ntmps14
  go_wp2
  go_loopw [3, 4] (fun v i wr => ∃ (k : Nat) (acc : List Int), k ≤ n ∧ i = .int .i64 k ∧ wr.ownsRow w.heap.size 3 1 v k (acc.map (Value.int .i64)) ∧ acc = (jForms ts).take k ∧ Below w.heap.size w wr) (fun _ i _ => n - (intOf i).toNat)
  case atStart => exact ⟨0, [], Nat.zero_le _, rfl, ⟨rfl, .inl ⟨rfl, rfl⟩⟩, by simp, Below.refl _ _⟩
  case round =>
    obtain ⟨k, acc, hk, rfl, hown, hd, hb⟩ := hrel
    have hrd := HR.out.below hb
    by_cases hlt : k < n
    · obtain ⟨t, htk⟩ : ∃ t, ts[k]? = some t := ⟨_, List.getElem?_eq_getElem (by rw [HL.out]; exact hlt)⟩
      have hfk := jForms_at (ts := ts) (k := k) (by rw [HL.out]; exact hlt)
      have hacc : acc ++ [jForm ts k] = (jForms ts).take (k + 1) := by rw [hd, List.take_add_one, hfk]; rfl
      rw [jForm_at htk] at hacc
      have HA := Lib.hid (refAhead_any A n c ts k wr hrd hn)
      obtain ⟨q, hq⟩ : ∃ q, jAhead ts k = q := ⟨_, rfl⟩
      obtain ⟨a, ha⟩ : ∃ a, jJoinI ts (jLast ts k) = a := ⟨_, rfl⟩
      obtain ⟨j, hj⟩ : ∃ j, jJoin ts k = j := ⟨_, rfl⟩
      have hja := jJoined_last (ts := ts) (k := k) (by rw [HL.out]; exact hlt)
      have hjs := jJoined_self (ts := ts) (k := k) (by rw [HL.out]; exact hlt)
      rw [hq, ha] at hja
      rw [hj] at hjs
      rw [ha, hj] at hacc
      rw [hq] at HA
      have HJ1 := Lib.hid (fun w1 (h : Rd w1 1 A n (ts.map (Value.int .i64))) => refJoined_of A n c ts q a hja w1 h hn)
      have HJ2 := Lib.hid (fun w1 (h : Rd w1 1 A n (ts.map (Value.int .i64))) => refJoined_of A n c ts k j hjs w1 h hn)
      obtain ⟨ad, rfl, _, hc⟩ := hrd.at_ hlt
      have cs : wr.cell? (ad.add k) = some (.int .i64 t) := hc _ (by rw [List.getElem?_map, htk]; rfl)
      have hbz := Below.refl wr.heap.size wr
      have HO := Lib.hid hown
      have HB := Lib.hid hb
      have HRD := Lib.hid hrd
      by_cases hf : formedB t = true
      · have h3 : t = 3 ∨ t = 2 ∨ t = 4 := by
          unfold formedB at hf
          simpa [or_assoc] using hf
        rw [if_pos hf] at hacc
        have HX := Lib.hid hacc
        clear hf hacc hd hq ha hj hja hjs htk hfk hc hown hb hrd
        rcases h3 with rfl | rfl | rfl <;> cases a <;> cases j
        all_goals
          go_wp2_with (first
            | (go_at_call 16; with_reducible refine HA.out.mono ?_; rintro e w1 ⟨rfl, rfl⟩)
            | (go_at_call 20; with_reducible refine (HJ1.out _ (HRD.out.below hbz)).mono ?_; rintro e w1 ⟨rfl, h9⟩; replace hbz := below_self hbz h9; clear h9)
            | (go_at_call 20; with_reducible refine (HJ2.out _ (HRD.out.below hbz)).mono ?_; rintro e w1 ⟨rfl, h9⟩; replace hbz := below_self hbz h9; clear h9)
            | (at_builtin; refine wpList_app rfl _ _ _ rfl intSliceJ (by decide) _ k _ rfl ((own_below HO.out hbz).alloc _) _ 1 1 [.int .i64 _] rfl rfl (cell_one_new _ _ _) (oneInt _ _) (by omega) (by unfold maxLen; omega) (Nat.le_trans (below_self HB.out hbz).size (by simp)) ?_; intro v1 w2 hown1 hg1 hat1)
            | fail)
          have hb2 := below_self HB.out hbz
          have hgr := below_app (hb2.alloc hb2.size _) hg1 ((own_below HO.out hbz).alloc _) (Nat.le_trans hb2.size (by simp))
          go_roundw
          case rel => exact ⟨k + 1, _, by omega, by go_num, by simpa [formK] using hown1, HX.out, hgr⟩
          case measure => simp [intOf]; omega
      · have g3 : (t == 3) = false := by unfold formedB at hf; simp only [Bool.or_eq_true, not_or, Bool.not_eq_true] at hf; exact hf.1.1
        have g2 : (t == 2) = false := by unfold formedB at hf; simp only [Bool.or_eq_true, not_or, Bool.not_eq_true] at hf; exact hf.1.2
        have g4 : (t == 4) = false := by unfold formedB at hf; simp only [Bool.or_eq_true, not_or, Bool.not_eq_true] at hf; exact hf.2
        rw [if_neg hf] at hacc
        have HX := Lib.hid hacc
        clear hf hacc hd hq ha hj hja hjs htk hfk hc hown hb hrd
        go_wp2_with (first
          | (go_at_call 16; with_reducible refine HA.out.mono ?_; rintro e w1 ⟨rfl, rfl⟩)
          | (go_at_call 20; with_reducible refine (HJ1.out _ (HRD.out.below hbz)).mono ?_; rintro e w1 ⟨rfl, h9⟩; replace hbz := below_self hbz h9; clear h9)
          | (at_builtin; refine wpList_app rfl _ _ _ rfl intSliceJ (by decide) _ k _ rfl ((own_below HO.out hbz).alloc _) _ 1 1 [.int .i64 _] rfl rfl (cell_one_new _ _ _) (oneInt _ _) (by omega) (by unfold maxLen; omega) (Nat.le_trans (below_self HB.out hbz).size (by simp)) ?_; intro v1 w2 hown1 hg1 hat1)
          | fail)
        have hb2 := below_self HB.out hbz
        have hgr := below_app (hb2.alloc hb2.size _) hg1 ((own_below HO.out hbz).alloc _) (Nat.le_trans hb2.size (by simp))
        go_roundw
        case rel => exact ⟨k + 1, _, by omega, by go_num, by simpa using hown1, HX.out, hgr⟩
        case measure => simp [intOf]; omega
    · obtain rfl : k = n := by omega
      rw [hd, List.take_of_length_le (by rw [jForms_len, HL.out]; exact Nat.le_refl _)] at hown
      have HO := Lib.hid hown
      have HB := Lib.hid hb
      clear hown hd hb hrd
      go_wp2
      go_ret
      exact ⟨⟨_, rfl, HO.out⟩, HB.out⟩
end Go.Proofs.Ytcjcimdembkbkaa
/- The reference's Find; its Joins of a text. -/
namespace Go.Proofs.Ytcjcimdembkbkaa
open Go.RowKit

theorem pairSliceR : SliceOf Try.prog 35 37 2 16 := .mk_ (z := .agg #[.int .i64 0, .int .i64 0]) Try.underlying35 (by kernel_rfl) rfl
set_option maxRecDepth 100000 in
set_option maxHeartbeats 4000000 in
theorem refJoins_any (A : Option Addr) (n c : Nat) (xs : List Int) (w : World) (hr : Rd w 1 A n (xs.map (Value.int .i64))) (hn : n ≤ 1000000) :
    Calls Try.prog 28 #[.slice A n c] w fun e w' => (∃ v, e = .returned v ∧ w'.ownsRow w.heap.size 3 1 v n ((xs.map joinF).map (Value.int .i64))) ∧ Below w.heap.size w w' := by
  have hlen : xs.length = n := by simpa using hr.len1
  have HL := Lib.hid hlen
  have HR := Lib.hid hr
  clear hlen hr
  go_enter Try.func28, Try.ntmps28
  go_wp2
  go_loopw [3, 4] (fun v i wr => ∃ (k : Nat) (acc : List Int), k ≤ n ∧ i = .int .i64 k ∧ wr.ownsRow w.heap.size 3 1 v k (acc.map (Value.int .i64)) ∧ acc = (xs.map joinF).take k ∧ Below w.heap.size w wr) (fun _ i _ => n - (intOf i).toNat)
  case atStart => exact ⟨0, [], Nat.zero_le _, rfl, ⟨rfl, .inl ⟨rfl, rfl⟩⟩, by simp, Below.refl _ _⟩
  case round =>
    obtain ⟨k, acc, hk, rfl, hown, hd, hb⟩ := hrel
    have hrd := HR.out.below hb
    by_cases hlt : k < n
    · obtain ⟨t, htk⟩ : ∃ t, xs[k]? = some t := ⟨_, List.getElem?_eq_getElem (by rw [HL.out]; exact hlt)⟩
      have hacc : acc ++ [joinF t] = (xs.map joinF).take (k + 1) := by rw [hd, List.take_add_one, List.getElem?_map, htk]; rfl
      obtain ⟨ad, rfl, _, hc⟩ := hrd.at_ hlt
      have cs : wr.cell? (ad.add k) = some (.int .i64 t) := hc _ (by rw [List.getElem?_map, htk]; rfl)
      have HO := Lib.hid hown
      have HB := Lib.hid hb
      have HX := Lib.hid hacc
      obtain ⟨jv, hjv⟩ : ∃ jv, joinF t = jv := ⟨_, rfl⟩
      have HJ := Lib.hid (fun w => refJoin_any t jv hjv w)
      rw [hjv] at HX
      clear hown hd hb hrd hc htk hacc hjv
      go_wp2_with (first
        | (go_at_call 48; with_reducible refine (HJ.out _).mono ?_; rintro e w1 ⟨rfl, hb1⟩)
        | (at_builtin; refine wpList_app rfl _ _ _ rfl intSliceJ (by decide) _ k _ rfl ((own_below HO.out hb1).alloc _) _ 1 1 [.int .i64 _] rfl rfl (cell_one_new _ _ _) (oneInt _ _) (by omega) (by unfold maxLen; omega) (Nat.le_trans (below_self HB.out hb1).size (by simp)) ?_; intro v1 w2 hown1 hg1 hat1)
        | fail)
      have hb2 := below_self HB.out hb1
      have hgr := below_app (hb2.alloc hb2.size _) hg1 ((own_below HO.out hb1).alloc _) (Nat.le_trans hb2.size (by simp))
      go_roundw
      case rel => exact ⟨k + 1, _, by omega, by go_num, by simpa using hown1, HX.out, hgr⟩
      case measure => simp [intOf]; omega
    · obtain rfl : k = n := by omega
      rw [hd, List.take_of_length_le (by rw [List.length_map, HL.out]; exact Nat.le_refl _)] at hown
      have HO := Lib.hid hown
      have HB := Lib.hid hb
      clear hown hd hb hrd
      go_wp2
      go_ret
      exact ⟨⟨_, rfl, HO.out⟩, HB.out⟩
set_option maxRecDepth 100000 in
set_option maxHeartbeats 4000000 in
theorem refFind_any (A B : Option Addr) (n m c d : Nat) (xs ts : List Int) (th : Bool) (w : World) (hr : Rd w 1 A n (xs.map (Value.int .i64))) (hs : Rd w 1 B m (ts.map (Value.int .i64))) (hn : n ≤ 1000000) :
    Calls Try.prog 31 #[.slice A n c, .slice B m d, .bool th] w fun e w' => (∃ v, e = .returned v ∧ w'.ownsRow w.heap.size 37 2 v (lfFind alefB xs ts th).length (cellsS (lfFind alefB xs ts th))) ∧ Below w.heap.size w w' := by
  have hxl : xs.length = n := by simpa using hr.len1
  have htl : ts.length = m := by simpa using hs.len1
  by_cases hnm : n = m
  · subst hnm
    obtain ⟨F, hF⟩ : ∃ F, lfFind alefB xs ts th = F := ⟨_, rfl⟩
    have HF := Lib.hid (show lfUpto alefB xs ts th n = F by rw [← hF]; unfold lfFind; rw [if_pos (by rw [hxl, htl]), hxl])
    rw [hF]
    have HXL := Lib.hid hxl
    have HTL := Lib.hid htl
    have HR := Lib.hid hr
    have HS := Lib.hid hs
    clear hr hs hxl htl hF
    go_enter Try.func31, Try.ntmps31
    go_wp2_with fail
    go_loopw [7, 8] (fun v i wr => ∃ (k : Nat) (l : List Sp), k ≤ n ∧ i = .int .i64 k ∧ wr.ownsRow w.heap.size 37 2 v l.length (cellsS l) ∧ l = lfUpto alefB xs ts th k ∧ Below w.heap.size w wr) (fun _ i _ => n - (intOf i).toNat)
    case atStart => exact ⟨0, [], Nat.zero_le _, rfl, ⟨rfl, .inl ⟨rfl, rfl⟩⟩, rfl, Below.refl _ _⟩
    case round =>
      obtain ⟨k, l, hk, rfl, hown, hl, hb⟩ := hrel
      have HB := Lib.hid hb
      have HO := Lib.hid hown
      have HRD := Lib.hid (HR.out.below hb)
      have HSD := Lib.hid (HS.out.below hb)
      have hll : l.length ≤ k := by rw [hl]; exact lfUpto_le _ _ _ _ _
      by_cases hlt : k < n
      · obtain ⟨x, hxk⟩ : ∃ x, xs[k]? = some x := ⟨_, List.getElem?_eq_getElem (by rw [HXL.out]; exact hlt)⟩
        have hcell := HRD.out.at_ hlt
        obtain ⟨ad, rfl, _, hc⟩ := hcell
        have cs : wr.cell? (ad.add k) = some (.int .i64 x) := hc _ (by rw [List.getElem?_map, hxk]; rfl)
        have HBE := Lib.hid (refBehind_any B n d ts k wr HSD.out (by omega))
        rw [show jBehind ts k = jFirst ts (k + 1) by unfold jBehind; rw [if_pos ⟨by omega, by rw [HTL.out]; omega⟩, Int.toNat_natCast]] at HBE
        have hup := lfUpto_succ alefB xs ts th k
        rw [← hl] at hup
        clear hb hown hl hc
        by_cases hx : x = 1604
        · subst hx
          have hat : lfAt alefB xs ts th k = if 0 ≤ jFirst ts (k + 1) ∧ alefB (xs.getD (jFirst ts (k + 1)).toNat 0) = true ∧ (th = true ∨ jFirst ts (k + 1) = (k : Int) + 1) then [((k : Int), jFirst ts (k + 1))] else [] := by
            unfold lfAt; rw [if_pos hxk]
          have hbr := jFirst_gt ts (k + 1)
          obtain ⟨b, hbe⟩ : ∃ b, jFirst ts (k + 1) = b := ⟨_, rfl⟩
          rw [hbe] at HBE hat hbr
          rw [HTL.out] at hbr
          rw [hat] at hup
          clear hat hbe hxk
          by_cases hb0 : b = -1
          · subst hb0
            rw [if_neg (fun h => by omega), List.append_nil] at hup
            have HUP := Lib.hid hup
            clear hup hbr
            go_wp2_with (first
              | (go_at_call 18; with_reducible refine HBE.out.mono ?_; rintro e w1 ⟨rfl, rfl⟩)
              | fail)
            go_roundw
            case rel => exact ⟨k + 1, l, by omega, by go_num, HO.out, HUP.out.symm, HB.out⟩
            case measure => simp [intOf]; omega
          · obtain ⟨b, rfl⟩ : ∃ bn : Nat, b = bn := ⟨b.toNat, by omega⟩
            have hbn : b < n := by omega
            obtain ⟨y, hy⟩ : ∃ y, xs[b]? = some y := ⟨_, List.getElem?_eq_getElem (by rw [HXL.out]; exact hbn)⟩
            have cy : wr.cell? (ad.add b) = some (.int .i64 y) := HRD.out.news b _ (by rw [List.getElem?_map, hy]; rfl)
            have hyd : xs.getD b 0 = y := by simp [hy]
            rw [Int.toNat_natCast, hyd] at hup
            have HAL := Lib.hid (fun w => refAlef_any y w)
            obtain ⟨al, hal⟩ : ∃ al, alefB y = al := ⟨_, rfl⟩
            rw [hal] at HAL hup
            clear hy hyd hal hbr hb0
            by_cases hadd : al = true ∧ (th = true ∨ (b : Int) = (k : Int) + 1)
            · rw [if_pos ⟨by omega, hadd⟩] at hup
              obtain ⟨rfl, hth⟩ := hadd
              have HUP := Lib.hid hup
              clear hup
              have key : th = true ∨ (th = false ∧ (b : Int) = (k : Int) + 1) := by cases th with
                | true => exact .inl rfl
                | false => exact .inr ⟨rfl, hth.elim (fun h => absurd h (by decide)) id⟩
              clear hth
              rcases key with rfl | ⟨rfl, hth⟩
              · go_wp2_with (first
                  | (go_at_call 18; with_reducible refine HBE.out.mono ?_; rintro e w1 ⟨rfl, rfl⟩)
                  | (go_at_call 33; with_reducible refine (HAL.out _).mono ?_; rintro e w2 ⟨rfl, hb2⟩)
                  | (at_builtin; refine wpList_app rfl _ _ _ rfl pairSliceR (by decide) _ l.length _ rfl ((own_below HO.out hb2).alloc _) ⟨w2.heap.size, 0, none⟩ 1 1 [.int .i64 (k : Int), .int .i64 (b : Int)] rfl rfl (cells_new w2 [_, _] _) (oneInt2 _ _ _) (by omega) (by unfold maxLen; omega) (Nat.le_trans (below_self HB.out hb2).size (by simp)) ?_; intro v1 w3 hown1 hg1 hat1)
                  | fail)
                have hb3 := below_self HB.out hb2
                have hgr := below_app (hb3.alloc hb3.size _) hg1 ((own_below HO.out hb2).alloc _) (Nat.le_trans hb3.size (by simp))
                go_roundw
                case rel => exact ⟨k + 1, _, by omega, by go_num, by simpa [cellsS, encS] using hown1, HUP.out.symm, hgr⟩
                case measure => simp [intOf]; omega
              · have g9 : ((b : Int) == (k : Int) + 1) = true := by simp only [beq_iff_eq]; exact hth
                have g8 : decide ((b : Int) = (k : Int) + 1) = true := decide_eq_true hth
                clear hth
                go_wp2_with (first
                  | (go_at_call 18; with_reducible refine HBE.out.mono ?_; rintro e w1 ⟨rfl, rfl⟩)
                  | (go_at_call 33; with_reducible refine (HAL.out _).mono ?_; rintro e w2 ⟨rfl, hb2⟩)
                  | (at_builtin; refine wpList_app rfl _ _ _ rfl pairSliceR (by decide) _ l.length _ rfl ((own_below HO.out hb2).alloc _) ⟨w2.heap.size, 0, none⟩ 1 1 [.int .i64 (k : Int), .int .i64 (b : Int)] rfl rfl (cells_new w2 [_, _] _) (oneInt2 _ _ _) (by omega) (by unfold maxLen; omega) (Nat.le_trans (below_self HB.out hb2).size (by simp)) ?_; intro v1 w3 hown1 hg1 hat1)
                  | fail)
                have hb3 := below_self HB.out hb2
                have hgr := below_app (hb3.alloc hb3.size _) hg1 ((own_below HO.out hb2).alloc _) (Nat.le_trans hb3.size (by simp))
                go_roundw
                case rel => exact ⟨k + 1, _, by omega, by go_num, by simpa [cellsS, encS] using hown1, HUP.out.symm, hgr⟩
                case measure => simp [intOf]; omega
            · rw [if_neg (fun h => hadd h.2), List.append_nil] at hup
              have HUP := Lib.hid hup
              clear hup
              cases al
              · clear hadd
                go_wp2_with (first
                  | (go_at_call 18; with_reducible refine HBE.out.mono ?_; rintro e w1 ⟨rfl, rfl⟩)
                  | (go_at_call 33; with_reducible refine (HAL.out _).mono ?_; rintro e w2 ⟨rfl, hb2⟩)
                  | fail)
                go_roundw
                case rel => exact ⟨k + 1, l, by omega, by go_num, own_below HO.out hb2, HUP.out.symm, below_self HB.out hb2⟩
                case measure => simp [intOf]; omega
              · obtain rfl : th = false := by cases th with
                  | false => rfl
                  | true => exact absurd ⟨rfl, .inl rfl⟩ hadd
                have g9 : ((b : Int) == (k : Int) + 1) = false := by simp only [beq_eq_false_iff_ne]; exact fun h => hadd ⟨rfl, .inr h⟩
                have g8 : decide ((b : Int) = (k : Int) + 1) = false := decide_eq_false (fun h => hadd ⟨rfl, .inr h⟩)
                clear hadd
                go_wp2_with (first
                  | (go_at_call 18; with_reducible refine HBE.out.mono ?_; rintro e w1 ⟨rfl, rfl⟩)
                  | (go_at_call 33; with_reducible refine (HAL.out _).mono ?_; rintro e w2 ⟨rfl, hb2⟩)
                  | fail)
                go_roundw
                case rel => exact ⟨k + 1, l, by omega, by go_num, own_below HO.out hb2, HUP.out.symm, below_self HB.out hb2⟩
                case measure => simp [intOf]; omega
        · have he : lfAt alefB xs ts th k = [] := by
            unfold lfAt
            rw [if_neg (fun h => hx (by rw [hxk] at h; exact Option.some.inj h))]
          rw [he, List.append_nil] at hup
          have HUP := Lib.hid hup
          have g1 : (x == 1604) = false := by simp [hx]
          clear hx he hup hxk
          go_wp2_with (first
            | (go_at_call 18; with_reducible refine HBE.out.mono ?_; rintro e w1 ⟨rfl, rfl⟩)
            | fail)
          go_roundw
          case rel => exact ⟨k + 1, l, by omega, by go_num, HO.out, HUP.out.symm, HB.out⟩
          case measure => simp [intOf]; omega
      · obtain rfl : k = n := by omega
        have hlf := hl.trans HF.out
        rw [hlf] at HO
        clear hown hb hl hlf hll
        go_wp2_with fail
        go_ret
        exact ⟨⟨_, rfl, HO.out⟩, HB.out⟩
  · rw [show lfFind alefB xs ts th = [] from if_neg (by rw [hxl, htl]; exact hnm)]
    have g1 : ((n : Int) == (m : Int)) = false := by simp; omega
    have g2 : ((n : Int) != (m : Int)) = true := by simp; omega
    clear hr hs hxl htl hnm
    go_enter Try.func31, Try.ntmps31
    go_wp2_with fail
    go_ret
    exact ⟨⟨_, rfl, ⟨rfl, .inl ⟨rfl, rfl⟩⟩⟩, Below.refl _ _⟩
end Go.Proofs.Ytcjcimdembkbkaa
/- lamalef's form, within, Codes. -/
namespace Go.Proofs.Ytcjcimdembkbkaa
open Go.RowKit

def ligV (a f : Int) : Int := (ligF a f).1
def lfForm (ts : List Int) (i : Int) : Int := if jJoined ts (jAhead ts i) then 2 else 1
theorem lfForm_any (B : Option Addr) (m d : Nat) (ts : List Int) (i v : Int) (hv : lfForm ts i = v) (w : World) (hs : Rd w 1 B m (ts.map (Value.int .i64))) (hm : m ≤ 1000000) (hmd : m ≤ d) :
    Calls Try.prog 53 #[.slice B m d, .int .i64 i] w fun e w' => e = .returned (.int .i64 v) ∧ Below w.heap.size w w' := by
  have HA := Lib.hid (jnAhead_any B m d ts i w hs hm hmd)
  obtain ⟨q, hq⟩ : ∃ q, jAhead ts i = q := ⟨_, rfl⟩
  unfold lfForm at hv
  rw [hq] at HA hv
  have HJ := Lib.hid (fun w1 (h : Rd w1 1 B m (ts.map (Value.int .i64))) => jnJoined_any B m d ts q w1 h hm)
  obtain ⟨j, hj⟩ : ∃ j, jJoined ts q = j := ⟨_, rfl⟩
  rw [hj] at HJ hv
  have HS := Lib.hid hs
  clear hs hq hj
  cases j with
  | true =>
    obtain rfl : (2 : Int) = v := hv
    go_enter Try.func53, Try.ntmps53
    go_wp2_with (first
      | (go_at_call 15; with_reducible refine HA.out.mono ?_; rintro e w1 ⟨rfl, hb1⟩)
      | (go_at_call 19; with_reducible refine (HJ.out _ (HS.out.below hb1)).mono ?_; rintro e w2 ⟨rfl, rfl⟩)
      | fail)
    go_ret
    exact ⟨rfl, hb1⟩
  | false =>
    obtain rfl : (1 : Int) = v := hv
    go_enter Try.func53, Try.ntmps53
    go_wp2_with (first
      | (go_at_call 15; with_reducible refine HA.out.mono ?_; rintro e w1 ⟨rfl, hb1⟩)
      | (go_at_call 19; with_reducible refine (HJ.out _ (HS.out.below hb1)).mono ?_; rintro e w2 ⟨rfl, rfl⟩)
      | fail)
    go_ret
    exact ⟨rfl, hb1⟩
theorem lfWithin_any (A : Option Addr) (n c : Nat) (a b : Int) (v : Bool) (hv : decide (0 ≤ a ∧ a < n ∧ 0 ≤ b ∧ b < n) = v) (w : World) :
    Calls Try.prog 52 #[.slice A n c, .agg #[.int .i64 a, .int .i64 b]] w fun e w' => e = .returned (.bool v) ∧ Below w.heap.size w w' := by
  have hb := below_new w (.cells #[.int .i64 a, .int .i64 b] 37)
  have HB := Lib.hid hb
  clear hb
  have HV := Lib.hid hv
  clear hv
  go_enter Try.func52, Try.ntmps52
  go_wp2
  all_goals
    go_ret
    refine ⟨?_, HB.out⟩
    refine retB ?_
    rw [← HV.out]
    simp
    omega
/-- The codes of the first k pairs; 0 of the others. -/
def lcPart (xs ts : List Int) (l : List Sp) (k : Nat) : List Int := (List.range l.length).map fun j => if j < k then lfCode ligV xs ts (l.getD j (0, 0)) else 0
def lcAll (xs ts : List Int) (l : List Sp) : List Int := l.map (lfCode ligV xs ts)
theorem lcPart_zero (xs ts : List Int) (l : List Sp) : lcPart xs ts l 0 = List.replicate l.length 0 := by
  apply List.ext_getElem <;> simp [lcPart]
theorem lcPart_all (xs ts : List Int) (l : List Sp) : lcPart xs ts l l.length = lcAll xs ts l := by
  apply List.ext_getElem
  · simp [lcPart, lcAll]
  · intro i h1 h2
    have hi : i < l.length := by simpa [lcPart] using h1
    simp [lcPart, lcAll, hi]
theorem lcPart_len (xs ts : List Int) (l : List Sp) (k : Nat) : (lcPart xs ts l k).length = l.length := by simp [lcPart]
theorem lcPart_at {xs ts : List Int} {l : List Sp} {k : Nat} (hk : k < l.length) : (lcPart xs ts l k)[k]? = some 0 := by simp [lcPart, hk]
theorem lcPart_succ {xs ts : List Int} {l : List Sp} {k : Nat} {p : Sp} (hp : l[k]? = some p) : lcPart xs ts l (k + 1) = (lcPart xs ts l k).set k (lfCode ligV xs ts p) := by
  have hk := (List.getElem?_eq_some_iff.1 hp).1
  apply List.ext_getElem
  · simp [lcPart]
  · intro i h1 h2
    have hi : i < l.length := by simpa [lcPart] using h1
    rw [List.getElem_set]
    simp only [lcPart, List.getElem_map, List.getElem_range]
    by_cases e : k = i
    · subst e
      rw [if_pos (by omega), if_pos rfl]
      simp [hp]
    · rw [if_neg e]
      by_cases h : i < k
      · rw [if_pos (by omega), if_pos h]
      · rw [if_neg (by omega), if_neg h]
theorem lcPart_stay {xs ts : List Int} {l : List Sp} {k : Nat} {p : Sp} (hp : l[k]? = some p) (h0 : lfCode ligV xs ts p = 0) : lcPart xs ts l (k + 1) = lcPart xs ts l k := by
  rw [lcPart_succ hp, h0]
  have hk := (List.getElem?_eq_some_iff.1 hp).1
  have h := lcPart_at (xs := xs) (ts := ts) hk
  apply List.ext_getElem
  · simp
  · intro i h1 h2
    rw [List.getElem_set]
    split
    · rename_i e; subst e
      rw [List.getElem?_eq_getElem (by rw [lcPart_len]; exact hk)] at h
      exact (Option.some.inj h).symm
    · rfl
end Go.Proofs.Ytcjcimdembkbkaa
