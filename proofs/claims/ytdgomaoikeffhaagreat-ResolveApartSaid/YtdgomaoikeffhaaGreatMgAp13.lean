/- Texts of one claim, one behind the other. -/
import Derived.Laws.EntriesVeiled
import Derived.Shelf.Abstract
import Derived.BigQuiet
import Derived.Deep.DeepCutAuto
import Derived.Test.YtdgomaoikeffhaaGreatMgAp2
import Derived.Test.YtdgomaoikeffhaaGreatMgAp3
import Derived.Test.YtdgomaoikeffhaaGreatMgAp12
/- neutral's N1, walked. -/
namespace Go.Proofs.YtdgomaoikeffhaaGreat
open Go.RowKit

/-- N1 at work: what it captured; the classes up to lo as they will be. -/
structure N1At (w0 w : World) (gb b3 b4 b5 b7 : Nat) (A C : Option Addr) (n c cc : Nat) (l : List Int) (sos eos : Int) (lo : Nat) : Prop where
  x3 : w.heap[b3]? = some (.cells #[.slice A n c] 22 (0, 0))
  x4 : w.heap[b4]? = some (.cells #[.int .i64 sos] 3 (0, 0))
  x5 : w.heap[b5]? = some (.cells #[.int .i64 eos] 3 (0, 0))
  x7 : w.heap[b7]? = some (.cells #[.slice C n cc] 22 (0, 0))
  l4 : b4 < gb
  l5 : b5 < gb
  bs : w0.heap.size ≤ gb
  row : w.ownsRow gb 3 1 (.slice C n cc) n ((mixR (nu1 (sideF sos) eos l) l lo).map (Value.int .i64))
  rd : Rd w 1 A n (l.map (Value.int .i64))
  rdb : 0 < n → ∀ ad, A = some ad → ad.block < w0.heap.size
  low : Below w0.heap.size w0 w
section
variable {w0 w w' : World} {gb b3 b4 b5 b7 n c cc lo : Nat} {A C : Option Addr} {l : List Int} {sos eos : Int}
theorem N1At.lowr (h : N1At w0 w gb b3 b4 b5 b7 A C n c cc l sos eos lo) (hb : Below w.heap.size w w') : N1At w0 w' gb b3 b4 b5 b7 A C n c cc l sos eos lo :=
  ⟨(hb.block _ (hp_lt h.x3)).trans h.x3, (hb.block _ (hp_lt h.x4)).trans h.x4, (hb.block _ (hp_lt h.x5)).trans h.x5, (hb.block _ (hp_lt h.x7)).trans h.x7, h.l4, h.l5, h.bs, own_below h.row hb, h.rd.below hb, h.rdb, h.low.trans (hb.mono h.low.size)⟩
theorem N1At.len (h : N1At w0 w gb b3 b4 b5 b7 A C n c cc l sos eos lo) : l.length = n := by simpa using h.rd.len1
theorem N1At.put {g hi : Nat} (h : N1At w0 w gb b3 b4 b5 b7 A (some ⟨g, 0, none⟩) n c cc l sos eos lo) (hg : w.grownBy w' (some g)) (hr : w'.ownsRow gb 3 1 (.slice (some ⟨g, 0, none⟩) n cc) n ((mixR (nu1 (sideF sos) eos l) l hi).map (Value.int .i64))) : N1At w0 w' gb b3 b4 b5 b7 A (some ⟨g, 0, none⟩) n c cc l sos eos hi := by
  have hgl := h.row.lt g rfl
  obtain ⟨c1, h1⟩ := own_row h.row g rfl
  have n3 : b3 ≠ g := by rintro rfl; have := h.x3; rw [h1] at this; simp at this
  have n7 : b7 ≠ g := by rintro rfl; have := h.x7; rw [h1] at this; simp at this
  have n4 : b4 ≠ g := by have := h.l4; omega
  have n5 : b5 ≠ g := by have := h.l5; omega
  have blk : ∀ {b : Nat} {o : Obj}, w.heap[b]? = some o → b ≠ g → w'.heap[b]? = some o := fun hb hn => (hg.block _ (hp_lt hb) (fun e => hn (Option.some.inj e))).trans hb
  have hlow : Below w0.heap.size w w' := (Below.refl _ w).grown hg h.low.size (fun k e => by cases e; have := h.bs; omega)
  exact ⟨blk h.x3 n3, blk h.x4 n4, blk h.x5 n5, blk h.x7 n7, h.l4, h.l5, h.bs, hr, h.rd.belowS h.rdb hlow, h.rdb, h.low.trans hlow⟩
theorem N1At.turn {hi : Nat} (h : N1At w0 w gb b3 b4 b5 b7 A C n c cc l sos eos lo) (he : mixR (nu1 (sideF sos) eos l) l hi = mixR (nu1 (sideF sos) eos l) l lo) : N1At w0 w gb b3 b4 b5 b7 A C n c cc l sos eos hi :=
  ⟨h.x3, h.x4, h.x5, h.x7, h.l4, h.l5, h.bs, by rw [he]; exact h.row, h.rd, h.rdb, h.low⟩
end
set_option maxRecDepth 100000 in
set_option maxHeartbeats 1500000 in
theorem n1Do_any (w0 w : World) (gb b3 b4 b5 b7 : Nat) (A C : Option Addr) (n c cc : Nat) (l : List Int) (sos eos : Int) (lo hi : Nat) (hR : RowN l lo hi) (h : N1At w0 w gb b3 b4 b5 b7 A C n c cc l sos eos lo) (hn : n ≤ 100000) :
    Calls Tryz.prog 74 #[.int .i64 (lo : Int), .int .i64 (hi : Int), .pointer (some ⟨b4, 0, none⟩), .pointer (some ⟨b5, 0, none⟩), .pointer (some ⟨b3, 0, none⟩), .pointer (some ⟨b7, 0, none⟩)] w fun e w' => e = .returned (.tuple #[]) ∧ N1At w0 w' gb b3 b4 b5 b7 A C n c cc l sos eos hi := by
  have hll := h.len
  have hlt := hR.lt
  have hle := hR.le
  rw [hll] at hle
  obtain ⟨g, c', hvg, hncc, hgl, hgb, _⟩ := own_at h.row (show 0 < n by omega)
  simp only [Value.slice.injEq] at hvg
  obtain ⟨rfl, -, rfl⟩ := hvg
  obtain ⟨ad, rfl, hab, hcell⟩ := h.rd.at_ (show lo < n by omega)
  have c3 : w.cell? ⟨b3, 0, none⟩ = some (.slice (some ad) n c) := hp_cell (j := 0) h.x3 rfl
  have c4 : w.cell? ⟨b4, 0, none⟩ = some (.int .i64 sos) := hp_cell (j := 0) h.x4 rfl
  have c5 : w.cell? ⟨b5, 0, none⟩ = some (.int .i64 eos) := hp_cell (j := 0) h.x5 rfl
  obtain ⟨av, hav, hava⟩ : ∃ av, ahN (sideF sos) l lo = sideF av ∧ ((lo = 0 ∧ av = sos) ∨ (0 < lo ∧ w.cell? (ad.add (lo - 1)) = some (.int .i64 av))) := by
    by_cases h0 : lo = 0
    · exact ⟨sos, by unfold ahN; rw [if_pos h0], .inl ⟨h0, rfl⟩⟩
    · refine ⟨l.getD (lo - 1) 0, by unfold ahN; rw [if_neg h0], .inr ⟨by omega, h.rd.news _ _ ?_⟩⟩
      rw [List.getElem?_map, List.getD_eq_getElem?_getD, List.getElem?_eq_getElem (by omega)]; rfl
  obtain ⟨bv, hbv, hbva⟩ : ∃ bv, bhN eos l hi = sideF bv ∧ ((hi = n ∧ bv = eos) ∨ (hi < n ∧ w.cell? (ad.add hi) = some (.int .i64 bv))) := by
    by_cases h0 : hi = n
    · exact ⟨eos, by unfold bhN; rw [if_pos (by omega)], .inl ⟨h0, rfl⟩⟩
    · refine ⟨l.getD hi 0, by unfold bhN; rw [if_neg (by omega)], .inr ⟨by omega, h.rd.news _ _ ?_⟩⟩
      rw [List.getElem?_map, List.getD_eq_getElem?_getD, List.getElem?_eq_getElem (by omega)]; rfl
  have hrow : ∀ j x, lo ≤ j → j < hi → l[j]? = some x → (nu1 (sideF sos) eos l)[j]? = some (if 0 ≤ sideF av ∧ sideF av = sideF bv then sideF av else x) := fun j x h1 h2 h3 => by
    rw [nu1_row hR h1 h2 h3, hav, hbv]
  have hRl : (nu1 (sideF sos) eos l).length = l.length := nu1_len _ _ _
  have HSAME : Hid (¬ (0 ≤ sideF av ∧ sideF av = sideF bv) → mixR (nu1 (sideF sos) eos l) l hi = mixR (nu1 (sideF sos) eos l) l lo) := Lib.hid fun hno => mixR_same hRl (Nat.le_of_lt hlt) fun j h1 h2 => by
    rw [hrow j _ h1 h2 (List.getElem?_eq_getElem (by omega)), if_neg hno, List.getElem?_eq_getElem (by omega)]
  have HFILL : Hid (∀ x, 0 ≤ x → sideF av = x → sideF bv = x → mixR (nu1 (sideF sos) eos l) l hi = setsR (mixR (nu1 (sideF sos) eos l) l lo) lo x (hi - lo)) := Lib.hid fun x h0 h1 h2 => mixR_fill hRl (Nat.le_of_lt hlt) (by omega) fun j h3 h4 => by
    rw [hrow j _ h3 h4 (List.getElem?_eq_getElem (by omega)), if_pos ⟨by omega, by omega⟩, h1]
  have H := Lib.hid h
  have HA := Lib.hid hava
  have HB := Lib.hid hbva
  have hne : ¬ cc = lo := by omega
  have hloi : (lo : Int) ≤ (hi : Int) := by omega
  have hhic : (hi : Int) ≤ (cc : Int) := by omega
  have hlon : (lo : Int) < (n : Int) := by omega
  have sa := side_in av
  have sb := side_in bv
  clear hR h hav hbv hrow hRl hcell hava hbva hgl hgb
  go_enter Tryz.func74, Tryz.ntmps74
  go_wp2
  go_quiet (fail)
  obtain ⟨bt, hbt⟩ : ∃ bt, decide ((0 : Int) < (lo : Int)) = bt := ⟨_, rfl⟩
  have hbt2 : decide (0 < lo) = bt := by
    rw [← hbt]
    by_cases h0 : 0 < lo
    · rw [decide_eq_true h0, decide_eq_true (by omega)]
    · rw [decide_eq_false h0, decide_eq_false (by omega)]
  obtain ⟨bu, hbu⟩ : ∃ bu, decide ((hi : Int) < (n : Int)) = bu := ⟨_, rfl⟩
  have hbu2 : decide (hi < n) = bu := by
    rw [← hbu]
    by_cases h0 : hi < n
    · rw [decide_eq_true h0, decide_eq_true (by omega)]
    · rw [decide_eq_false h0, decide_eq_false (by omega)]
  have HBT := Lib.hid hbt2
  have HBU := Lib.hid hbu2
  go_upto_if 17 with fail
  go_cut [8] from 18 to 22 (fun s8 wx => s8 = .int .i64 av ∧ ∃ q, wx = w.drewN q)
  case first =>
    rcases HA.out with ⟨rfl, rfl⟩ | ⟨h0, hc⟩
    · obtain rfl : bt = false := by rw [← HBT.out]; rfl
      clear hbt hbt2 hbu hbu2
      go_wp2
      go_meet
      case rel => exact ⟨rfl, _, rfl⟩
    · obtain rfl : bt = true := by rw [← HBT.out]; exact decide_eq_true h0
      obtain ⟨p, hp⟩ : ∃ p, lo - 1 = p := ⟨_, rfl⟩
      have hl1 : (lo : Int) - 1 = (p : Int) := by omega
      have hpn : (p : Int) < (n : Int) := by omega
      rw [hp] at hc
      clear hp hbt hbt2 hbu hbu2
      go_wp2
      go_meet
      case rel => exact ⟨rfl, _, rfl⟩
  case rest =>
    obtain ⟨rfl, q, rfl⟩ := hcut
    go_upto_if 26 with fail
    go_cut [9] from 27 to 30 (fun s9 wx => s9 = .int .i64 bv ∧ ∃ q, wx = w.drewN q)
    case first =>
      rcases HB.out with ⟨h0, rfl⟩ | ⟨h0, hc⟩
      · obtain rfl : bu = false := by rw [← HBU.out]; exact decide_eq_false (by omega)
        clear hbt hbt2 hbu hbu2 h0
        go_wp2
        go_meet
        case rel => exact ⟨rfl, _, rfl⟩
      · obtain rfl : bu = true := by rw [← HBU.out]; exact decide_eq_true h0
        have hhn : (hi : Int) < (n : Int) := by omega
        clear hbt hbt2 hbu hbu2
        go_wp2
        go_meet
        case rel => exact ⟨rfl, _, rfl⟩
    case rest =>
      obtain ⟨rfl, q, rfl⟩ := hcut
      have HB0 := Lib.hid (below_drewN (Below.refl w.heap.size w) q)
      clear hbt hbt2 hbu hbu2
      have HSA := Lib.hid (fun W => nuSides_any av W)
      have HSB := Lib.hid (fun W => nuSides_any bv W)
      obtain ⟨a, ha⟩ : ∃ a, sideF av = a := ⟨_, rfl⟩
      obtain ⟨b, hb⟩ : ∃ b, sideF bv = b := ⟨_, rfl⟩
      rw [ha] at sa HSA HSAME HFILL
      rw [hb] at sb HSB HSAME HFILL
      clear ha hb
      have c7 : w.cell? ⟨b7, 0, none⟩ = some (.slice (some ⟨g, 0, none⟩) n cc) := hp_cell (j := 0) H.out.x7 rfl
      obtain ⟨lb, hlb⟩ : ∃ lb, decide (b = 0) = lb := ⟨_, rfl⟩
      obtain ⟨rb, hrb⟩ : ∃ rb, decide (b = 1) = rb := ⟨_, rfl⟩
      rw [hlb, hrb] at HSB
      rcases sa with ha | ha | ha
      · subst ha
        rw [decide_eq_false (by decide), decide_eq_false (by decide)] at HSA
        clear hlb hrb
        go_wp2_with (first
          | (go_at_call 75; with_reducible refine (HSB.out _).mono ?_; rintro e w2 ⟨rfl, hb2⟩; have HB2 := Lib.hid (below_self HB1.out hb2); have d7b := cell_below HB2.out c7)
          | (go_at_call 75; with_reducible refine (HSA.out _).mono ?_; rintro e w1 ⟨rfl, hb1⟩; have HB1 := Lib.hid (below_self HB0.out hb1); have d7a := cell_below HB1.out c7)
          | fail)
        exact bodyPost_end (v := .tuple #[]) (by simp [results, go_sem]) rfl ⟨rfl, (H.out.lowr HB2.out).turn (HSAME.out (by omega))⟩
      · subst ha
        rw [decide_eq_true rfl, decide_eq_false (by decide)] at HSA
        by_cases hb : b = 0
        · subst hb
          obtain rfl : lb = true := by rw [← hlb]; rfl
          clear hlb hrb sb
          go_wp2_with (first
            | (go_at_call 75; with_reducible refine (HSB.out _).mono ?_; rintro e w2 ⟨rfl, hb2⟩; have HB2 := Lib.hid (below_self HB1.out hb2); have d7b := cell_below HB2.out c7)
            | (go_at_call 75; with_reducible refine (HSA.out _).mono ?_; rintro e w1 ⟨rfl, hb1⟩; have HB1 := Lib.hid (below_self HB0.out hb1); have d7a := cell_below HB1.out c7)
            | (go_at_call 76; refine (nuFill_any gb g n cc lo (hi - lo) (cc - lo) _ 0 w2 (H.out.lowr HB2.out).row (by omega) (by omega)).mono ?_; rintro e w3 ⟨rfl, ho3, hg3⟩; have HO3 := Lib.hid ho3; have HG3 := Lib.hid hg3; clear ho3 hg3)
            | fail)
          exact bodyPost_end (v := .tuple #[]) (by simp [results, go_sem]) rfl ⟨rfl, (H.out.lowr HB2.out).put HG3.out (by rw [HFILL.out 0 (by decide) rfl rfl]; exact HO3.out)⟩
        · obtain rfl : lb = false := by rw [← hlb]; exact decide_eq_false hb
          clear hlb hrb
          go_wp2_with (first
            | (go_at_call 75; with_reducible refine (HSB.out _).mono ?_; rintro e w2 ⟨rfl, hb2⟩; have HB2 := Lib.hid (below_self HB1.out hb2); have d7b := cell_below HB2.out c7)
            | (go_at_call 75; with_reducible refine (HSA.out _).mono ?_; rintro e w1 ⟨rfl, hb1⟩; have HB1 := Lib.hid (below_self HB0.out hb1); have d7a := cell_below HB1.out c7)
            | fail)
          exact bodyPost_end (v := .tuple #[]) (by simp [results, go_sem]) rfl ⟨rfl, (H.out.lowr HB2.out).turn (HSAME.out (by omega))⟩
      · subst ha
        rw [decide_eq_false (by decide), decide_eq_true rfl] at HSA
        by_cases hb : b = 1
        · subst hb
          obtain rfl : rb = true := by rw [← hrb]; rfl
          clear hlb hrb sb
          go_wp2_with (first
            | (go_at_call 75; with_reducible refine (HSB.out _).mono ?_; rintro e w2 ⟨rfl, hb2⟩; have HB2 := Lib.hid (below_self HB1.out hb2); have d7b := cell_below HB2.out c7)
            | (go_at_call 75; with_reducible refine (HSA.out _).mono ?_; rintro e w1 ⟨rfl, hb1⟩; have HB1 := Lib.hid (below_self HB0.out hb1); have d7a := cell_below HB1.out c7)
            | (go_at_call 76; refine (nuFill_any gb g n cc lo (hi - lo) (cc - lo) _ 1 w2 (H.out.lowr HB2.out).row (by omega) (by omega)).mono ?_; rintro e w3 ⟨rfl, ho3, hg3⟩; have HO3 := Lib.hid ho3; have HG3 := Lib.hid hg3; clear ho3 hg3)
            | fail)
          exact bodyPost_end (v := .tuple #[]) (by simp [results, go_sem]) rfl ⟨rfl, (H.out.lowr HB2.out).put HG3.out (by rw [HFILL.out 1 (by decide) rfl rfl]; exact HO3.out)⟩
        · obtain rfl : rb = false := by rw [← hrb]; exact decide_eq_false hb
          clear hlb hrb
          go_wp2_with (first
            | (go_at_call 75; with_reducible refine (HSB.out _).mono ?_; rintro e w2 ⟨rfl, hb2⟩; have HB2 := Lib.hid (below_self HB1.out hb2); have d7b := cell_below HB2.out c7)
            | (go_at_call 75; with_reducible refine (HSA.out _).mono ?_; rintro e w1 ⟨rfl, hb1⟩; have HB1 := Lib.hid (below_self HB0.out hb1); have d7a := cell_below HB1.out c7)
            | fail)
          exact bodyPost_end (v := .tuple #[]) (by simp [results, go_sem]) rfl ⟨rfl, (H.out.lowr HB2.out).turn (HSAME.out (by omega))⟩
theorem egN1 : ∀ args w, (callFunc 74 args).run Tryz.prog w = .ok (.enter 74 args) w := enters_of Tryz.func74 (by kernel_rfl) rfl
set_option maxRecDepth 100000 in
set_option maxHeartbeats 1500000 in
theorem nuN1_any (A : Option Addr) (n c : Nat) (l : List Int) (sos eos : Int) (w : World) (hr : Rd w 1 A n (l.map (Value.int .i64))) (hn : n ≤ 100000) :
    Calls Tryz.prog 45 #[.slice A n c, .int .i64 sos, .int .i64 eos] w fun e w' => ∃ v, e = .returned v ∧ w'.ownsRow w.heap.size 3 1 v n ((nu1 (sideF sos) eos l).map (Value.int .i64)) ∧ Below w.heap.size w w' := by
  have hll : l.length = n := by simpa using hr.len1
  have HLL := Lib.hid hll
  have HRB := Lib.hid (show 0 < n → ∀ ad, A = some ad → ad.block < w.heap.size from fun h0 ad e => by
    obtain ⟨ad', e', hb, _⟩ := hr.2 h0
    rw [e] at e'
    obtain rfl := Option.some.inj e'
    exact hb)
  have x3 := heap_alloc_new w (.cells #[.slice A n c] 22)
  have hb3 := below_new w (.cells #[.slice A n c] 22)
  have hs3 := World.size_alloc w (.cells #[.slice A n c] 22)
  obtain ⟨W3, hW3⟩ : ∃ W3, w.alloc (.cells #[.slice A n c] 22) = W3 := ⟨_, rfl⟩
  rw [hW3] at x3 hb3 hs3
  have x4 := heap_alloc_new W3 (.cells #[.int .i64 sos] 3)
  have hb4 := below_new W3 (.cells #[.int .i64 sos] 3)
  have hs4 := World.size_alloc W3 (.cells #[.int .i64 sos] 3)
  obtain ⟨W4, hW4⟩ : ∃ W4, W3.alloc (.cells #[.int .i64 sos] 3) = W4 := ⟨_, rfl⟩
  rw [hW4] at x4 hb4 hs4
  have x5 := heap_alloc_new W4 (.cells #[.int .i64 eos] 3)
  have hb5 := below_new W4 (.cells #[.int .i64 eos] 3)
  have hs5 := World.size_alloc W4 (.cells #[.int .i64 eos] 3)
  obtain ⟨W5, hW5⟩ : ∃ W5, W4.alloc (.cells #[.int .i64 eos] 3) = W5 := ⟨_, rfl⟩
  rw [hW5] at x5 hb5 hs5
  rw [hs3] at x4
  rw [hs4, hs3] at x5
  have X3 := Lib.hid ((hb5.block _ (by omega)).trans ((hb4.block _ (by omega)).trans x3))
  have X4 := Lib.hid ((hb5.block _ (by omega)).trans x4)
  have X5 := Lib.hid x5
  have HB5 := Lib.hid (below_self (below_self hb3 hb4) hb5)
  have HSZ := Lib.hid (show W5.heap.size = w.heap.size + 3 by omega)
  have HRD := Lib.hid (hr.below HB5.out)
  have c3 : W5.cell? ⟨w.heap.size, 0, none⟩ = some (.slice A n c) := hp_cell (j := 0) X3.out rfl
  obtain ⟨b, hbw⟩ : ∃ b, w.heap.size = b := ⟨_, rfl⟩
  have HBW := Lib.hid hbw
  have HW : Hid (((w.alloc (.cells #[.slice A n c] 22)).alloc (.cells #[.int .i64 sos] 3)).alloc (.cells #[.int .i64 eos] 3) = W5) := Lib.hid (by rw [hW3, hW4, hW5])
  have c3' := c3
  rw [← HW.out] at c3'
  clear x3 x4 x5 hb3 hb4 hb5 hs3 hs4 hs5 hW3 hW4 hW5 hr hll hbw
  go_enter Tryz.func45, Tryz.ntmps45
  go_wp2_with fail
  rw [HW.out]
  refine (cloneInt_any A n c _ W5 HRD.out (oneInts _ _) (by omega)).mono ?_
  rintro e w6 ⟨v6, rfl, hv6, hb6⟩
  obtain ⟨C, cc, he6, hncc⟩ := own_form hv6
  subst he6
  have x7 := heap_alloc_new w6 (.cells #[.slice C n cc] 22)
  have hb7 := below_new w6 (.cells #[.slice C n cc] 22)
  have HV6 := Lib.hid hv6
  have HB6 := Lib.hid hb6
  have c36 := cell_below (below_self HB6.out hb7) c3
  have HJ : Hid (N1At w (w6.alloc (.cells #[.slice C n cc] 22)) W5.heap.size w.heap.size (w.heap.size + 1) (w.heap.size + 1 + 1) w6.heap.size A C n c cc l sos eos 0) := Lib.hid
    ⟨(hb7.block _ (by have := hb6.size; have := HSZ.out; omega)).trans ((hb6.block _ (by have := HSZ.out; omega)).trans X3.out), (hb7.block _ (by have := hb6.size; have := HSZ.out; omega)).trans ((hb6.block _ (by have := HSZ.out; omega)).trans X4.out), (hb7.block _ (by have := hb6.size; have := HSZ.out; omega)).trans ((hb6.block _ (by have := HSZ.out; omega)).trans X5.out), x7, by have := HSZ.out; omega, by have := HSZ.out; omega, by have := HSZ.out; omega, by rw [mixR_zero]; exact hv6.alloc _, (HRD.out.below hb6).alloc _, HRB.out, (HB5.out.trans (hb6.mono HB5.out.size)).alloc (Nat.le_trans HB5.out.size hb6.size) _⟩
  have HRO := Lib.hid (nuRows_any 74 #[.pointer (some ⟨w.heap.size + 1, 0, none⟩), .pointer (some ⟨w.heap.size + 1 + 1, 0, none⟩), .pointer (some ⟨w.heap.size, 0, none⟩), .pointer (some ⟨w6.heap.size, 0, none⟩)] egN1 A n c l (fun k W => N1At w W W5.heap.size w.heap.size (w.heap.size + 1) (w.heap.size + 1 + 1) w6.heap.size A C n c cc l sos eos k) HLL.out hn (fun k W h => h.rd)
    (fun k x W hx hne h => h.turn (mixR_same (nu1_len _ _ _) (Nat.le_succ k) fun j h1 h2 => by rw [show j = k by omega, nu1_keep hne hx, hx]))
    (fun lo hi W hR h => n1Do_any w W _ _ _ _ _ A C n c cc l sos eos lo hi hR h hn) _ HJ.out)
  clear hv6 hb6 hb7 x7 c3 c3'
  go_wp2_with (first
    | (go_at_call 73; with_reducible refine HRO.out.mono ?_; rintro e w8 ⟨rfl, hj8⟩; have HJ8 := Lib.hid hj8; have c78 : w8.cell? ⟨w6.heap.size, 0, none⟩ = some (.slice C n cc) := hp_cell (j := 0) HJ8.out.x7 rfl; clear hj8)
    | fail)
  go_ret
  have h := HJ8.out
  have hz : mixR (nu1 (sideF sos) eos l) l n = nu1 (sideF sos) eos l := mixR_all (nu1_len _ _ _) (by rw [HLL.out]; exact Nat.le_refl _)
  refine ⟨_, rfl, ?_, h.low⟩
  rw [← hz]
  exact own_base h.row h.bs
end Go.Proofs.YtdgomaoikeffhaaGreat
