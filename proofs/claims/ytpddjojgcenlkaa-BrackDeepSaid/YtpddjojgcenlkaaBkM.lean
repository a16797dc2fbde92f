/- brack's sequence at work: its box, its classes, the classes before; set, walked. -/
import Derived.Test.YtpddjojgcenlkaaBkW
import Derived.Test.YtpddjojgcenlkaaOwR
import Derived.Test.YtpddjojgcenlkaaHp
import Derived.Test.YtpddjojgcenlkaaMem3
namespace Go.Proofs.Ytpddjojgcenlkaa
open Go.RowKit

/-- A sequence whose brackets are being set. -/
structure BqAt (w0 w : World) (sb : Nat) (C D : Option Addr) (n c d : Nat) (level sos : Int) (o bf : List Int) : Prop where
  box : w.heap[sb]? = some (.cells #[.slice C n c, .slice D n d, .int .i64 level, .int .i64 sos] 46 (0, 0))
  row : w.ownsRow w0.heap.size 3 1 (.slice C n c) n (o.map (Value.int .i64))
  bef : Rd w 1 D n (bf.map (Value.int .i64))
  bel : 0 < n → ∀ ad, D = some ad → ad.block < w0.heap.size
  low : Below w0.heap.size w0 w
section
variable {w0 w w' : World} {sb n c d : Nat} {C D : Option Addr} {level sos : Int} {o bf : List Int}
theorem BqAt.len (h : BqAt w0 w sb C D n c d level sos o bf) : o.length = n ∧ bf.length = n := ⟨by have := h.row.1; simpa using this, by simpa using h.bef.len1⟩
theorem BqAt.lowr (h : BqAt w0 w sb C D n c d level sos o bf) (hb : Below w.heap.size w w') : BqAt w0 w' sb C D n c d level sos o bf :=
  ⟨(hb.block sb (hp_lt h.box)).trans h.box, own_below h.row hb, h.bef.below hb, h.bel, h.low.trans (hb.mono h.low.size)⟩
theorem BqAt.put {g : Nat} (h : BqAt w0 w sb (some ⟨g, 0, none⟩) D n c d level sos o bf) (j : Nat) (x : Int) : BqAt w0 (w.setCell ⟨g, j, none⟩ (.int .i64 x)) sb (some ⟨g, 0, none⟩) D n c d level sos (o.set j x) bf := by
  have hgb := (h.row.lt g rfl).1
  have hne : sb ≠ g := by
    rintro rfl
    obtain ⟨c1, h1⟩ := own_row h.row sb rfl
    rw [h.box] at h1
    simp at h1
  refine ⟨(hp_far hne _ _).trans h.box, ?_, h.bef.belowS h.bel ((Below.refl _ _).setCell (p := ⟨g, j, none⟩) hgb _), h.bel, h.low.setCell (p := ⟨g, j, none⟩) hgb _⟩
  rw [List.map_set]
  exact (h.row.stored j _).1
end
set_option maxRecDepth 100000 in
set_option maxHeartbeats 2000000 in
theorem bkSet_any (w0 w : World) (sb n c d a : Nat) (C D : Option Addr) (level sos s : Int) (o bf : List Int) (h : BqAt w0 w sb C D n c d level sos o bf) (ha : a < n) (hn : n ≤ 1000000) :
    Calls Try.prog 22 #[.pointer (some ⟨sb, 0, none⟩), .int .i64 (a : Int), .int .i64 s] w fun e w' => e = .returned (.tuple #[]) ∧ BqAt w0 w' sb C D n c d level sos (setP bf s a o) bf ∧ w.grownBy w' (Value.slice C n c).ownBlock := by
  obtain ⟨hol, hbl⟩ := h.len
  obtain ⟨g, c', hv, hnc, hgl, hgb, hcs⟩ := own_at h.row (show 0 < n by omega)
  simp only [Value.slice.injEq] at hv
  obtain ⟨rfl, -, rfl⟩ := hv
  obtain ⟨x, hx⟩ : ∃ x, o[a]? = some x := ⟨_, List.getElem?_eq_getElem (by omega)⟩
  have cx : w.cell? ⟨g, a, none⟩ = some (.int .i64 x) := hcs _ _ (by rw [List.getElem?_map, hx]; rfl)
  have c0 : w.cell? ⟨sb, 0, none⟩ = some (.slice (some ⟨g, 0, none⟩) n c) := hp_cell (j := 0) h.box rfl
  have fz : w.frozen? ⟨g, a, none⟩ = false := h.row.frozenAt a
  have hai : (a : Int) < (n : Int) := by omega
  have ha0 : (0 : Int) ≤ (a : Int) := by omega
  have H := Lib.hid h
  have HOL := Lib.hid hol
  have HBL := Lib.hid hbl
  clear h hol hbl hcs hgl hgb
  by_cases he : x = s
  · subst he
    have HE := Lib.hid (show setP bf x a o = o by unfold setP; rw [if_pos hx])
    clear hx
    go_enter Try.func22, Try.ntmps22
    go_wp2
    refine bodyPost_ret (results_none rfl _ _ _) rfl ⟨rfl, ?_, World.grownBy.refl _ _⟩
    rw [HE.out]
    exact H.out
  · have g1 : (x == s) = false := by simp [he]
    have HE := Lib.hid (show setP bf s a o = runS bf s bf.length (a + 1) (o.set a s) by
      unfold setP
      rw [if_neg (by rw [hx]; intro h; exact he (Option.some.inj h))]
      rfl)
    have HP := Lib.hid (H.out.put a s)
    clear hx he
    go_enter Try.func22, Try.ntmps22
    go_wp2
    have HG := Lib.hid (grown_set (World.grownBy.refl w (some g)) a (.int .i64 s))
    generalize w.setCell ⟨g, a, none⟩ (.int .i64 s) = w1 at HP HG
    go_loopw [6] (fun i wr => ∃ (k f : Nat) (o' : List Int), a + 1 ≤ k ∧ k ≤ n ∧ i = .int .i64 (k : Int) ∧ f + k = n + a + 1 ∧ runS bf s bf.length (a + 1) (o.set a s) = runS bf s f k o' ∧ BqAt w0 wr sb (some ⟨g, 0, none⟩) D n c d level sos o' bf ∧ w.grownBy wr (some g)) (fun i _ => n - (intOf i).toNat)
    case atStart => exact ⟨a + 1, n, o.set a s, Nat.le_refl _, ha, by go_num, by omega, by rw [HBL.out], HP.out, HG.out⟩
    case round =>
      obtain ⟨k, f, o', hak, hk, rfl, hf, hr, hD, hG⟩ := hrel
      have HG := Lib.hid hG
      have HR := Lib.hid hr
      have HD := Lib.hid hD
      have d0 : wr.cell? ⟨sb, 0, none⟩ = some (.slice (some ⟨g, 0, none⟩) n c) := hp_cell (j := 0) hD.box rfl
      have d1 : wr.cell? ⟨sb, 1, none⟩ = some (.slice D n d) := hp_cell (j := 1) hD.box rfl
      have fk : wr.frozen? ⟨g, k, none⟩ = false := hD.row.frozenAt k
      clear hr hD hG
      by_cases hlt : k < n
      · obtain ⟨y, hy⟩ : ∃ y, bf[k]? = some y := ⟨_, List.getElem?_eq_getElem (by rw [HBL.out]; exact hlt)⟩
        obtain ⟨ad, rfl, hab, hcell⟩ := HD.out.bef.at_ hlt
        have cy := hcell (.int .i64 y) (by rw [List.getElem?_map, hy]; rfl)
        have hki : (k : Int) < (n : Int) := by omega
        obtain ⟨f', rfl⟩ : ∃ f', f = f' + 1 := ⟨f - 1, by omega⟩
        clear hcell
        by_cases h8 : y = 8
        · subst h8
          have HN := Lib.hid (HR.out.trans (show runS bf s (f' + 1) k o' = runS bf s f' (k + 1) (o'.set k s) by rw [runS, if_pos hy]))
          have HP2 := Lib.hid (HD.out.put k s)
          have ck : ∃ z, wr.cell? ⟨g, k, none⟩ = some z := by
            have hkl : k < o'.length := by rw [HD.out.len.1]; exact hlt
            obtain ⟨g2, c2, hv2, _, _, _, hcs2⟩ := own_at HD.out.row (show 0 < n by omega)
            simp only [Value.slice.injEq, Option.some.injEq, Addr.mk.injEq, and_true, true_and] at hv2
            obtain ⟨rfl, rfl⟩ := hv2
            exact ⟨_, hcs2 k (.int .i64 (o'[k])) (by rw [List.getElem?_map, List.getElem?_eq_getElem hkl]; rfl)⟩
          obtain ⟨z, ck⟩ := ck
          clear hy
          go_wp2
          go_roundw
          case rel => exact ⟨k + 1, f', o'.set k s, by omega, by omega, by go_num, by omega, HN.out, HP2.out, grown_set HG.out _ _⟩
          case measure => simp [intOf]; omega
        · have g8 : (y == 8) = false := by simp [h8]
          have HN := Lib.hid (HR.out.trans (show runS bf s (f' + 1) k o' = o' by rw [runS, if_neg (by rw [hy]; intro h; exact h8 (Option.some.inj h))]))
          clear hy h8
          go_wp2
          refine bodyPost_end (v := .tuple #[]) (by simp [results, go_sem]) rfl ⟨rfl, ?_, HG.out⟩
          rw [HE.out, HN.out]
          exact HD.out
      · obtain rfl : k = n := by omega
        have HN := Lib.hid (HR.out.trans (show runS bf s f k o' = o' by
          cases f with
          | zero => rfl
          | succ f => rw [runS, if_neg (by rw [List.getElem?_eq_none (by rw [HBL.out]; exact Nat.le_refl _)]; intro h; cases h)]))
        go_wp2
        refine bodyPost_end (v := .tuple #[]) (by simp [results, go_sem]) rfl ⟨rfl, ?_, HG.out⟩
        rw [HE.out, HN.out]
        exact HD.out
end Go.Proofs.Ytpddjojgcenlkaa
