/- Options: flags set from their bits. -/
import Derived.Test.YtcdogkabdhbjmaaDoorOpSet
namespace Go.Proofs.YtcdogkabdhbjmaaDoor
open Go.RowKit

/-- Options whose first k flags are those of a number. -/
def Opt.setK (o : Opt) (n : Nat) : Nat → Opt
  | 0 => o
  | k + 1 => (Opt.setK o n k).putB k (n.testBit k)
theorem bit_of (n k : Nat) (hn : n < 1024) (hk : k < 10) : (bits .and .i64 (n : Int) ((2 : Int) ^ k) != 0) = n.testBit k := by
  have hp : ((2 : Int) ^ k) = ((2 ^ k : Nat) : Int) := by simp
  have h2 : (2 : Nat) ^ k ≤ 2 ^ 9 := Nat.pow_le_pow_right (by decide) (by omega)
  have h512 : (2 : Nat) ^ 9 = 512 := by decide
  rw [hp, and_i64 _ _ (by omega) (by omega)]
  cases h : n.testBit k with
  | false =>
    have e : n &&& 2 ^ k = 0 := by
      apply Nat.eq_of_testBit_eq
      intro i
      rw [Nat.testBit_and, Nat.testBit_two_pow, Nat.zero_testBit]
      by_cases hi : k = i
      · subst hi
        rw [h]
        rfl
      · simp [hi]
    rw [e]
    rfl
  | true =>
    have e : n &&& 2 ^ k ≠ 0 := by
      intro e
      have h3 : (n &&& 2 ^ k).testBit k = true := by
        rw [Nat.testBit_and, Nat.testBit_two_pow, h]
        simp
      rw [e, Nat.zero_testBit] at h3
      cases h3
    simp [bne]
    omega
/-- A row elsewhere, over a store. -/
theorem rd_set {W : World} {b g n : Nat} {l : List Value} {s : Nat} (h : Rd W s (some ⟨g, 0, none⟩) n l) (hne : g ≠ b) (j : Nat) (u : Value) : Rd (W.setCell ⟨b, j, none⟩ u) s (some ⟨g, 0, none⟩) n l := by
  refine ⟨h.1, fun hn => ?_⟩
  obtain ⟨ad, he, hl, hc⟩ := h.2 hn
  refine ⟨ad, he, by simpa [World.setCell] using hl, fun i v hv => ?_⟩
  injection he with he
  subst he
  exact (World.cell?_setCell_other (h := fun e => hne (by have := congrArg Addr.block e; rw [blockAdd] at this; exact this.symm)) ..).trans (hc i v hv)
set_option maxRecDepth 100000 in
set_option maxHeartbeats 4000000 in
theorem opPutBits_any (b : Nat) (o : Opt) (n : Nat) (hn : n < 1024) (w : World) (hO : OptAt w b o) :
    Calls Tryd.prog 38 #[.pointer (some ⟨b, 0, none⟩), .int .i64 n] w fun e w' => e = .returned (.tuple #[]) ∧ OptAt w' b (o.setK n 10) ∧ ∀ B ww, B ≤ b → B ≤ w.heap.size → Below B ww w → Below B ww w' := by
  have HO := Lib.hid hO
  clear hO
  go_enter Tryd.func38, Tryd.ntmps38
  go_wp2_with fail
  refine (opFlags_any b w).mono ?_
  rintro e w1 ⟨⟨g, rfl, hr⟩, hb1⟩
  have hO1 := HO.out.below hb1
  have hgb : g ≠ b := by
    intro e
    subst e
    have h1 := hr.news 1 _ rfl
    have h2 := hO1.1 1 _ rfl
    rw [addNew] at h1
    rw [show (⟨g, 0 + 1, none⟩ : Addr) = ⟨g, 1, none⟩ from rfl] at *
    rw [h1] at h2
    cases h2
  have HO1 := Lib.hid hO1
  have HR := Lib.hid hr
  have HB1 := Lib.hid hb1
  clear hr hb1 hO1 HO
  go_wp2
  go_loopw [9] (fun i wr => ∃ k : Nat, k ≤ 10 ∧ i = .int .i64 k ∧ OptAt wr b (o.setK n k) ∧ Rd wr 2 (some ⟨g, 0, none⟩) 10 (flagCells b) ∧ (∀ B ww, B ≤ b → B ≤ w.heap.size → Below B ww w → Below B ww wr) ∧ w.heap.size ≤ wr.heap.size) (fun i _ => 10 - (intOf i).toNat)
  case atStart => exact ⟨0, Nat.zero_le _, rfl, HO1.out, HR.out, fun B ww _ hB h => h.trans (HB1.out.mono hB), HB1.out.size⟩
  case round =>
    clear HO1 HR HB1
    obtain ⟨k, hk, rfl, hO, hr, hb, hs⟩ := hrel
    by_cases hlt : k < 10
    · obtain ⟨hc1, hc2⟩ := flag_cells b k hlt
      have q1 := hr.news (k * 2) _ hc1
      have q2 := hr.news (k * 2 + 1) _ hc2
      rw [addNew] at q1 q2
      have hbit := bit_of n k hn hlt
      obtain ⟨P2, hP2⟩ : ∃ P2 : Int, (2 : Int) ^ k = P2 := ⟨_, rfl⟩
      rw [hP2] at q1 hbit
      obtain ⟨X, hX⟩ : ∃ X, n.testBit k = X := ⟨_, rfl⟩
      rw [hX] at hbit
      have hA := below_new wr (.cells #[.int .i64 P2, .pointer (some ⟨b, 4 + k, none⟩)] 86)
      have hO2 := hO.below hA
      have hr2 := hr.below hA
      have HN := Lib.hid (show OptAt ((wr.alloc (.cells #[.int .i64 P2, .pointer (some ⟨b, 4 + k, none⟩)] 86)).setCell ⟨b, 4 + k, none⟩ (.bool X)) b (o.setK n (k + 1)) by
        show OptAt _ b ((Opt.setK o n k).putB k (n.testBit k))
        rw [hX]
        exact hO2.setB k hlt X)
      have HRN := Lib.hid (rd_set hr2 hgb (4 + k) (.bool X))
      have HBN := Lib.hid (show ∀ B ww, B ≤ b → B ≤ w.heap.size → Below B ww w → Below B ww ((wr.alloc (.cells #[.int .i64 P2, .pointer (some ⟨b, 4 + k, none⟩)] 86)).setCell ⟨b, 4 + k, none⟩ (.bool X)) from
        fun B ww h1 h2 h3 => below_setB ((hb B ww h1 h2 h3).alloc (Nat.le_trans h2 hs) _) h1 _ _)
      have HS := Lib.hid (show w.heap.size ≤ ((wr.alloc (.cells #[.int .i64 P2, .pointer (some ⟨b, 4 + k, none⟩)] 86)).setCell ⟨b, 4 + k, none⟩ (.bool X)).heap.size by simp [World.setCell]; omega)
      have hlen14 : (Opt.cells (o.setK n k)).size = 14 := rfl
      obtain ⟨cv, cx⟩ : ∃ cv, (wr.alloc (.cells #[.int .i64 P2, .pointer (some ⟨b, 4 + k, none⟩)] 86)).cell? ⟨b, 4 + k, none⟩ = some cv := ⟨_, hO2.1 (4 + k) _ (Array.getElem?_eq_getElem (by rw [hlen14]; omega))⟩
      have fx := hO2.2 (4 + k)
      have hlt2 := cell_lt cx
      simp only at hlt2
      clear hP2 hX hc1 hc2 hO hr hb hA hO2 hr2 hlen14
      go_wp2
      go_roundw
      case rel => exact ⟨k + 1, by omega, by go_num, HN.out, HRN.out, HBN.out, HS.out⟩
      case measure => simp [intOf]; omega
    · have hk10 : k = 10 := by omega
      subst hk10
      have HN := Lib.hid hO
      have HB := Lib.hid hb
      clear hO hr hb
      go_wp2
      go_end0
      exact ⟨rfl, HN.out, HB.out⟩
end Go.Proofs.YtcdogkabdhbjmaaDoor
