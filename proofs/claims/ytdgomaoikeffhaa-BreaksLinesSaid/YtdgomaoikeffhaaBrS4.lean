/- breaks.Lines, walked. -/
import Derived.Test.YtdgomaoikeffhaaBrS3
import Derived.Test.YtdgomaoikeffhaaRbLn
namespace Go.Proofs.Ytdgomaoikeffhaa
open Go.RowKit Go.Shelf

theorem lnCut_len (hi : Int) : ∀ (bs : List Int) (lo : Int), (lnCut hi lo bs).length ≤ bs.length + 1
  | [], _ => by simp [lnCut]
  | b :: bs, lo => by
    rw [lnCut]
    split
    · have := lnCut_len hi bs b
      simp; omega
    · have := lnCut_len hi bs lo
      simp; omega
set_option maxRecDepth 100000 in
set_option maxHeartbeats 4000000 in
theorem brLines_any (A B : Option Addr) (n c m d : Nat) (l : List Sp) (bs : List Int) (w : World) (hr : Rd w 2 A n (cellsS l)) (hs : Rd w 1 B m (bs.map (Value.int .i64))) (hn : n ≤ 500) (hm : m ≤ 1000) :
    Calls Try.prog 18 #[.slice A n c, .slice B m d] w fun e w' => ∃ v, e = .returned v ∧ w'.ownsRow w.heap.size 24 2 v (linesF l bs).length (cellsS (linesF l bs)) ∧ Below w.heap.size w w' := by
  have hl : l.length = n := by have := hr.1; rw [cellsS_len] at this; omega
  have hl2 : bs.length = m := by simpa using hs.len1
  have HL := Lib.hid hl
  have HL2 := Lib.hid hl2
  have HR := Lib.hid hr
  have HST := Lib.hid (brStops_any B m d bs w hs (by omega))
  clear hl hl2 hr hs
  go_enter Try.func18, Try.ntmps18
  go_wp2_with (first
    | (go_at_call 30; refine HST.out.mono ?_; rintro e w1 ⟨rfl, Q, hord, hown1, hb1⟩; have HB1 := Lib.hid hb1; have hs1 := hb1.size; have hg1 := (hown1.lt w.heap.size rfl).2)
    | (at_make; refine wpList_mk rfl _ _ _ rfl spanSlice (base := w1.heap.size) (n : Int) n rfl rfl rfl (by omega) (by unfold maxLen; omega) (Nat.le_refl _) ?_; intro v0 w2 hown0 hg0)
    | fail)
  have HORD := Lib.hid hord
  have hQl : Q.length = m := by rw [hord.perm.length_eq, numB_len, HL2.out]
  have HQL := Lib.hid hQl
  have HQR := Lib.hid (Rd.of_own hown1)
  obtain ⟨b, hbb⟩ : ∃ b, w1.heap.size = b := ⟨_, rfl⟩
  have hb2 := below_make hg0
  rw [hbb] at hown0 hb2 hs1 hg1
  have HB2 := Lib.hid hb2
  clear hord hown1 hb1 hQl hg0 hb2
  go_loopw [6, 16] (fun v t wr => ∃ i p : Nat, i ≤ n ∧ t = .int .i64 (i : Int) ∧ Hid (p = (linesF (l.take i) bs).length) ∧ p ≤ 1001 * i ∧ wr.ownsRow b 24 2 v p (cellsS (linesF (l.take i) bs)) ∧ Below b w1 wr) (fun _ t _ => n - (intOf t).toNat)
  case atStart => exact ⟨0, 0, Nat.zero_le _, rfl, Lib.hid rfl, by omega, hown0, HB2.out⟩
  case round =>
    obtain ⟨i, p, hi, rfl, HP, hp, hown, hb⟩ := hrel
    have HO := Lib.hid hown
    have HB := Lib.hid hb
    clear hown hb
    by_cases hlt : i < n
    · obtain ⟨s, hsp⟩ : ∃ s, l[i]? = some s := ⟨_, List.getElem?_eq_getElem (by rw [HL.out]; exact hlt)⟩
      obtain ⟨x, y⟩ := s
      have hbw : Below w.heap.size w wr := HB1.out.trans (HB.out.mono (by omega))
      obtain ⟨ad, rfl, hab, c1, c2⟩ := (HR.out.below hbw).span hsp
      simp only at c1 c2
      have HNX := Lib.hid (lines_next (bs := bs) hsp)
      have hbs : b ≤ wr.heap.size := by have := HB.out.size; omega
      have HAP : Hid (∀ o, Calls Try.prog 31 #[u6, .agg #[.int .i64 x, .int .i64 y], .slice (some ⟨w.heap.size, 0, none⟩) m m] (wr.alloc o) fun e w' => ∃ v', e = .returned v' ∧ w'.ownsRow b 24 2 v' (p + (lnCut y x bs).length) (cellsS (linesF (l.take i) bs ++ lnCut y x bs)) ∧ Below b (wr.alloc o) w') := Lib.hid (fun o => brAppend_any b w.heap.size m p u6 (linesF (l.take i) bs) Q bs x y (wr.alloc o) (HO.out.alloc o) ((HQR.out.below (by rw [hbb]; exact HB.out)).alloc o) (by omega) (by simp; omega) HORD.out HQL.out (by omega) (by omega))
      have HLN := Lib.hid (lnCut_len y bs x)
      have hin : (i : Int) < (n : Int) := by omega
      clear hsp hbw
      go_wp2_with (first
        | (go_at_call 31; refine (HAP.out _).mono ?_; rintro e w5 ⟨v5, rfl, hown5, hb5⟩)
        | fail)
      have HO5 : Hid (w5.ownsRow b 24 2 v5 (p + (lnCut y x bs).length) (cellsS (linesF (l.take (i + 1)) bs))) := Lib.hid (by rw [HNX.out]; exact hown5)
      have HP5 : Hid (p + (lnCut y x bs).length = (linesF (l.take (i + 1)) bs).length) := Lib.hid (by rw [HNX.out, List.length_append, HP.out])
      have HB5 : Hid (Below b w1 w5) := Lib.hid ((HB.out.alloc hbs _).trans hb5)
      have hp5 : p + (lnCut y x bs).length ≤ 1001 * (i + 1) := by have := HLN.out; rw [HL2.out] at this; omega
      go_roundw
      case rel => exact ⟨i + 1, _, by omega, by go_num, HP5, hp5, HO5.out, HB5.out⟩
      case measure => simp [intOf]; omega
    · obtain rfl : i = n := by omega
      have HZ := Lib.hid (show l.take i = l from List.take_of_length_le (by rw [HL.out]; omega))
      rw [HZ.out] at HO HP
      go_wp2_with fail
      go_ret
      exact ⟨_, rfl, by rw [← HP.out]; exact own_base HO.out (by omega), HB1.out.trans (HB.out.mono (by omega))⟩
end Go.Proofs.Ytdgomaoikeffhaa
