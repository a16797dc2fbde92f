/- order.line's places, walked: all places in the order in which they are seen. -/
import Derived.Test.YtaiefneimjdmhaaOrLP4
namespace Go.Proofs.Ytaiefneimjdmhaa
open Go.RowKit
set_option maxRecDepth 100000 in
set_option maxHeartbeats 4000000 in
theorem orPlaces_any (X : Nat → Obj → Prop) (b g n : Nat) (t : TnR Nat) (R : List (TnR Nat)) (w0 w : World) (h : LnAt 46 50 X b g n (t :: R) w0 w) (hm : R.length ≤ 100000) (hn : n ≤ 100000) (hl : (tnEnd t R).seq.length = n) (hb : b ≤ w.heap.size) :
    Calls Try.prog 32 #[.pointer (some ⟨g, 0, none⟩)] w fun e w' => ∃ v, e = .returned v ∧ w'.ownsRow b 3 1 v n (natV (tnEnd t R).seq) ∧ Below b w0 w' := by
  have HS := Lib.hid h
  obtain ⟨E, hE⟩ : ∃ E, tnEnd t R = E := ⟨_, rfl⟩
  rw [hE] at hl ⊢
  have HE0 := Lib.hid hE
  have HL := Lib.hid hl
  clear h hl hE
  go_enter Try.func32, Try.ntmps32
  go_wp2_with fail
  go_loopg [] R.length (fun gh wr => ∃ t2 R2, gh = R2.length ∧ LnAt 46 50 X b g n (t2 :: R2) w0 wr ∧ tnEnd t2 R2 = E ∧ R2.length ≤ 100000 ∧ b ≤ wr.heap.size)
  case atStart => exact ⟨t, R, rfl, HS.out, HE0.out, hm, hb⟩
  case round =>
    obtain ⟨t2, R2, hgk, hl, he, hm2, hb2⟩ := hrel
    have HGK := Lib.hid hgk
    have HL2 := Lib.hid hl
    have HE2 := Lib.hid he
    obtain ⟨A, c, c0, hc, hgs, fz⟩ := hl.len
    cases R2 with
    | cons u R2 =>
      simp only [List.length_cons] at c0 hc hm2 HGK
      have HJ := Lib.hid (orJoin_any X b g n R2 t2 u w0 wr hl (by omega) hn)
      have HE3 := Lib.hid (show tnEnd (u.join t2) R2 = E from he)
      obtain ⟨m, hmR⟩ : ∃ m, R2.length + 1 + 1 = m := ⟨_, rfl⟩
      rw [hmR] at c0 hc
      have i1 : (1 : Int) < (m : Int) := by omega
      have i2 : (m : Int) ≤ 100002 := by omega
      have hm3 : R2.length ≤ 100000 := by omega
      clear hgk hl he hmR
      go_wp2_with (first
        | (go_at_call 50; refine HJ.out.mono ?_; rintro e w3 ⟨rfl, hl3⟩; have hb3 : b ≤ w3.heap.size := (by obtain ⟨_, _, _, _, hg3, _⟩ := hl3.len; exact Nat.le_trans hl3.le (Nat.le_of_lt hg3)))
        | fail)
      go_roundg R2.length
      case measure => have := HGK.out; omega
      case rel => exact ⟨_, R2, rfl, hl3, HE3.out, hm3, hb3⟩
    | nil =>
      rename World => W0
      obtain rfl : t2 = E := he
      obtain ⟨gN, N, c1, hK, hgN, hgs2, hcN⟩ := hl.links
      obtain ⟨gR, c', hc', c0', hgR, cR⟩ := hl.first
      have HK := Lib.hid hK
      have HCN := Lib.hid hcN
      have HLOW := Lib.hid hl.low
      obtain ⟨x, y, l, m, e1, e2, e3, e4, e5, e6, e7⟩ := tn_ends (hK.ne t2 (by simp))
      rw [e3] at cR
      obtain ⟨s, hs⟩ : ∃ s, t2.seq = s := ⟨_, rfl⟩
      rw [hs] at HL e1
      have HSQ := Lib.hid hs
      have HX0 := Lib.hid (show s[0]? = some x by rw [e1]; rfl)
      have hn1 : 0 < n := by rw [← HL.out, e1]; simp
      clear hgk hl hm2 c0 hc HE2 HE0 HGK hK hcN e1 e2 e3 e4 e5 e6 e7 hs HS HL2
      go_wp2_with (first
        | (refine wpList_mkFull rfl _ _ _ rfl (base := W0.heap.size) (e := 3) (bytes := 8) (z := .int .i64 0) Try.underlying22 (by kernel_rfl) rfl (n : Int) (n : Int) n rfl rfl rfl rfl (by omega) (by unfold maxLen; omega) (Nat.le_refl _) ?_; intro w1 hown1 hg1; have hbm := below_make hg1; have c0m := cell_below hbm c0'; have cRm := cell_below hbm cR)
        | fail)
      have HO1 : Hid (w1.ownsRow W0.heap.size 3 1 (.slice (some ⟨W0.heap.size, 0, none⟩) n n) n (seenV s 0 n)) := Lib.hid (by rw [seenV_zero]; exact hown1)
      have HB1 := Lib.hid hbm
      have HC1 := Lib.hid c1
      clear hown1 hg1 hbm c1 c0m cRm cR c0'
      go_loopw [4, 33] (fun ta ti ws => ∃ (k a : Nat), k ≤ n ∧ ti = .int .i64 (k : Int) ∧ (∃ z : Int, ta = .int .i64 z ∧ (k < n → z = (a : Int))) ∧ (k < n → s[k]? = some a) ∧ ws.ownsRow W0.heap.size 3 1 (.slice (some ⟨W0.heap.size, 0, none⟩) n n) n (seenV s k n) ∧ Below W0.heap.size W0 ws) (fun _ ti _ => n - (intOf ti).toNat)
      case atStart => exact ⟨0, x, Nat.zero_le _, rfl, ⟨_, rfl, fun _ => rfl⟩, fun _ => HX0.out, HO1.out, HB1.out⟩
      case round =>
        obtain ⟨k, a, hk, rfl, ⟨z, rfl, hza⟩, hsa, hO, hBb⟩ := hrel
        have HO := Lib.hid hO
        have HB := Lib.hid hBb
        clear hO hBb HO1 HB1 HX0
        by_cases hlt : k < n
        · obtain rfl := hza hlt
          have HA := Lib.hid (hsa hlt)
          have hat : a < n := HK.out.lt a (by rw [List.flatMap_cons, HSQ.out]; exact List.mem_append_left _ (List.mem_of_getElem? HA.out))
          obtain ⟨zn, hzn⟩ : ∃ zn, N[a]? = some zn := ⟨_, List.getElem?_eq_getElem (by rw [HK.out.len]; exact hat)⟩
          have HZN := Lib.hid hzn
          have i1 : (k : Int) < (n : Int) := by omega
          have i2 : (0 : Int) ≤ (k : Int) := by omega
          have i3 : (n : Int) ≤ 100000 := by omega
          have i4 : (a : Int) < (n : Int) := by omega
          have i5 : (0 : Int) ≤ (a : Int) := by omega
          obtain ⟨⟨u, cu⟩, fu⟩ := own_slot HO.out (j := k) (by omega)
          have cl := (HB.out.cell (p := ⟨g, 1, none⟩) hgs2).trans HC1.out
          have cn := (HB.out.cell (p := ⟨gN, a, none⟩) hgN).trans (HCN.out a zn hzn)
          have hne1 : g ≠ W0.heap.size := by omega
          have hne2 : gN ≠ W0.heap.size := by omega
          have HO2 := Lib.hid ((HO.out.stored k (.int .i64 (a : Int))).1)
          rw [seenV_set HA.out hlt] at HO2
          have HB2 := Lib.hid (HB.out.setCell (p := ⟨W0.heap.size, k, none⟩) (Nat.le_refl _) (.int .i64 (a : Int)))
          clear hzn hza hsa
          go_wp2
          go_roundw
          case rel => exact ⟨k + 1, s.getD (k + 1) 0, by omega, by go_num, ⟨zn, rfl, fun h => by
            have h2 : s[k + 1]? = some (s.getD (k + 1) 0) := by rw [List.getD_eq_getElem?_getD, List.getElem?_eq_getElem (by rw [HL.out]; exact h)]; rfl
            have hc := HK.out.chn t2 (by simp)
            rw [HSQ.out] at hc
            have h3 := hc.at_ HA.out h2
            rw [HZN.out] at h3
            exact Option.some.inj h3⟩, fun h => by rw [List.getD_eq_getElem?_getD, List.getElem?_eq_getElem (by rw [HL.out]; exact h)]; rfl, HO2.out, HB2.out⟩
          case measure => simp [intOf]; omega
        · obtain rfl : k = n := by omega
          have HF := Lib.hid (seenV_all HL.out)
          rw [HF.out] at HO
          have i1 : ¬ (k : Int) < (k : Int) := by omega
          go_wp2
          go_ret
          exact ⟨_, rfl, by rw [HSQ.out]; exact own_base HO.out hb2, HLOW.out.trans (HB.out.mono hb2)⟩
set_option maxRecDepth 100000 in
set_option maxHeartbeats 2000000 in
/-- A line without places. -/
theorem orPlaces0_any (X : Nat → Obj → Prop) (b g : Nat) (w0 w : World) (h : LnAt 46 50 X b g 0 [] w0 w) :
    Calls Try.prog 32 #[.pointer (some ⟨g, 0, none⟩)] w fun e w' => ∃ v, e = .returned v ∧ w'.ownsRow b 3 1 v 0 [] ∧ Below b w0 w' := by
  obtain ⟨v, c, c0⟩ := h.none_
  obtain ⟨gN, N, c1, _, _, hgs, _⟩ := h.links
  have HLOW := Lib.hid h.low
  have hbw : b ≤ w.heap.size := Nat.le_trans h.le (Nat.le_of_lt hgs)
  clear h
  go_enter Try.func32, Try.ntmps32
  go_wp2_with fail
  go_loopg [] 0 (fun gh wr => wr = w)
  case atStart => rfl
  case round =>
    subst hrel
    go_wp2_with (first
      | (refine wpList_mkFull rfl _ _ _ rfl (base := wr.heap.size) (e := 3) (bytes := 8) (z := .int .i64 0) Try.underlying22 (by kernel_rfl) rfl 0 0 0 rfl rfl rfl rfl (by omega) (by unfold maxLen; omega) (Nat.le_refl _) ?_; intro w1 hown1 hg1)
      | fail)
    go_ret
    exact ⟨_, rfl, own_base hown1 hbw, HLOW.out.trans ((below_make hg1).mono hbw)⟩
end Go.Proofs.Ytaiefneimjdmhaa
