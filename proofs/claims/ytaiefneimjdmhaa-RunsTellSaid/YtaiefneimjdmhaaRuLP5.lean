/- runs.line's pick, walked: the runs in the order in which they are seen. -/
import Derived.Test.YtaiefneimjdmhaaRuLP4
import Derived.Test.YtaiefneimjdmhaaRoL
namespace Go.Proofs.Ytaiefneimjdmhaa
open Go.RowKit
def rg0 : Rg := (0, 0, 0)
/-- The runs that numbers say. -/
def pickG (L : List Rg) (s : List Nat) : List Rg := s.map fun i => L.getD i rg0
theorem pickG_len (L : List Rg) (s : List Nat) : (pickG L s).length = s.length := by simp [pickG]
theorem pickG_next {L : List Rg} {s : List Nat} {k a : Nat} {r : Rg} (h : s[k]? = some a) (hr : L[a]? = some r) : pickG L (s.take (k + 1)) = pickG L (s.take k) ++ [r] := by
  unfold pickG
  rw [List.take_add_one, h, List.map_append]
  simp [List.getD_eq_getElem?_getD, hr]
set_option maxRecDepth 100000 in
set_option maxHeartbeats 4000000 in
theorem ruPick_any (X : Nat → Obj → Prop) (g n : Nat) (t : TnR Nat) (R : List (TnR Nat)) (A : Option Addr) (c : Nat) (L : List Rg) (w0 w : World) (hLg : Rd w0 3 A n (cellsG L)) (h : LnAt 62 65 X w0.heap.size g n (t :: R) w0 w) (hm : R.length ≤ 100000) (hn : n ≤ 100000) (hl : (tnEnd t R).seq.length = n) :
    Calls Try.prog 41 #[.pointer (some ⟨g, 0, none⟩), .slice A n c] w fun e w' => ∃ v, e = .returned v ∧ w'.ownsRow w0.heap.size 38 3 v n (cellsG (pickG L (tnEnd t R).seq)) ∧ Below w0.heap.size w0 w' := by
  have HS := Lib.hid h
  obtain ⟨E, hE⟩ : ∃ E, tnEnd t R = E := ⟨_, rfl⟩
  rw [hE] at hl ⊢
  have HE0 := Lib.hid hE
  have HL := Lib.hid hl
  have HLG := Lib.hid hLg
  have hlL := hLg.lenG
  have HLL := Lib.hid hlL
  obtain ⟨b, hb0⟩ : ∃ b, w0.heap.size = b := ⟨_, rfl⟩
  have HB0 := Lib.hid hb0
  have hb : b ≤ w.heap.size := by rw [← hb0]; exact h.low.size
  rw [hb0] at HS
  rw [hb0]
  clear h hl hE hLg hlL hb0
  go_enter Try.func41, Try.ntmps41
  go_wp2_with fail
  go_loopg [] R.length (fun gh wr => ∃ t2 R2, gh = R2.length ∧ LnAt 62 65 X b g n (t2 :: R2) w0 wr ∧ tnEnd t2 R2 = E ∧ R2.length ≤ 100000 ∧ b ≤ wr.heap.size)
  case atStart => exact ⟨t, R, rfl, HS.out, HE0.out, hm, hb⟩
  case round =>
    obtain ⟨t2, R2, hgk, hl, he, hm2, hb2⟩ := hrel
    have HGK := Lib.hid hgk
    have HL2 := Lib.hid hl
    have HE2 := Lib.hid he
    obtain ⟨A0, c0', c0, hc, hgs, fz⟩ := hl.len
    cases R2 with
    | cons u R2 =>
      simp only [List.length_cons] at c0 hc hm2 HGK
      have HJ := Lib.hid (ruJoin_any X b g n R2 t2 u w0 wr hl (by omega) hn)
      have HE3 := Lib.hid (show tnEnd (u.join t2) R2 = E from he)
      obtain ⟨m, hmR⟩ : ∃ m, R2.length + 1 + 1 = m := ⟨_, rfl⟩
      rw [hmR] at c0 hc
      have i1 : (1 : Int) < (m : Int) := by omega
      have i2 : (m : Int) ≤ 100002 := by omega
      have hm3 : R2.length ≤ 100000 := by omega
      clear hgk hl he hmR
      go_wp2_with (first
        | (go_at_call 55; refine HJ.out.mono ?_; rintro e w3 ⟨rfl, hl3⟩; have hb3 : b ≤ w3.heap.size := (by obtain ⟨_, _, _, _, hg3, _⟩ := hl3.len; exact Nat.le_trans hl3.le (Nat.le_of_lt hg3)))
        | fail)
      go_roundg R2.length
      case measure => have := HGK.out; omega
      case rel => exact ⟨_, R2, rfl, hl3, HE3.out, hm3, hb3⟩
    | nil =>
      rename World => W0
      obtain rfl : t2 = E := he
      obtain ⟨gN, N, c1, hK, hgN, hgs2, hcN⟩ := hl.links
      obtain ⟨gR, c', hc', c0', hgR, cR⟩ := hl.first
      have HK := Lib.hid hK
      have HCN := Lib.hid hcN
      have HLOW := Lib.hid hl.low
      obtain ⟨x, y, l, m, e1, e2, e3, e4, e5, e6, e7⟩ := tn_ends (hK.ne t2 (by simp))
      rw [e3] at cR
      obtain ⟨s, hs⟩ : ∃ s, t2.seq = s := ⟨_, rfl⟩
      rw [hs] at HL e1
      have HSQ := Lib.hid hs
      have HX0 := Lib.hid (show s[0]? = some x by rw [e1]; rfl)
      have hn1 : 0 < n := by rw [← HL.out, e1]; simp
      have hn1i : ((n : Int) == 0) = false := beq_eq_false_iff_ne.2 (by omega)
      have HRW := Lib.hid (show Rd W0 3 A n (cellsG L) from HLG.out.below (hl.low.mono (by rw [HB0.out]; exact Nat.le_refl _)))
      clear hgk hl hm2 c0 hc HE2 HE0 HGK hK hcN e1 e2 e3 e4 e5 e6 e7 hs HS HL2
      go_wp2_with (first
        | (refine wpList_mk rfl _ _ _ rfl (base := W0.heap.size) runSlice (n : Int) n rfl rfl rfl (by omega) (by unfold maxLen; omega) (Nat.le_refl _) ?_; intro v1 w1 hown1 hg1; have hbm := below_make hg1; have c0m := cell_below hbm c0'; have cRm := cell_below hbm cR; obtain ⟨A1, c1', rfl, hc1'⟩ := own_form hown1)
        | fail)
      have HO1 := Lib.hid (show w1.ownsRow W0.heap.size 38 3 (.slice A1 0 c1') 0 (cellsG (pickG L (s.take 0))) from hown1)
      have HB1 := Lib.hid hbm
      have HC1 := Lib.hid c1
      clear hown1 hg1 hbm c1 c0m cRm cR c0' hc1'
      go_loopw [5, 6, 31] (fun tv ta ti ws => ∃ (k a : Nat), k ≤ n ∧ ti = .int .i64 (k : Int) ∧ (∃ z : Int, ta = .int .i64 z ∧ (k < n → z = (a : Int))) ∧ (k < n → s[k]? = some a) ∧ ws.ownsRow W0.heap.size 38 3 tv k (cellsG (pickG L (s.take k))) ∧ Below W0.heap.size W0 ws) (fun _ _ ti _ => n - (intOf ti).toNat)
      case atStart => exact ⟨0, x, Nat.zero_le _, rfl, ⟨_, rfl, fun _ => rfl⟩, fun _ => HX0.out, HO1.out, HB1.out⟩
      case round =>
        obtain ⟨k, a, hk, rfl, ⟨z, rfl, hza⟩, hsa, hO, hBb⟩ := hrel
        have HO := Lib.hid hO
        have HB := Lib.hid hBb
        clear hO hBb HO1 HB1 HX0
        by_cases hlt : k < n
        · obtain rfl := hza hlt
          have HA := Lib.hid (hsa hlt)
          have hat : a < n := HK.out.lt a (by rw [List.flatMap_cons, HSQ.out]; exact List.mem_append_left _ (List.mem_of_getElem? HA.out))
          obtain ⟨zn, hzn⟩ : ∃ zn, N[a]? = some zn := ⟨_, List.getElem?_eq_getElem (by rw [HK.out.len]; exact hat)⟩
          have HZN := Lib.hid hzn
          obtain ⟨r, hr⟩ : ∃ r, L[a]? = some r := ⟨_, List.getElem?_eq_getElem (by rw [HLL.out]; exact hat)⟩
          have HNX := Lib.hid (pickG_next HA.out hr)
          obtain ⟨ad, rfl, hab, q0, q1, q2⟩ := (HRW.out.below HB.out).rg hr
          obtain ⟨r0, r1, r2⟩ := r
          simp only at q0 q1 q2 HNX
          have i1 : (k : Int) < (n : Int) := by omega
          have i2 : (0 : Int) ≤ (k : Int) := by omega
          have i3 : (n : Int) ≤ 100000 := by omega
          have i4 : (a : Int) < (n : Int) := by omega
          have i5 : (0 : Int) ≤ (a : Int) := by omega
          have HCL := Lib.hid (fun (W : World) (hB : Below W0.heap.size W0 W) => (hB.cell (p := ⟨g, 1, none⟩) hgs2).trans HC1.out)
          have HCA := Lib.hid (fun (W : World) (hB : Below W0.heap.size W0 W) => (hB.cell (p := ⟨gN, a, none⟩) hgN).trans (HCN.out a zn hzn))
          have hsz := HB.out.size
          clear hzn hza hsa hr
          go_wp2_with (first
            | (at_builtin; refine wpList_app rfl _ _ _ rfl runSlice (by decide) _ k _ rfl (HO.out.alloc _) ⟨wr.heap.size, 0, none⟩ 1 1 [.int .i64 r0, .int .i64 r1, .int .i64 r2] rfl rfl (cells_new wr [.int .i64 r0, .int .i64 r1, .int .i64 r2] 38) (int3 _ _ _) (by omega) (by unfold maxLen; omega) (Nat.le_trans hsz (by simp)) ?_; intro v3 w3 hown3 hg3 hat3; have hb3 := below_app (HB.out.alloc hsz _) hg3 (HO.out.alloc _) (Nat.le_trans hsz (by simp)); have cl := HCL.out w3 hb3; have cn := HCA.out w3 hb3)
            | fail)
          have HO3 : Hid (w3.ownsRow W0.heap.size 38 3 v3 (k + 1) (cellsG (pickG L (s.take (k + 1))))) := Lib.hid (by rw [HNX.out, cellsG_snoc]; exact hown3)
          have HB3 := Lib.hid hb3
          clear hown3 hg3 hat3 hb3
          go_roundw
          case rel => exact ⟨k + 1, s.getD (k + 1) 0, by omega, by go_num, ⟨zn, rfl, fun h => by
            have h2 : s[k + 1]? = some (s.getD (k + 1) 0) := by rw [List.getD_eq_getElem?_getD, List.getElem?_eq_getElem (by rw [HL.out]; exact h)]; rfl
            have hc := HK.out.chn t2 (by simp)
            rw [HSQ.out] at hc
            have h3 := hc.at_ HA.out h2
            rw [HZN.out] at h3
            exact Option.some.inj h3⟩, fun h => by rw [List.getD_eq_getElem?_getD, List.getElem?_eq_getElem (by rw [HL.out]; exact h)]; rfl, HO3.out, HB3.out⟩
          case measure => simp [intOf]; omega
        · obtain rfl : k = n := by omega
          have HF := Lib.hid (show s.take k = s from List.take_of_length_le (by rw [HL.out]; exact Nat.le_refl _))
          rw [HF.out] at HO
          have i1 : ¬ (k : Int) < (k : Int) := by omega
          go_wp2
          go_ret
          exact ⟨_, rfl, by rw [HSQ.out]; exact own_base HO.out hb2, HLOW.out.trans (HB.out.mono hb2)⟩
set_option maxRecDepth 100000 in
set_option maxHeartbeats 2000000 in
/-- A line without runs. -/
theorem ruPick0_any (X : Nat → Obj → Prop) (b g : Nat) (A : Option Addr) (c : Nat) (w0 w : World) (h : LnAt 62 65 X b g 0 [] w0 w) :
    Calls Try.prog 41 #[.pointer (some ⟨g, 0, none⟩), .slice A 0 c] w fun e w' => ∃ v, e = .returned v ∧ w'.ownsRow b 38 3 v 0 [] ∧ Below b w0 w' := by
  obtain ⟨v, c0', c0⟩ := h.none_
  obtain ⟨gN, N, c1, _, _, hgs, _⟩ := h.links
  have HLOW := Lib.hid h.low
  have hbw : b ≤ w.heap.size := Nat.le_trans h.le (Nat.le_of_lt hgs)
  clear h
  go_enter Try.func41, Try.ntmps41
  go_wp2_with fail
  go_loopg [] 0 (fun gh wr => wr = w)
  case atStart => rfl
  case round =>
    subst hrel
    go_wp2_with (first
      | (refine wpList_mk rfl _ _ _ rfl (base := wr.heap.size) runSlice 0 0 rfl rfl rfl (by omega) (by unfold maxLen; omega) (Nat.le_refl _) ?_; intro v1 w1 hown1 hg1; obtain ⟨A1, c1', rfl, hc1'⟩ := own_form hown1)
      | fail)
    go_ret
    exact ⟨_, rfl, own_base hown1 hbw, HLOW.out.trans ((below_make hg1).mono hbw)⟩
end Go.Proofs.Ytaiefneimjdmhaa
