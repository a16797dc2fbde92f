/- runs.counted and runs.Visual, walked. -/
import Derived.Test.YtaiefneimjdmhaaRuLP5
import Derived.Test.YtaiefneimjdmhaaRuLg
import Derived.Test.YtaiefneimjdmhaaTnV
import Derived.Test.YtaiefneimjdmhaaLnNew
namespace Go.Proofs.Ytaiefneimjdmhaa
open Go.RowKit
set_option maxRecDepth 100000 in
theorem ruCounted_any (x y : Int) (hy : heldF x = y) (w : World) : Calls Try.prog 40 #[.int .i64 x] w fun e w' => e = .returned (.int .i64 y) ∧ w = w' := by
  unfold heldF at hy
  by_cases h0 : x < 0
  · obtain rfl : 0 = y := by omega
    clear hy
    go_enter Try.func40, Try.ntmps40
    go_wp2
    go_ret
    exact ⟨rfl, rfl⟩
  · by_cases h1 : 126 < x
    · obtain rfl : 126 = y := by omega
      clear hy
      go_enter Try.func40, Try.ntmps40
      go_wp2
      go_ret
      exact ⟨rfl, rfl⟩
    · obtain rfl : x = y := by omega
      clear hy
      go_enter Try.func40, Try.ntmps40
      go_wp2
      go_ret
      exact ⟨rfl, rfl⟩
/-- As which level a run counts, by its number. -/
def lvU (L : List Rg) (i : Nat) : Nat := lvG (L.getD i rg0)
theorem lvU_le (L : List Rg) (i : Nat) : lvU L i ≤ 126 := by unfold lvU lvG heldF; omega
theorem visG_pick (L : List Rg) : visG L = pickG L (wnF (lvU L) 126 0 (List.range L.length)) := visG_at L rg0
set_option maxRecDepth 100000 in
set_option maxHeartbeats 4000000 in
theorem ruVisual_any (A : Option Addr) (n c : Nat) (ls : List Int) (w : World) (hr : Rd w 1 A n (ls.map (Value.int .i64))) (hn : n ≤ 100000) :
    Calls Try.prog 25 #[.slice A n c] w fun e w' => ∃ v, e = .returned v ∧ w'.ownsRow w.heap.size 38 3 v (logR ls n).length (cellsG (visG (logR ls n))) ∧ Below w.heap.size w w' := by
  have HLG := Lib.hid (ruLogical_any A n c ls w hr hn)
  have hql := logR_len ls n
  obtain ⟨L, hL⟩ : ∃ L, logR ls n = L := ⟨_, rfl⟩
  rw [hL] at HLG hql ⊢
  obtain ⟨q, hq⟩ : ∃ q, L.length = q := ⟨_, rfl⟩
  rw [hq] at HLG hql ⊢
  have HV := Lib.hid (visG_pick L)
  have HQ := Lib.hid hq
  have hq5 : q ≤ 100000 := by omega
  have HCO := Lib.hid ruCounted_any
  clear hr hL hq
  go_enter Try.func25, Try.ntmps25
  go_wp2_with (first
    | (go_at_call 23; refine HLG.out.mono ?_; rintro e w0 ⟨v0, rfl, hO0, hb0⟩; obtain ⟨A0, c0, rfl, hc0⟩ := own_form hO0; have HO0 := Lib.hid (Rd.of_own hO0); have HB0 := Lib.hid hb0; clear hO0 hb0)
    | (refine wpList_mkFull rfl _ _ _ rfl (base := w0.heap.size) (e := 3) (bytes := 8) (z := .int .i64 0) Try.underlying22 (by kernel_rfl) rfl (q : Int) (q : Int) q rfl rfl rfl rfl (by omega) (by unfold maxLen; omega) (Nat.le_refl _) ?_; intro w1 hown1 hg1)
    | fail)
  have hbm := below_make hg1
  have HS := Lib.hid (lnAt_new (T := 62) (E := 65) (b := w0.heap.size) (by rw [List.map_replicate]; exact hown1) hbm hbm.size)
  clear hown1 hg1 hbm
  go_loopw [15] (fun i ws => ∃ k : Nat, k ≤ q ∧ i = .int .i64 (k : Int) ∧ LnAt 62 65 NoX w0.heap.size w1.heap.size q (tnTo (lvU L) k) w0 ws) (fun i _ => q - (intOf i).toNat)
  case atStart => exact ⟨0, Nat.zero_le _, rfl, HS.out⟩
  case round =>
    obtain ⟨k, hk, rfl, hln⟩ := hrel
    have HN := Lib.hid hln
    have hbw := Nat.le_trans hln.le (Nat.le_of_lt (by obtain ⟨_, _, _, _, h, _⟩ := hln.len; exact h))
    clear hln HS
    by_cases hlt : k < q
    · obtain ⟨r, hx⟩ : ∃ r, L[k]? = some r := ⟨_, List.getElem?_eq_getElem (by rw [HQ.out]; exact hlt)⟩
      obtain ⟨ad, rfl, hab, d0, d1, d2⟩ := (HO0.out.below (HN.out.low.mono (Nat.le_refl _))).rg hx
      have hlv : heldF r.2.2 = (lvU L k : Int) := by
        unfold lvU lvG
        rw [List.getD_eq_getElem?_getD, hx]
        have := heldF_in r.2.2
        simp only [Option.getD_some]
        omega
      obtain ⟨r0, r1, r2⟩ := r
      simp only at d0 d1 d2 hlv
      have HC := Lib.hid (fun W => HCO.out r2 _ hlv W)
      have HP := Lib.hid (fun W (hl : LnAt 62 65 NoX w0.heap.size w1.heap.size q (tnTo (lvU L) k) w0 W) => ruPut_any NoX w0.heap.size w1.heap.size q (lvU L k) k (tnTo (lvU L) k) w0 W hl (by have := tnTo_len (lvU L) k; omega) hq5 (lvU_le L k) (fun h => by have := tnTo_lt (lvU L) k k h; omega) hlt)
      rw [← tnTo_next] at HP
      have HNA := Lib.hid (HN.out.below (below_new wr (.cells #[.int .i64 r0, .int .i64 r1, .int .i64 r2] 38)))
      have hcn := cells_new wr [.int .i64 r0, .int .i64 r1, .int .i64 r2] 38 2 _ rfl
      rw [addNew] at hcn
      have i1 : (k : Int) < (q : Int) := by omega
      have i2 : (0 : Int) ≤ (k : Int) := by omega
      have i3 : (q : Int) ≤ 100000 := by omega
      clear hx hlv
      go_wp2_with (first
        | (go_at_call 40; refine (HC.out _).mono ?_; rintro e w3 ⟨rfl, rfl⟩)
        | (go_at_call 39; refine (HP.out _ HNA.out).mono ?_; rintro e w4 ⟨rfl, hl3⟩)
        | fail)
      go_roundw
      case rel => exact ⟨k + 1, by omega, by go_num, hl3⟩
      case measure => simp [intOf]; omega
    · obtain rfl : k = q := by omega
      have i1 : ¬ (k : Int) < (k : Int) := by omega
      by_cases h0 : k = 0
      · subst h0
        have HP := Lib.hid (ruPick0_any NoX w0.heap.size w1.heap.size A0 c0 w0 wr HN.out)
        have HZ := Lib.hid (show visG L = [] by rw [HV.out, HQ.out]; exact congrArg (pickG L) (wn_nil _ _ _))
        go_wp2_with (first
          | (go_at_call 41; refine HP.out.mono ?_; rintro e w3 ⟨v3, rfl, ho3, hb3⟩)
          | fail)
        go_ret
        exact ⟨_, rfl, by rw [HZ.out]; exact own_base ho3 HB0.out.size, HB0.out.trans (hb3.mono HB0.out.size)⟩
      · obtain ⟨t, R, hT, hsq⟩ := tnTo_end (lv := lvU L) (n := k) (lvU_le L) (by omega)
        have HSQ := Lib.hid (show pickG L (tnEnd t R).seq = visG L by rw [hsq, HV.out, HQ.out])
        have hsl : (tnEnd t R).seq.length = k := by rw [hsq, wn_len, List.length_range]
        rw [hT] at HN
        have hRl : R.length ≤ 100000 := by have := tnTo_len (lvU L) k; rw [hT] at this; simp only [List.length_cons] at this; omega
        have HP := Lib.hid (ruPick_any NoX w1.heap.size k t R A0 c0 L w0 wr HO0.out HN.out hRl hq5 hsl)
        rw [HSQ.out] at HP
        clear hT hsq hRl h0 hsl
        go_wp2_with (first
          | (go_at_call 41; refine HP.out.mono ?_; rintro e w3 ⟨v3, rfl, ho3, hb3⟩)
          | fail)
        go_ret
        exact ⟨_, rfl, own_base ho3 HB0.out.size, HB0.out.trans (hb3.mono HB0.out.size)⟩
end Go.Proofs.Ytaiefneimjdmhaa
