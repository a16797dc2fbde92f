/- order's counted and Visual, walked. -/
import Derived.Test.YtaiefneimjdmhaaOrLP5
import Derived.Test.YtaiefneimjdmhaaTnV
namespace Go.Proofs.Ytaiefneimjdmhaa
open Go.RowKit
set_option maxRecDepth 100000 in
theorem orCounted_any (x y : Int) (hy : heldF x = y) (w : World) : Calls Try.prog 31 #[.int .i64 x] w fun e w' => e = .returned (.int .i64 y) ∧ w = w' := by
  unfold heldF at hy
  by_cases h0 : x < 0
  · obtain rfl : 0 = y := by omega
    clear hy
    go_enter Try.func31, Try.ntmps31
    go_wp2
    go_ret
    exact ⟨rfl, rfl⟩
  · by_cases h1 : 126 < x
    · obtain rfl : 126 = y := by omega
      clear hy
      go_enter Try.func31, Try.ntmps31
      go_wp2
      go_ret
      exact ⟨rfl, rfl⟩
    · obtain rfl : x = y := by omega
      clear hy
      go_enter Try.func31, Try.ntmps31
      go_wp2
      go_ret
      exact ⟨rfl, rfl⟩
/-- No box of a caller's own. -/
def NoX : Nat → Obj → Prop := fun _ _ => False
/-- A new line. -/
theorem lnAt_new {T E : TypeId} {b n : Nat} {w w1 : World} (ho : w1.ownsRow b 3 1 (.slice (some ⟨b, 0, none⟩) n n) n ((List.replicate n (0 : Int)).map (Value.int .i64))) (hb : Below b w w1) (hbs : b ≤ w1.heap.size) : LnAt T E NoX b w1.heap.size n [] w (w1.alloc (.cells #[.slice none 0 0, .slice (some ⟨b, 0, none⟩) n n] T)) := by
  have hlt := (ho.lt b rfl).2
  refine ⟨⟨.slice none 0 0, b, List.replicate n 0, heap_alloc_new w1 _, ⟨rfl, .inl ⟨rfl, rfl⟩⟩, ho.alloc _, ?_, by simp [Value.ownBlock], by omega, by simp [Value.ownBlock], fun k o h => h.elim⟩, hb.alloc hbs _, hbs⟩
  exact ⟨by simp, by simp, by simp, by simp, by simp, by simp⟩
set_option maxRecDepth 100000 in
set_option maxHeartbeats 4000000 in
theorem orVisual_any (A : Option Addr) (n c : Nat) (ls : List Int) (w : World) (hr : Rd w 1 A n (ls.map (Value.int .i64))) (hn : n ≤ 100000) :
    Calls Try.prog 11 #[.slice A n c] w fun e w' => ∃ v, e = .returned v ∧ w'.ownsRow w.heap.size 3 1 v n (natV (visF ls)) ∧ Below w.heap.size w w' := by
  have hl : ls.length = n := by simpa using hr.len1
  have HL := Lib.hid hl
  have HR := Lib.hid hr
  have HV := Lib.hid (vis_tn ls)
  have HVL := Lib.hid ((vis_len ls).trans hl)
  have HCO := Lib.hid orCounted_any
  clear hl hr
  go_enter Try.func11, Try.ntmps11
  go_wp2_with (first
    | (refine wpList_mkFull rfl _ _ _ rfl (base := w.heap.size) (e := 3) (bytes := 8) (z := .int .i64 0) Try.underlying22 (by kernel_rfl) rfl (n : Int) (n : Int) n rfl rfl rfl rfl (by omega) (by unfold maxLen; omega) (Nat.le_refl _) ?_; intro w1 hown1 hg1)
    | fail)
  have hbm := below_make hg1
  have HS := Lib.hid (lnAt_new (T := 46) (E := 50) (b := w.heap.size) (by rw [List.map_replicate]; exact hown1) hbm hbm.size)
  clear hown1 hg1 hbm
  go_loopw [12] (fun i ws => ∃ k : Nat, k ≤ n ∧ i = .int .i64 (k : Int) ∧ LnAt 46 50 NoX w.heap.size w1.heap.size n (tnTo (lvO ls) k) w ws) (fun i _ => n - (intOf i).toNat)
  case atStart => exact ⟨0, Nat.zero_le _, rfl, HS.out⟩
  case round =>
    obtain ⟨k, hk, rfl, hln⟩ := hrel
    have HN := Lib.hid hln
    have hbw := Nat.le_trans hln.le (Nat.le_of_lt (by obtain ⟨_, _, _, _, h, _⟩ := hln.len; exact h))
    clear hln HS
    by_cases hlt : k < n
    · obtain ⟨x, hx⟩ : ∃ x, ls[k]? = some x := ⟨_, List.getElem?_eq_getElem (by rw [HL.out]; exact hlt)⟩
      obtain ⟨ad, rfl, hab, hcell⟩ := (HR.out.below (HN.out.low.mono (Nat.le_refl _))).at_ hlt
      have cx : wr.cell? (ad.add k) = some (.int .i64 x) := hcell _ (by rw [List.getElem?_map, hx]; rfl)
      have hlv : heldF x = (lvO ls k : Int) := by
        unfold lvO
        rw [List.getD_eq_getElem?_getD, hx]
        have := heldF_in x
        simp only [Option.getD_some]
        omega
      have HC := Lib.hid (fun W => HCO.out x _ hlv W)
      have HP := Lib.hid (orPut_any NoX w.heap.size w1.heap.size n (lvO ls k) k (tnTo (lvO ls) k) w wr HN.out (by have := tnTo_len (lvO ls) k; omega) hn (lvO_le ls k) (fun h => by have := tnTo_lt (lvO ls) k k h; omega) hlt)
      rw [← tnTo_next] at HP
      have i1 : (k : Int) < (n : Int) := by omega
      have i2 : (0 : Int) ≤ (k : Int) := by omega
      have i3 : (n : Int) ≤ 100000 := by omega
      clear hx hcell hlv
      go_wp2_with (first
        | (go_at_call 31; refine (HC.out _).mono ?_; rintro e w3 ⟨rfl, rfl⟩)
        | (go_at_call 30; refine HP.out.mono ?_; rintro e w3 ⟨rfl, hl3⟩)
        | fail)
      go_roundw
      case rel => exact ⟨k + 1, by omega, by go_num, hl3⟩
      case measure => simp [intOf]; omega
    · obtain rfl : k = n := by omega
      have i1 : ¬ (k : Int) < (k : Int) := by omega
      by_cases h0 : k = 0
      · subst h0
        have HP := Lib.hid (orPlaces0_any NoX w.heap.size w1.heap.size w wr HN.out)
        have HZ := Lib.hid (show natV (visF ls) = [] from List.eq_nil_of_length_eq_zero (by rw [natV_len]; exact HVL.out))
        go_wp2_with (first
          | (go_at_call 32; refine HP.out.mono ?_; rintro e w3 ⟨v3, rfl, ho3, hb3⟩)
          | fail)
        go_ret
        exact ⟨_, rfl, by rw [HZ.out]; exact ho3, hb3⟩
      · obtain ⟨t, R, hT, hq⟩ := tnTo_end (lv := lvO ls) (n := k) (lvO_le ls) (by omega)
        have HQ := Lib.hid (hq.trans (by rw [HV.out, HL.out] : wnF (lvO ls) 126 0 (List.range k) = visF ls))
        rw [hT] at HN
        have hRl : R.length ≤ 100000 := by have := tnTo_len (lvO ls) k; rw [hT] at this; simp only [List.length_cons] at this; omega
        have HP := Lib.hid (orPlaces_any NoX w.heap.size w1.heap.size k t R w wr HN.out hRl hn (by rw [HQ.out]; exact HVL.out) hbw)
        rw [HQ.out] at HP
        clear hT hq hRl h0
        go_wp2_with (first
          | (go_at_call 32; refine HP.out.mono ?_; rintro e w3 ⟨v3, rfl, ho3, hb3⟩)
          | fail)
        go_ret
        exact ⟨_, rfl, ho3, hb3⟩
end Go.Proofs.Ytaiefneimjdmhaa
