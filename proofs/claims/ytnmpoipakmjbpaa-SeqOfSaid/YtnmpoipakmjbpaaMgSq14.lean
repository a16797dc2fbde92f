/- Texts of one claim, one behind the other. -/
import Derived.Test.YtnmpoipakmjbpaaMgSq2
import Derived.Test.YtnmpoipakmjbpaaMgSq3
import Derived.Test.YtnmpoipakmjbpaaMgSq4
import Derived.Test.YtnmpoipakmjbpaaMgSq13
/- The reference's Left, given, right, walked. -/
namespace Go.Proofs.Ytnmpoipakmjbpaa
open Go.RowKit

theorem entR_ov (x y : Int) (z : Bool) (w : World) : (Instr.field 60 (.agg #[.int .i64 x, .int .i64 y, .bool z]) 1).run Try.prog w = .ok (.int .i64 y) w := by kernel_rfl
set_option maxRecDepth 100000 in
set_option maxHeartbeats 2000000 in
theorem rxGiven_any (b : Nat) (s : Stk) (x : Int) (w : World) (h : RsAt w b s) : Calls Try.prog 36 #[.pointer (some ⟨b, 0, none⟩), .int .i64 x] w fun e w' => e = .returned (.int .i64 (givS s x)) ∧ Below w.heap.size w w' := by
  have HS := Lib.hid h
  have HT := Lib.hid (fun W (k : RsAt W b s) => rsTop_any b s W k)
  unfold entV at HT
  clear h
  unfold givS
  obtain ⟨lv, ov, is, htp⟩ : ∃ lv ov is, s.top = ⟨lv, ov, is⟩ := ⟨_, _, _, rfl⟩
  rw [htp] at HT ⊢
  simp only at HT ⊢
  have fd := entR_ov lv ov is
  clear htp
  by_cases ho : ov = 13
  · subst ho
    rw [if_pos rfl]
    go_enter Try.func36, Try.ntmps36
    go_wp2_with fail
    refine (HT.out _ HS.out).mono ?_
    rintro e w1 ⟨rfl, hb1⟩
    have HB1 := Lib.hid hb1
    clear hb1
    go_wp2
    go_ret
    exact ⟨rfl, HB1.out⟩
  · rw [if_neg ho]
    have g13 : (ov == 13) = false := by simp [ho]
    go_enter Try.func36, Try.ntmps36
    go_wp2_with fail
    refine (HT.out _ HS.out).mono ?_
    rintro e w1 ⟨rfl, hb1⟩
    have HB1 := Lib.hid hb1
    have HS1 := Lib.hid (HS.out.low hb1)
    clear hb1
    go_wp2_with fail
    refine (HT.out _ HS1.out).mono ?_
    rintro e w2 ⟨rfl, hb2⟩
    have HB2 := Lib.hid (below_self HB1.out hb2)
    clear hb2
    go_wp2
    go_ret
    exact ⟨rfl, HB2.out⟩
set_option maxRecDepth 100000 in
set_option maxHeartbeats 4000000 in
theorem rxRight_any (A : Option Addr) (n c k : Nat) (xs : List Int) (x : Int) (w : World) (hr : Rd w 1 A n (xs.map (Value.int .i64))) (hn : n ≤ 100000) (hnc : n ≤ c) (hx : xs[k]? = some x) : Calls Try.prog 40 #[.slice A n c, .int .i64 (k : Int)] w fun e w' => e = .returned (.bool (rightC xs k)) ∧ Below w.heap.size w w' := by
  have hg : xs.getD k 0 = x := by rw [List.getD_eq_getElem?_getD, hx]; rfl
  have hlen : xs.length = n := by simpa using hr.len1
  have hkl := (List.getElem?_eq_some_iff.1 hx).1
  have hk : k < n := by omega
  obtain ⟨ad, rfl, hab, hcell⟩ := hr.at_ hk
  have cx := hcell _ (by rw [List.getElem?_map, hx]; rfl)
  have hkn : (k : Int) < (n : Int) := by omega
  have hk0 : (0 : Int) ≤ (k : Int) := by omega
  have hk5 : (k : Int) ≤ 100000 := by omega
  have HR := Lib.hid hr
  clear hcell hr
  by_cases h21 : x = 21
  · subst h21
    have hrc : rightC xs k = decide (firstF xs ((k : Int) + 1, (matF xs).getD k 0) = 1) := by unfold rightC; rw [if_pos hg]
    obtain ⟨m, hm⟩ : ∃ m, (matF xs)[k]? = some m := ⟨_, List.getElem?_eq_getElem (by rw [(matF_good xs).len]; omega)⟩
    have hmd : (matF xs).getD k 0 = m := by rw [List.getD_eq_getElem?_getD, hm]; rfl
    have hmi := mat_in (List.mem_of_getElem? hm)
    rw [hmd] at hrc
    rw [hrc]
    have hFm : Fit m := by unfold Fit; omega
    have HM := Lib.hid (rfMatches_any (some ad) n c xs w HR.out hn)
    have HMM := Lib.hid hm
    obtain ⟨f, hf⟩ : ∃ f, firstF xs ((k : Int) + 1, m) = f := ⟨_, rfl⟩
    have HP := Lib.hid (fun W (k' : Below w.heap.size w W) => rfFirst_any (some ad) n c xs ((k : Int) + 1) m W (HR.out.below k') (by omega) hnc (by unfold Fit; omega) hFm)
    rw [hf] at HP ⊢
    clear hx hg hrc hm hmd hmi hf hlen hkl
    go_enter Try.func40, Try.ntmps40
    go_wp2_with fail
    refine HM.out.mono ?_
    rintro e w1 ⟨v1, rfl, hown1, hb1⟩
    obtain ⟨M, mc, rfl, hmc⟩ := own_form hown1
    obtain ⟨md, rfl, hmb, hmcell⟩ := (Rd.of_own hown1).at_ hk
    have cm := hmcell _ (by rw [List.getElem?_map, HMM.out]; rfl)
    have HB1 := Lib.hid hb1
    clear hown1 hmcell hb1
    go_wp2_with fail
    refine (HP.out _ HB1.out).mono ?_
    rintro e w2 ⟨rfl, hb2⟩
    have HB2 := Lib.hid (below_self HB1.out hb2)
    clear hb2
    go_wp2
    go_ret
    exact ⟨rfl, HB2.out⟩
  · have hrc : rightC xs k = decide (x = 20) := by unfold rightC; rw [hg, if_neg h21]
    rw [hrc]
    have g21 : (x == 21) = false := by simp [h21]
    clear hx hg hrc hlen hkl
    by_cases h20 : x = 20
    · subst h20
      go_enter Try.func40, Try.ntmps40
      go_wp2
      go_ret
      exact ⟨rfl, Below.refl _ _⟩
    · have g20 : (x == 20) = false := by simp [h20]
      have e20 : decide (x = 20) = false := by simp [h20]
      rw [e20]
      go_enter Try.func40, Try.ntmps40
      go_wp2
      go_ret
      exact ⟨rfl, Below.refl _ _⟩
end Go.Proofs.Ytnmpoipakmjbpaa
