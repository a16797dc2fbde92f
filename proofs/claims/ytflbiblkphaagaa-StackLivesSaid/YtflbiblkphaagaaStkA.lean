/- naskhlaw21.awake, walked. -/
import Derived.Test.YtflbiblkphaagaaStkN
import Derived.Test.YtflbiblkphaagaaStkP3
import Derived.Test.YtflbiblkphaagaaStkP4
namespace Go.Proofs.Ytflbiblkphaagaa
open Go.RowKit

theorem awk_emb : embS (newS 0) true 13 = (true, ⟨⟨0, 13, false⟩, [⟨1, 13, false⟩], 0, 0, 0⟩) := by decide +kernel
theorem awk_next : nextS ⟨⟨0, 13, false⟩, [⟨1, 13, false⟩], 0, 0, 0⟩ false = 2 := by decide +kernel
theorem awk_push : pushS ⟨⟨0, 13, false⟩, [⟨1, 13, false⟩], 0, 0, 0⟩ ⟨1, 0, false⟩ = (false, ⟨⟨0, 13, false⟩, [⟨1, 13, false⟩], 0, 0, 0⟩) := by decide +kernel
theorem awk_pop : popS ⟨⟨0, 13, false⟩, [⟨1, 13, false⟩], 0, 0, 0⟩ = (true, ⟨⟨0, 13, false⟩, [], 0, 0, 0⟩) := by decide +kernel
theorem awk_pop2 : popS ⟨⟨0, 13, false⟩, [], 0, 0, 0⟩ = (false, ⟨⟨0, 13, false⟩, [], 0, 0, 0⟩) := by decide +kernel
theorem awk_top : (Stk.top ⟨⟨0, 13, false⟩, [⟨1, 13, false⟩], 0, 0, 0⟩) = ⟨1, 13, false⟩ := rfl
theorem Kept.new_ {w a c : World} {b : Nat} (h : Below w.heap.size w a) (k : Kept a c [b]) (hb : w.heap.size ≤ b) : Below w.heap.size w c :=
  k.lower h h.size (by simpa using hb)
set_option maxRecDepth 100000 in
set_option maxHeartbeats 2000000 in
theorem awakeSt_any (w : World) : Calls Try.prog 21 #[] w fun e w' => e = .returned (.bool true) ∧ Below w.heap.size w w' := by
  obtain ⟨g, hg⟩ : ∃ g, w.heap.size = g := ⟨_, rfl⟩
  have HN := Lib.hid (stkNew_any 0 w)
  obtain ⟨s0, hs0⟩ : ∃ s, newS 0 = s := ⟨_, rfl⟩
  obtain ⟨s1, hs1⟩ : ∃ s : Stk, ⟨⟨0, 13, false⟩, [⟨1, 13, false⟩], 0, 0, 0⟩ = s := ⟨_, rfl⟩
  obtain ⟨s2, hs2⟩ : ∃ s : Stk, ⟨⟨0, 13, false⟩, [], 0, 0, 0⟩ = s := ⟨_, rfl⟩
  have h1 := awk_emb
  have h2 := awk_next
  have h3 := awk_push
  have h4 := awk_pop
  have h5 := awk_pop2
  have h6 := awk_top
  have h7 : s0.b ≤ 100000000 := by rw [← hs0]; decide
  have h8 : ((s1.R.length : Nat) : Int) + 1 = 2 := by rw [← hs1]; rfl
  rw [hs0, hs1] at h1
  rw [hs1] at h2 h3 h4 h6
  rw [hs2] at h4 h5
  rw [hg, hs0] at HN
  have H1 := Lib.hid h1
  have H2 := Lib.hid h2
  have H3 := Lib.hid h3
  have H4 := Lib.hid h4
  have H5 := Lib.hid h5
  have H6 := Lib.hid h6
  have H7 := Lib.hid h7
  have H8 := Lib.hid h8
  have HG := Lib.hid hg
  rw [hg]
  have fd := ent_lv 1 13 false
  clear h1 h2 h3 h4 h5 h6 h7 h8 hs0 hs1 hs2 hg
  go_enter Try.func21, Try.ntmps21
  go_wp2_with fail
  refine HN.out.mono ?_
  rintro e w1 ⟨rfl, hA1, hb1⟩
  have HA1 := Lib.hid hA1
  have HB1 := Lib.hid hb1
  clear hA1 hb1
  go_wp2_with fail
  refine (stkEmbed_any g s0 true 13 w1 HA1.out H7.out).mono ?_
  rintro e w2 ⟨rfl, hA2, hk2⟩
  rw [H1.out] at hA2
  have HA2 := Lib.hid hA2
  have HB2 : Hid (Below g w w2) := Lib.hid (by have := HG.out; subst this; exact Kept.new_ HB1.out hk2 (Nat.le_refl _))
  rw [H1.out]
  clear hA2 hk2
  go_wp2_with fail
  refine (stkTop_any g s1 w2 HA2.out).mono ?_
  rintro e w3 ⟨rfl, hb3⟩
  rw [H6.out]
  unfold entV
  have HA3 := Lib.hid (HA2.out.low hb3)
  have HB3 : Hid (Below g w w3) := Lib.hid (by have := HG.out; subst this; exact below_self HB2.out hb3)
  clear hb3
  go_wp2_with fail
  refine (stkLen_any g s1 w3 HA3.out).mono ?_
  rintro e w4 ⟨rfl, rfl⟩
  rw [H8.out]
  go_wp2_with fail
  refine (stkNext_any g s1 false w3 HA3.out).mono ?_
  rintro e w4 ⟨rfl, hb4⟩
  rw [H2.out]
  have HA4 := Lib.hid (HA3.out.low hb4)
  have HB4 : Hid (Below g w w4) := Lib.hid (by have := HG.out; subst this; exact below_self HB3.out hb4)
  clear hb4
  go_wp2_with fail
  refine (stkPush_any g s1 ⟨1, 0, false⟩ w4 HA4.out).mono ?_
  rintro e w5 ⟨rfl, hA5, hk5⟩
  rw [H3.out] at hA5
  rw [H3.out]
  have HA5 := Lib.hid hA5
  have HB5 : Hid (Below g w w5) := Lib.hid (by have := HG.out; subst this; exact Kept.new_ HB4.out hk5 (Nat.le_refl _))
  clear hA5 hk5
  go_wp2_with fail
  refine (stkPop_any g s1 w5 HA5.out).mono ?_
  rintro e w6 ⟨rfl, hA6, hk6⟩
  rw [H4.out] at hA6
  rw [H4.out]
  have HA6 := Lib.hid hA6
  have HB6 : Hid (Below g w w6) := Lib.hid (by have := HG.out; subst this; exact Kept.new_ HB5.out hk6 (Nat.le_refl _))
  clear hA6 hk6
  go_wp2_with fail
  refine (stkPop_any g s2 w6 HA6.out).mono ?_
  rintro e w7 ⟨rfl, hA7, hk7⟩
  rw [H5.out]
  have HB7 : Hid (Below g w w7) := Lib.hid (by have := HG.out; subst this; exact Kept.new_ HB6.out hk7 (Nat.le_refl _))
  clear hA7 hk7
  go_wp2
  go_ret
  exact ⟨rfl, HB7.out⟩
end Go.Proofs.Ytflbiblkphaagaa
