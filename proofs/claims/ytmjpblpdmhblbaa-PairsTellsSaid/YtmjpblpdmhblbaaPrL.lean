/- naskhlaw08: awake, PairsTells, PairsBack. -/
import Derived.Test.YtmjpblpdmhblbaaPrR1
namespace Go.Proofs.Ytmjpblpdmhblbaa
open Go.RowKit

set_option maxRecDepth 100000 in
set_option maxHeartbeats 4000000 in
theorem awakePr_any (w : World) : Calls Try.prog 31 #[] w fun e w' => e = .returned (.bool true) ∧ Below w.heap.size w w' := by
  have h1 := Lib.hid (show mirF 40 = 41 by decide +kernel)
  have h2 := Lib.hid (show matF 9001 12297 = true by decide +kernel)
  have h3 := Lib.hid (show matF 40 93 = false by decide +kernel)
  have h4 := Lib.hid (show canF 9001 = 12296 by decide +kernel)
  go_enter Try.func31, Try.ntmps31
  have hbz := Below.refl w.heap.size w
  go_wp2_with (first
      | (go_at_call 25; with_reducible refine (prMirror_any 40 _).mono ?_; rintro e w3 ⟨rfl, h9⟩; replace hbz := below_self hbz h9; clear h9; rw [h1.out])
      | (go_at_call 29; with_reducible refine (prMatch_any 9001 12297 _).mono ?_; rintro e w3 ⟨rfl, h9⟩; replace hbz := below_self hbz h9; clear h9; rw [h2.out])
      | (go_at_call 29; with_reducible refine (prMatch_any 40 93 _).mono ?_; rintro e w3 ⟨rfl, h9⟩; replace hbz := below_self hbz h9; clear h9; rw [h3.out])
      | (go_at_call 27; with_reducible refine (prCanon_any 9001 _).mono ?_; rintro e w3 ⟨rfl, h9⟩; replace hbz := below_self hbz h9; clear h9; rw [h4.out])
      | fail)
  go_ret
  have hfin := hbz
  exact ⟨rfl, hfin⟩

set_option maxRecDepth 100000 in
set_option maxHeartbeats 4000000 in
theorem pairsTells_any (a b : Int) (w : World) : Calls Try.prog 8 #[.int .i64 a, .int .i64 b] w fun e w' => e = .returned (.bool true) ∧ Below w.heap.size w w' := by
  obtain ⟨p, v, h1⟩ : ∃ p v, braF a = (p, v) := ⟨_, _, rfl⟩
  have H1 := Lib.hid h1
  clear h1
  go_enter Try.func8, Try.ntmps8
  go_wp2_with fail
  refine (prBracket_any a p v H1.out _).mono ?_
  rintro e w1 ⟨rfl, hb1⟩
  go_wp2_with fail
  refine (refBracket_any a p v H1.out _).mono ?_
  rintro e w2 ⟨rfl, hb⟩
  have hb2 := below_self hb1 hb
  clear hb hb1
  have hbz := Below.refl w2.heap.size w2
  go_wp2_with (first
      | (go_at_call 25; with_reducible refine (prMirror_any a _).mono ?_; rintro e w3 ⟨rfl, h9⟩; replace hbz := below_self hbz h9; clear h9)
      | (go_at_call 26; with_reducible refine (refMirror_any a _).mono ?_; rintro e w3 ⟨rfl, h9⟩; replace hbz := below_self hbz h9; clear h9)
      | (go_at_call 27; with_reducible refine (prCanon_any a _).mono ?_; rintro e w3 ⟨rfl, h9⟩; replace hbz := below_self hbz h9; clear h9)
      | (go_at_call 28; with_reducible refine (refCanon_any a _).mono ?_; rintro e w3 ⟨rfl, h9⟩; replace hbz := below_self hbz h9; clear h9)
      | (go_at_call 29; with_reducible refine (prMatch_any a b _).mono ?_; rintro e w3 ⟨rfl, h9⟩; replace hbz := below_self hbz h9; clear h9)
      | (go_at_call 30; with_reducible refine (refMatch_any a b _).mono ?_; rintro e w3 ⟨rfl, h9⟩; replace hbz := below_self hbz h9; clear h9)
      | (go_at_call 31; with_reducible refine (awakePr_any _).mono ?_; rintro e w3 ⟨rfl, h9⟩; replace hbz := below_self hbz h9; clear h9)
      | fail)
  go_ret
  have hfin := hbz
  exact ⟨rfl, below_self hb2 hfin⟩

set_option maxRecDepth 100000 in
set_option maxHeartbeats 4000000 in
theorem pairsBack_any (a b : Int) (w : World) : Calls Try.prog 9 #[.int .i64 a, .int .i64 b] w fun e w' => e = .returned (.bool true) ∧ Below w.heap.size w w' := by
  obtain ⟨p, v, h1⟩ : ∃ p v, braF a = (p, v) := ⟨_, _, rfl⟩
  obtain ⟨p', v', h2⟩ : ∃ p v, braF b = (p, v) := ⟨_, _, rfl⟩
  obtain ⟨m, hm⟩ : ∃ m, mirF a = m := ⟨_, rfl⟩
  obtain ⟨m', hm'⟩ : ∃ m, canF a = m := ⟨_, rfl⟩
  have hmm : mirF m = a := by rw [← hm]; exact mirF_back a
  have hcc : canF m' = m' := by rw [← hm']; exact canF_back a
  have HM := Lib.hid hm
  have HM' := Lib.hid hm'
  have HMM := Lib.hid hmm
  have HCC := Lib.hid hcc
  have H1 := Lib.hid h1
  have H2 := Lib.hid h2
  have HB := Lib.hid (fun h => matF_back a b h)
  clear h1 h2 hm hm' hmm hcc
  go_enter Try.func9, Try.ntmps9
  have hbz := Below.refl w.heap.size w
  go_wp2_with (first
      | (go_at_call 25; with_reducible refine (prMirror_any a _).mono ?_; rintro e w3 ⟨rfl, h9⟩; replace hbz := below_self hbz h9; clear h9; rw [HM.out])
      | (go_at_call 25; with_reducible refine (prMirror_any m _).mono ?_; rintro e w3 ⟨rfl, h9⟩; replace hbz := below_self hbz h9; clear h9; rw [HMM.out])
      | (go_at_call 27; with_reducible refine (prCanon_any a _).mono ?_; rintro e w3 ⟨rfl, h9⟩; replace hbz := below_self hbz h9; clear h9; rw [HM'.out])
      | (go_at_call 27; with_reducible refine (prCanon_any m' _).mono ?_; rintro e w3 ⟨rfl, h9⟩; replace hbz := below_self hbz h9; clear h9; rw [HCC.out])
      | fail)
  have hb1 := hbz
  clear hbz
  refine (prBracket_any a p v H1.out _).mono ?_
  rintro e w1 ⟨rfl, hb⟩
  have hb2 := below_self hb1 hb
  clear hb hb1
  go_wp2_with fail
  refine (prBracket_any b p' v' H2.out _).mono ?_
  rintro e w2 ⟨rfl, hb⟩
  have hb3 := below_self hb2 hb
  clear hb hb2
  cases hmt : matF a b with
  | true =>
    have HT := Lib.hid hmt
    obtain ⟨e1, e2, e3⟩ := HB.out hmt
    rw [H1.out] at e1
    rw [H2.out] at e2
    simp only at e1 e2
    subst e1 e2
    have HE := Lib.hid e3
    clear hmt e3
    have hbz := Below.refl w2.heap.size w2
    go_wp2_with (first
        | (go_at_call 29; with_reducible refine (prMatch_any a b _).mono ?_; rintro e w3 ⟨rfl, h9⟩; replace hbz := below_self hbz h9; clear h9; rw [HT.out])
        | (go_at_call 29; with_reducible refine (prMatch_any b a _).mono ?_; rintro e w3 ⟨rfl, h9⟩; replace hbz := below_self hbz h9; clear h9; rw [HE.out])
        | (go_at_call 31; with_reducible refine (awakePr_any _).mono ?_; rintro e w3 ⟨rfl, h9⟩; replace hbz := below_self hbz h9; clear h9)
        | fail)
    go_ret
    have hfin := hbz
    exact ⟨rfl, below_self hb3 hfin⟩
  | false =>
    have HT := Lib.hid hmt
    clear hmt
    have hbz := Below.refl w2.heap.size w2
    go_wp2_with (first
        | (go_at_call 29; with_reducible refine (prMatch_any a b _).mono ?_; rintro e w3 ⟨rfl, h9⟩; replace hbz := below_self hbz h9; clear h9; rw [HT.out])
        | (go_at_call 31; with_reducible refine (awakePr_any _).mono ?_; rintro e w3 ⟨rfl, h9⟩; replace hbz := below_self hbz h9; clear h9)
        | fail)
    go_ret
    have hfin := hbz
    exact ⟨rfl, below_self hb3 hfin⟩
end Go.Proofs.Ytmjpblpdmhblbaa
