/- Texts of one claim, one behind the other. -/
import Derived.Test.YtnmpoipakmjbpaaMgSq3
import Derived.Test.YtnmpoipakmjbpaaMgSq5
/- Lists of runs, compared. -/
namespace Go.Proofs.Ytnmpoipakmjbpaa
open Go.RowKit

theorem runEq_any (A B : Option Addr) (n c d : Nat) (xs : List Int) (w : World) (hx : Rd w 1 A n (xs.map (Value.int .i64))) (hy : Rd w 1 B n (xs.map (Value.int .i64))) (hn : n ≤ maxLen) : Calls Try.prog 12 #[.slice A n c, .slice B n d] w fun e w' => e = .returned (.bool true) ∧ Below w.heap.size w w' := by
  have H := Lib.hid (equalInt_b A B n n c d xs xs w hx hy hn hn)
  rw [decide_eq_true rfl] at H
  clear hx hy
  go_enter Try.func12, Try.ntmps12
  go_wp2_with fail
  refine H.out.mono ?_
  rintro e w2 ⟨rfl, hb⟩
  have HB := Lib.hid hb
  clear hb
  go_wp2_with fail
  go_ret
  exact ⟨rfl, HB.out⟩
set_option maxRecDepth 100000 in
set_option maxHeartbeats 4000000 in
theorem runsEq_any (b1 b2 : Nat) (A B : Option Addr) (n m c d : Nat) (Q1 Q2 : List Value) (R : List (List Int)) (w : World) (h1 : LsAt w b1 (.slice A n c) Q1 R) (h2 : LsAt w b2 (.slice B m d) Q2 R) (hn : Q1.length = n) (hm : Q2.length = m) (hR : ∀ r ∈ R, r.length ≤ 100000) (hN : n ≤ 100000) : Calls Try.prog 11 #[.slice A n c, .slice B m d, .func (.func 12) #[] #[]] w fun e w' => e = .returned (.bool true) ∧ Below w.heap.size w w' := by
  have hmn : m = n := by rw [← hn, ← hm, h1.len, h2.len]
  subst hmn
  have H1 := Lib.hid h1
  have H2 := Lib.hid h2
  have HN1 := Lib.hid hn
  have HN2 := Lib.hid hm
  have HRL := Lib.hid hR
  have hls := len_ls
  clear h1 h2 hn hm hR
  go_enter Try.func11, Try.ntmps11
  go_wp2_with fail
  go_loopw [17] (fun i wr => ∃ k : Nat, k ≤ m ∧ i = .int .i64 (k : Int) ∧ Below w.heap.size w wr) (fun i _ => m - (intOf i).toNat)
  case atStart => exact ⟨0, Nat.zero_le _, rfl, Below.refl _ _⟩
  case round =>
    obtain ⟨k, hk, rfl, hb⟩ := hrel
    have HB := Lib.hid hb
    by_cases hlt : k < m
    · obtain ⟨r, hr⟩ : ∃ r, R[k]? = some r := ⟨_, List.getElem?_eq_getElem (by rw [← H1.out.len, HN1.out]; exact hlt)⟩
      obtain ⟨g1, V1, k1, rfl, _, c1, _, _, _, o1, _⟩ := (H1.out.low hb).row HN1.out.symm hr
      obtain ⟨g2, V2, k2, rfl, _, c2, _, _, _, o2, _⟩ := (H2.out.low hb).row HN2.out.symm hr
      have HC := Lib.hid (runEq_any V1 V2 r.length k1 k2 r wr (Rd.of_own o1) (Rd.of_own o2) (by have := HRL.out r (List.mem_of_getElem? hr); unfold maxLen; omega))
      have hkm : (k : Int) < (m : Int) := by omega
      have hk0 : (0 : Int) ≤ (k : Int) := by omega
      have hk5 : (k : Int) ≤ 100000 := by omega
      clear hb hr o1 o2
      go_wp2_with fail
      refine HC.out.mono ?_
      rintro e w2 ⟨rfl, hb2⟩
      have HB2 := Lib.hid (below_self HB.out hb2)
      clear hb2
      go_wp2_with fail
      go_roundw
      case rel => exact ⟨k + 1, by omega, by go_num, HB2.out⟩
      case measure => simp [intOf]; omega
    · obtain rfl : k = m := by omega
      clear hb
      go_wp2_with fail
      go_ret
      exact ⟨rfl, HB.out⟩
end Go.Proofs.Ytnmpoipakmjbpaa
