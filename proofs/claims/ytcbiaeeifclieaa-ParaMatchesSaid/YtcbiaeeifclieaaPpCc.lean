/- Class of a Props. -/
import Derived.Test.YtcbiaeeifclieaaPpMd
namespace Go.Proofs.Ytcbiaeeifclieaa
open Go.RowKit
/-- What no call made. -/
def NoProp (w : World) (p : Value) : Prop := p = .pointer none ∨ ∃ b, p = .pointer (some ⟨b, 0, none⟩) ∧ w.cell? ⟨b, 0, none⟩ = some (.pointer none)
theorem ppMade_no {w : World} {p : Value} (h : NoProp w p) : Calls Try.prog 91 #[p] w fun e w' => e = .returned (.bool false) ∧ w = w' := by
  rcases h with rfl | ⟨b, rfl, h⟩
  · go_enter Try.func91, Try.ntmps91
    go_wp2
    go_ret
    exact ⟨rfl, rfl⟩
  · go_enter Try.func91, Try.ntmps91
    go_wp2
    go_ret
    exact ⟨rfl, rfl⟩
set_option maxRecDepth 100000 in
theorem ppClass_of (lB : List Rg) (b b1 n1 : Nat) (c : Int) (w : World) (h1 : w.cell? ⟨b, 0, none⟩ = some (.pointer (some ⟨b1, 0, none⟩))) (hT : TabAt w b1 lB 0 n1) (hr : riseB (-1) lB = true) :
    Calls Try.prog 92 #[.pointer (some ⟨b, 0, none⟩), .int .i64 c] w fun e w' => e = .returned (.int .i64 (if 0 ≤ c ∧ c ≤ 1114111 then getG lB 0 c else 13)) ∧ Below w.heap.size w w' := by
  have HT := Lib.hid hT
  have HR := Lib.hid hr
  clear hT hr
  have hc : c < 0 ∨ (0 ≤ c ∧ 1114111 < c) ∨ (0 ≤ c ∧ c ≤ 1114111) := by omega
  rcases hc with h | ⟨h, h'⟩ | ⟨h, h'⟩
  · have HV := Lib.hid (show (if 0 ≤ c ∧ c ≤ 1114111 then getG lB 0 c else 13) = 13 from if_neg (by omega))
    go_enter Try.func92, Try.ntmps92
    go_wp2
    go_ret
    exact ⟨by first | rfl | exact retI HV.out.symm, Below.refl _ _⟩
  · have HV := Lib.hid (show (if 0 ≤ c ∧ c ≤ 1114111 then getG lB 0 c else 13) = 13 from if_neg (by omega))
    go_enter Try.func92, Try.ntmps92
    go_wp2
    go_ret
    exact ⟨by first | rfl | exact retI HV.out.symm, Below.refl _ _⟩
  · have HV := Lib.hid (show (if 0 ≤ c ∧ c ≤ 1114111 then getG lB 0 c else 13) = getG lB 0 c from if_pos ⟨h, h'⟩)
    go_enter Try.func92, Try.ntmps92
    go_wp2_with fail
    refine (prGet_any b1 n1 lB 0 c w HT.out HR.out).mono ?_
    rintro e w1 ⟨rfl, hb⟩
    go_wp2
    go_ret
    exact ⟨by first | rfl | exact retI HV.out.symm, hb⟩
/-- The inner calls, with what they tell as a letter. -/
theorem ppClass_gen (b : Nat) (c v : Int) (w : World) (hP : PropAt w b) (hk : ∀ w' : World, w' = w → Calls Try.prog 92 #[.pointer (some ⟨b, 0, none⟩), .int .i64 c] w' fun e w'' => e = .returned (.int .i64 v) ∧ Below w'.heap.size w' w'') :
    Calls Try.prog 76 #[.pointer (some ⟨b, 0, none⟩), .int .i64 c] w fun e w' => e = .returned (.int .i64 v) ∧ Below w.heap.size w w' := by
  have HP := Lib.hid hP
  have HK := Lib.hid hk
  clear hP hk
  go_enter Try.func76, Try.ntmps76
  go_wp2_with fail
  refine (ppMade_any b w HP.out).mono ?_
  rintro e w1 ⟨rfl, rfl⟩
  go_wp2_with fail
  refine (HK.out _ rfl).mono ?_
  rintro e w2 ⟨rfl, hb⟩
  go_wp2
  go_ret
  exact ⟨rfl, hb⟩
theorem ppClass_any (b : Nat) (c v : Int) (hv : classF c = v) (w : World) (hP : PropAt w b) :
    Calls Try.prog 76 #[.pointer (some ⟨b, 0, none⟩), .int .i64 c] w fun e w' => e = .returned (.int .i64 v) ∧ Below w.heap.size w w' :=
  ppClass_gen b c v w hP fun w' e => by
    subst e
    obtain ⟨b1, b2, n1, n2, h1, h2, h3, h4⟩ := hP
    have := ppClass_of bidiL b b1 n1 c w' h1 h3 bidi_rise
    rw [← hv]
    exact this
theorem ppClass_no {w : World} {p : Value} (h : NoProp w p) (c : Int) : Calls Try.prog 76 #[p, .int .i64 c] w fun e w' => e = .returned (.int .i64 13) ∧ w = w' := by
  have H := Lib.hid h
  clear h
  go_enter Try.func76, Try.ntmps76
  go_wp2_with fail
  refine (ppMade_no H.out).mono ?_
  rintro e w1 ⟨rfl, rfl⟩
  go_wp2
  go_ret
  exact ⟨rfl, rfl⟩
end Go.Proofs.Ytcbiaeeifclieaa
