/- Units as codes: what wide.Decode and its reference hand back, for every slice of units. -/
import Derived.Test.YtoopchpolcfdaaaDoorMem
import Derived.Test.YtoopchpolcfdaaaDoorNumW
namespace Go.Proofs.YtoopchpolcfdaaaDoor
open Go.RowKit

theorem intSlice : SliceOf Tryd.prog 27 3 1 8 := .mk_ (z := .int .i64 0) Tryd.underlying27 (by kernel_rfl) rfl
theorem u16Slice : SliceOf Tryd.prog 22 25 1 2 := .mk_ (z := .int .u16 0) Tryd.underlying22 (by kernel_rfl) rfl

def Unit16 (x : Int) : Prop := 0 ≤ x ∧ x ≤ 65535
def pairW (x y : Int) : Int := 65536 + (x - 55296) * 1024 + y - 56320
def soloW (x : Int) : Int := if inPairsB x = true then 1114112 + x else x
def opensW (x y : Int) : Bool := decide (55296 ≤ x ∧ x < 56320 ∧ 56320 ≤ y ∧ y ≤ 57343)
/-- The code at the beginning of units, and how many units it takes. -/
def firstW : List Int → Int × Nat
  | [] => (0, 1)
  | [x] => (soloW x, 1)
  | x :: y :: _ => if opensW x y = true then (pairW x y, 2) else (soloW x, 1)
def decW : List Int → List Int
  | [] => []
  | [x] => [soloW x]
  | x :: y :: r => if opensW x y = true then pairW x y :: decW r else soloW x :: decW (y :: r)
theorem decW_step (us : List Int) (h : us ≠ []) : decW us = (firstW us).1 :: decW (us.drop (firstW us).2) := by
  match us, h with
  | [x], _ => simp [decW, firstW]
  | x :: y :: r, _ =>
    by_cases ho : opensW x y = true
    · simp [decW, firstW, ho]
    · simp [decW, firstW, ho]

theorem ret2I {a b : Int} {n m : Int} (h : a = b) (h' : n = m) : Ending.returned (.tuple #[.int .i64 a, .int .i64 n]) = .returned (.tuple #[.int .i64 b, .int .i64 m]) := by rw [h, h']

theorem soloW_p {x : Int} (h : 55296 ≤ x) (h' : x ≤ 57343) : soloW x = 1114112 + x := by simp [soloW, inPairsB, h, h']
theorem soloW_n {x : Int} (h : ¬ (55296 ≤ x ∧ x ≤ 57343)) : soloW x = x := by
  have : inPairsB x = false := decide_eq_false h
  simp [soloW, this]

theorem inPairs_p {x : Int} (h : 55296 ≤ x) (h' : x ≤ 57343) : inPairsB x = true := decide_eq_true ⟨h, h'⟩
theorem inPairs_n {x : Int} (h : x < 55296 ∨ 57343 < x) : inPairsB x = false := decide_eq_false (by omega)
theorem isLow_p {x : Int} (h : 56320 ≤ x) (h' : x ≤ 57343) : isLowB x = true := decide_eq_true ⟨h, h'⟩
theorem isLow_n {x : Int} (h : x < 56320 ∨ 57343 < x) : isLowB x = false := decide_eq_false (by omega)

/-- Where no second unit can matter: the unit is no surrogate, or none that opens. -/
theorem first_solo (ad : Addr) (n c : Nat) (x : Int) (w : World) (hn : 0 < n) (hx0 : 0 ≤ x) (hx1 : x ≤ 65535) (hs : x < 55296 ∨ 56320 ≤ x) (h0 : w.cell? ad = some (.int .u16 x)) :
    Calls Tryd.prog 38 #[.slice (some ad) n c] w fun e w' => e = .returned (.tuple #[.int .i64 (soloW x), .int .i64 1]) ∧ w = w' := by
  have h0' : w.cell? (ad.add 0) = some (.int .u16 x) := h0
  have hc : x < 55296 ∨ (56320 ≤ x ∧ x ≤ 57343) ∨ 57343 < x := by omega
  clear hs
  rcases hc with h | ⟨h, h'⟩ | h
  · have HS := Lib.hid (soloW_n (x := x) (by omega))
    have hp := inPairs_n (x := x) (by omega)
    (go_enter Tryd.func38, Tryd.ntmps38
     go_wp2_with (first | (go_at_call 43; refine (inPairs_any _ _).mono ?_; rintro e w' ⟨rfl, rfl⟩) | (go_at_call 51; refine (isLow_any _ _).mono ?_; rintro e w' ⟨rfl, rfl⟩))
     go_ret2
     exact ⟨ret2I HS.out.symm rfl, rfl⟩)
  · have HS := Lib.hid (soloW_p (x := x) (by omega) (by omega))
    have hp := inPairs_p (x := x) (by omega) (by omega)
    (go_enter Tryd.func38, Tryd.ntmps38
     go_wp2_with (first | (go_at_call 43; refine (inPairs_any _ _).mono ?_; rintro e w' ⟨rfl, rfl⟩) | (go_at_call 51; refine (isLow_any _ _).mono ?_; rintro e w' ⟨rfl, rfl⟩))
     go_ret2
     exact ⟨ret2I HS.out.symm rfl, rfl⟩)
  · have HS := Lib.hid (soloW_n (x := x) (by omega))
    have hp := inPairs_n (x := x) (by omega)
    (go_enter Tryd.func38, Tryd.ntmps38
     go_wp2_with (first | (go_at_call 43; refine (inPairs_any _ _).mono ?_; rintro e w' ⟨rfl, rfl⟩) | (go_at_call 51; refine (isLow_any _ _).mono ?_; rintro e w' ⟨rfl, rfl⟩))
     go_ret2
     exact ⟨ret2I HS.out.symm rfl, rfl⟩)

/-- A unit that opens stands last. -/
theorem first_last (ad : Addr) (c : Nat) (x : Int) (w : World) (hx0 : 55296 ≤ x) (hx1 : x < 56320) (h0 : w.cell? ad = some (.int .u16 x)) :
    Calls Tryd.prog 38 #[.slice (some ad) 1 c] w fun e w' => e = .returned (.tuple #[.int .i64 (soloW x), .int .i64 1]) ∧ w = w' := by
  have h0' : w.cell? (ad.add 0) = some (.int .u16 x) := h0
  have HS := Lib.hid (soloW_p (x := x) (by omega) (by omega))
  have hp := inPairs_p (x := x) (by omega) (by omega)
  (go_enter Tryd.func38, Tryd.ntmps38
   go_wp2_with (first | (go_at_call 43; refine (inPairs_any _ _).mono ?_; rintro e w' ⟨rfl, rfl⟩) | (go_at_call 51; refine (isLow_any _ _).mono ?_; rintro e w' ⟨rfl, rfl⟩))
   go_ret2
   exact ⟨ret2I HS.out.symm rfl, rfl⟩)

/-- A unit that opens stands ahead of another one. -/
theorem first_pair (ad : Addr) (n c : Nat) (x y : Int) (w : World) (hn : 1 < n) (hm : n ≤ maxLen) (hx0 : 55296 ≤ x) (hx1 : x < 56320) (hy0 : 56320 ≤ y) (hy1 : y ≤ 57343)
    (h0 : w.cell? ad = some (.int .u16 x)) (h1 : w.cell? (ad.add 1) = some (.int .u16 y)) :
    Calls Tryd.prog 38 #[.slice (some ad) n c] w fun e w' => e = .returned (.tuple #[.int .i64 (pairW x y), .int .i64 2]) ∧ w = w' := by
  have h0' : w.cell? (ad.add 0) = some (.int .u16 x) := h0
  have h1' : w.cell? ⟨ad.block, ad.off + 1, none⟩ = some (.int .u16 y) := h1
  unfold maxLen at hm
  have HS : Hid (pairW x y = 65536 + (x - 55296) * 1024 + y - 56320) := Lib.hid rfl
  have hp := inPairs_p (x := x) (by omega) (by omega)
  have hl := isLow_p (x := y) (by omega) (by omega)
  (go_enter Tryd.func38, Tryd.ntmps38
   go_wp2_with (first | (go_at_call 43; refine (inPairs_any _ _).mono ?_; rintro e w' ⟨rfl, rfl⟩) | (go_at_call 51; refine (isLow_any _ _).mono ?_; rintro e w' ⟨rfl, rfl⟩))
   go_ret2
   exact ⟨ret2I HS.out.symm rfl, rfl⟩)
theorem first_unpair (ad : Addr) (n c : Nat) (x y : Int) (w : World) (hn : 1 < n) (hm : n ≤ maxLen) (hx0 : 55296 ≤ x) (hx1 : x < 56320) (hy : y < 56320 ∨ 57343 < y) (hy0 : 0 ≤ y) (hy1 : y ≤ 65535)
    (h0 : w.cell? ad = some (.int .u16 x)) (h1 : w.cell? (ad.add 1) = some (.int .u16 y)) :
    Calls Tryd.prog 38 #[.slice (some ad) n c] w fun e w' => e = .returned (.tuple #[.int .i64 (soloW x), .int .i64 1]) ∧ w = w' := by
  have h0' : w.cell? (ad.add 0) = some (.int .u16 x) := h0
  have h1' : w.cell? ⟨ad.block, ad.off + 1, none⟩ = some (.int .u16 y) := h1
  unfold maxLen at hm
  have HS := Lib.hid (soloW_p (x := x) (by omega) (by omega))
  have hp := inPairs_p (x := x) (by omega) (by omega)
  have hl := isLow_n (x := y) hy
  clear hy
  (go_enter Tryd.func38, Tryd.ntmps38
   go_wp2_with (first | (go_at_call 43; refine (inPairs_any _ _).mono ?_; rintro e w' ⟨rfl, rfl⟩) | (go_at_call 51; refine (isLow_any _ _).mono ?_; rintro e w' ⟨rfl, rfl⟩))
   go_ret2
   exact ⟨ret2I HS.out.symm rfl, rfl⟩)
end Go.Proofs.YtoopchpolcfdaaaDoor
