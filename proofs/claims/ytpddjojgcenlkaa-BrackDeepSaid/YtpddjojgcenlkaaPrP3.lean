/- The project's Canon, Mirror, Bracket and Match of codes. -/
import Derived.Test.YtpddjojgcenlkaaPrP2
namespace Go.Proofs.Ytpddjojgcenlkaa
open Go.RowKit
theorem eg_opens : ∀ args w, (callFunc 37 args).run Try.prog w = .ok (.enter 37 args) w := enters_of Try.func37 (by kernel_rfl) rfl
theorem eg_closes : ∀ args w, (callFunc 39 args).run Try.prog w = .ok (.enter 39 args) w := enters_of Try.func39 (by kernel_rfl) rfl
/-- find with opens(c). -/
theorem findOp_any (x y : Int) (ok : Bool) (q : Int) (b : Nat) (A : Option Addr) (n c : Nat) (l : List Sp) (w : World) (ht : hitP (opP q) l = (x, y, ok)) (hc : w.cell? ⟨b, 0, none⟩ = some (.int .i64 q)) (hr : Rd w 2 A n (cellsS l)) (hn : n ≤ maxLen) :
    Calls Try.prog 24 #[.slice A n c, .func (.func 37) #[] #[.pointer (some ⟨b, 0, none⟩)]] w fun e w' => e = .returned (.tuple #[.agg #[.int .i64 x, .int .i64 y], .bool ok]) ∧ Below w.heap.size w w' :=
  find_any (opP q) x y ok _ _ eg_opens A n c l w ht hr hn (fun lo hi W hb => opensLit_any q lo hi b W (cell_below hb hc))
theorem findCl_any (x y : Int) (ok : Bool) (q : Int) (b : Nat) (A : Option Addr) (n c : Nat) (l : List Sp) (w : World) (ht : hitP (clP q) l = (x, y, ok)) (hc : w.cell? ⟨b, 0, none⟩ = some (.int .i64 q)) (hr : Rd w 2 A n (cellsS l)) (hn : n ≤ maxLen) :
    Calls Try.prog 24 #[.slice A n c, .func (.func 39) #[] #[.pointer (some ⟨b, 0, none⟩)]] w fun e w' => e = .returned (.tuple #[.agg #[.int .i64 x, .int .i64 y], .bool ok]) ∧ Below w.heap.size w w' :=
  find_any (clP q) x y ok _ _ eg_closes A n c l w ht hr hn (fun lo hi W hb => closesLit_any q lo hi b W (cell_below hb hc))

set_option maxRecDepth 100000 in
set_option maxHeartbeats 1000000 in
theorem prCanon_any (q : Int) (w : World) : Calls Try.prog 26 #[.int .i64 q] w fun e w' => e = .returned (.int .i64 (canF q)) ∧ Below w.heap.size w w' := by
  obtain ⟨x, y, ok, h1⟩ : ∃ x y ok, hitP (opP q) aliL = (x, y, ok) := ⟨_, _, _, rfl⟩
  have HV := Lib.hid (show canF q = if ok = true then y else q by unfold canF; rw [h1])
  have H1 := Lib.hid h1
  clear h1
  go_enter Try.func26, Try.ntmps26
  go_wp2_with fail
  refine (alike_any _).mono ?_
  rintro e w1 ⟨⟨A, rfl, hr⟩, hb1⟩
  go_wp2_with fail
  refine (opens_any q _).mono ?_
  rintro e w2 ⟨⟨b, rfl, hc⟩, hb2⟩
  have HR2 := Lib.hid (hr.below hb2)
  have hb3 := below_self hb1 hb2
  clear hr hb1 hb2
  go_wp2_with fail
  refine (findOp_any x y ok q b A 2 2 aliL _ H1.out hc HR2.out (by unfold maxLen; omega)).mono ?_
  rintro e w3 ⟨rfl, hb⟩
  have hb4 := below_self hb3 hb
  clear hb hb3 hc HR2
  have hb5 := hb4.alloc hb4.size (.cells #[.int .i64 x, .int .i64 y] 27)
  cases ok <;> (go_wp2; go_ret; exact ⟨by rw [HV.out]; rfl, by first | exact hb5 | exact hb4⟩)

set_option maxRecDepth 100000 in
set_option maxHeartbeats 1000000 in
theorem prBracket_any (q p v : Int) (hv : braF q = (p, v)) (w : World) : Calls Try.prog 12 #[.int .i64 q] w fun e w' => e = .returned (.tuple #[.int .i64 p, .int .i64 v]) ∧ Below w.heap.size w w' := by
  obtain ⟨x, y, ok, h1⟩ : ∃ x y ok, hitP (opP q) braL = (x, y, ok) := ⟨_, _, _, rfl⟩
  obtain ⟨x', y', ok', h2⟩ : ∃ x y ok, hitP (clP q) braL = (x, y, ok) := ⟨_, _, _, rfl⟩
  have HV := Lib.hid (show (p, v) = if ok = true then (1, canF y) else if ok' = true then (2, canF q) else (0, 0) by rw [← hv]; unfold braF; rw [h1, h2])
  have H1 := Lib.hid h1
  have H2 := Lib.hid h2
  clear h1 h2 hv
  go_enter Try.func12, Try.ntmps12
  go_wp2_with fail
  refine (brackets_any _).mono ?_
  rintro e w1 ⟨⟨A, rfl, hr⟩, hb1⟩
  go_wp2_with fail
  refine (opens_any q _).mono ?_
  rintro e w2 ⟨⟨b, rfl, hc⟩, hb2⟩
  have HR2 := Lib.hid (hr.below hb2)
  have hb3 := below_self hb1 hb2
  clear hr hb1 hb2
  go_wp2_with fail
  refine (findOp_any x y ok q b A 43 43 braL _ H1.out hc HR2.out (by unfold maxLen; omega)).mono ?_
  rintro e w3 ⟨rfl, hb⟩
  have hb4 := below_self hb3 hb
  have HR3 := Lib.hid (HR2.out.below hb)
  clear hb hb3 hc HR2
  have hb5 := hb4.alloc hb4.size (.cells #[.int .i64 x, .int .i64 y] 27)
  have HR4 := Lib.hid (HR3.out.alloc (.cells #[.int .i64 x, .int .i64 y] 27))
  cases ok
  · go_wp2_with fail
    refine (closes_any q _).mono ?_
    rintro e w4 ⟨⟨b', rfl, hc⟩, hb⟩
    have hb6 := below_self hb5 hb
    have HR5 := Lib.hid (HR4.out.below hb)
    clear hb hb5 HR4
    go_wp2_with fail
    refine (findCl_any x' y' ok' q b' A 43 43 braL _ H2.out hc HR5.out (by unfold maxLen; omega)).mono ?_
    rintro e w5 ⟨rfl, hb⟩
    have hb7 := below_self hb6 hb
    clear hb hb6 hc HR5
    have hb8 := hb7.alloc hb7.size (.cells #[.int .i64 x', .int .i64 y'] 27)
    cases ok'
    · have hV := HV.out
      rw [if_neg (by decide), if_neg (by decide)] at hV
      injection hV with e1 e2
      subst e1 e2
      go_wp2
      go_ret2
      exact ⟨rfl, by first | exact hb8 | exact hb7⟩
    · have hV := HV.out
      rw [if_neg (by decide), if_pos rfl] at hV
      injection hV with e1 e2
      subst e1 e2
      go_wp2_with fail
      refine (prCanon_any q _).mono ?_
      rintro e w6 ⟨rfl, hb⟩
      have hb9 := below_self hb8 hb
      go_wp2
      go_ret2
      exact ⟨rfl, hb9⟩
  · have hV := HV.out
    rw [if_pos rfl] at hV
    injection hV with e1 e2
    subst e1 e2
    go_wp2_with fail
    refine (prCanon_any y _).mono ?_
    rintro e w6 ⟨rfl, hb⟩
    have hb9 := below_self hb5 hb
    go_wp2
    go_ret2
    exact ⟨rfl, hb9⟩
end Go.Proofs.Ytpddjojgcenlkaa
