/- The project's Canon, Mirror, Bracket and Match of codes. -/
import Derived.Test.YtbnjflkafdkcpaaPrP2
namespace Go.Proofs.Ytbnjflkafdkcpaa
open Go.RowKit
theorem eg_opens : ∀ args w, (callFunc 48 args).run Try.prog w = .ok (.enter 48 args) w := enters_of Try.func48 (by kernel_rfl) rfl
theorem eg_closes : ∀ args w, (callFunc 49 args).run Try.prog w = .ok (.enter 49 args) w := enters_of Try.func49 (by kernel_rfl) rfl
/-- find with opens(c). -/
theorem findOp_any (x y : Int) (ok : Bool) (q : Int) (b : Nat) (A : Option Addr) (n c : Nat) (l : List Sp) (w : World) (ht : hitP (opP q) l = (x, y, ok)) (hc : w.cell? ⟨b, 0, none⟩ = some (.int .i64 q)) (hr : Rd w 2 A n (cellsS l)) (hn : n ≤ maxLen) :
    Calls Try.prog 44 #[.slice A n c, .func (.func 48) #[] #[.pointer (some ⟨b, 0, none⟩)]] w fun e w' => e = .returned (.tuple #[.agg #[.int .i64 x, .int .i64 y], .bool ok]) ∧ Below w.heap.size w w' :=
  find_any (opP q) x y ok _ _ eg_opens A n c l w ht hr hn (fun lo hi W hb => opensLit_any q lo hi b W (cell_below hb hc))
theorem findCl_any (x y : Int) (ok : Bool) (q : Int) (b : Nat) (A : Option Addr) (n c : Nat) (l : List Sp) (w : World) (ht : hitP (clP q) l = (x, y, ok)) (hc : w.cell? ⟨b, 0, none⟩ = some (.int .i64 q)) (hr : Rd w 2 A n (cellsS l)) (hn : n ≤ maxLen) :
    Calls Try.prog 44 #[.slice A n c, .func (.func 49) #[] #[.pointer (some ⟨b, 0, none⟩)]] w fun e w' => e = .returned (.tuple #[.agg #[.int .i64 x, .int .i64 y], .bool ok]) ∧ Below w.heap.size w w' :=
  find_any (clP q) x y ok _ _ eg_closes A n c l w ht hr hn (fun lo hi W hb => closesLit_any q lo hi b W (cell_below hb hc))
end Go.Proofs.Ytbnjflkafdkcpaa
