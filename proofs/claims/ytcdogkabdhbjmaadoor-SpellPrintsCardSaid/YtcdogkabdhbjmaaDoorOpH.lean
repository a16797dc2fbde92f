/- Options that go together, made of any: naskhplain.held and Right. -/
import Derived.Test.YtcdogkabdhbjmaaDoorOpRow
import Derived.Test.YtcdogkabdhbjmaaDoorOpE
namespace Go.Proofs.YtcdogkabdhbjmaaDoor
open Go.RowKit

def heldF (n m : Int) : Int := n % 18446744073709551616 % (m + 1)
theorem heldF_le (n m : Int) (hm : 0 ≤ m) : 0 ≤ heldF n m ∧ heldF n m ≤ m := by
  unfold heldF
  have h1 := Int.emod_nonneg (n % 18446744073709551616) (show m + 1 ≠ 0 by omega)
  have h2 := Int.emod_lt_of_pos (n % 18446744073709551616) (show 0 < m + 1 by omega)
  omega
set_option maxRecDepth 100000 in
theorem held_any (n m : Int) (hm : 0 ≤ m ∧ m ≤ 4) (w : World) : Calls Tryd.prog 39 #[.int .i64 n, .int .i64 m] w fun e w' => e = .returned (.int .i64 (heldF n m)) ∧ w = w' := by
  obtain ⟨m0, m1⟩ := hm
  go_enter Tryd.func39, Tryd.ntmps39
  go_wp2
  go_ret
  refine ⟨?_, rfl⟩
  have h1 : IntKind.u64.wrap n = n % 18446744073709551616 := IntKind.wrap_u64 n
  have h0 := Int.emod_nonneg n (show (18446744073709551616 : Int) ≠ 0 by decide)
  have h2 := heldF_le n m m0
  rw [h1, Int.tmod_eq_emod_of_nonneg h0]
  have h3 : wrap64 (n % 18446744073709551616 % (m + 1)) = heldF n m := by
    unfold heldF at h2 ⊢
    unfold wrap64
    omega
  rw [h3]
  rfl
/-- What does not go together is let go. -/
def cut1 (o : Opt) : Opt := if o.b1 = true then o else { o with l := 0, t := 0, b3 := false, b4 := false, b5 := false }
def cut2 (o : Opt) : Opt := if o.l = 0 then { o with b2 := false } else o
def cut3 (o : Opt) : Opt := if o.t = 3 ∨ o.t = 4 then { o with b3 := false } else o
def cut4 (o : Opt) : Opt := if o.b6 = true then o else { o with b7 := false }
def heldO (o : Opt) : Opt := { o with d := heldF o.d 3, l := heldF o.l 4, t := heldF o.t 4, g := heldF o.g 4 }
def rightF (o : Opt) : Opt := cut4 (cut3 (cut2 (cut1 (heldO o))))
end Go.Proofs.YtcdogkabdhbjmaaDoor
