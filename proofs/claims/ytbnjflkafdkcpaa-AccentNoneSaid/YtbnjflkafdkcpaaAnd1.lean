/- The last bit of an integer. -/
import Derived.Test.YtbnjflkafdkcpaaMem
namespace Go.Proofs.Ytbnjflkafdkcpaa
open Go.RowKit

theorem and1_i64 (M : Int) : bits .and .i64 M 1 = M % 2 := by
  show IntKind.i64.wrap ((BitVec.ofInt 64 M &&& BitVec.ofInt 64 1).toNat : Int) = _
  rw [BitVec.toNat_and, show (BitVec.ofInt 64 1).toNat = 1 from rfl, Nat.and_one_is_mod, BitVec.toNat_ofInt, IntKind.wrap_i64]
  omega
end Go.Proofs.Ytbnjflkafdkcpaa
