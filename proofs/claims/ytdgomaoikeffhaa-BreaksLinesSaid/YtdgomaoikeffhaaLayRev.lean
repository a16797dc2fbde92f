/- Shelf contracts laid at this program's numbers. -/
import Derived.Shelf.SlicesQ.Reverse
import Derived.Test.YtdgomaoikeffhaaProg
namespace Go.Proofs.Ytdgomaoikeffhaa
open Go.Shelf
def revS_lays_ren : Go.Shelf.Ren := ⟨fun | 35 => 44 | n => n, fun | 22 => 29 | 23 => 24 | 3 => 3 | 4 => 4 | 0 => 0 | n => n, fun | n => n⟩
theorem revS_lays : Go.Proofs.SlLaysE0.n35 Try.prog revS_lays_ren := {
  mixed := by kernel_rfl
  f35 := ⟨Try.f44.name, by decide, Try.func44.trans (congrArg some (by kernel_rfl))⟩
  t0 := Try.underlying0
  a0 := Try.isAgg0
  z0 := Try.sizeOf0
  v0 := Try.zeroValue0
  t3 := Try.underlying3
  a3 := Try.isAgg3
  z3 := Try.sizeOf3
  v3 := Try.zeroValue3
  t4 := Try.underlying4
  a4 := Try.isAgg4
  z4 := Try.sizeOf4
  v4 := Try.zeroValue4
  t22 := Try.underlying29
  a22 := Try.isAgg29
  z22 := Try.sizeOf29
  v22 := Try.zeroValue29 }
end Go.Proofs.Ytdgomaoikeffhaa
