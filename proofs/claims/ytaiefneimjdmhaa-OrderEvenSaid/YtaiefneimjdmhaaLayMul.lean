/- Shelf contracts laid at this program's numbers. -/
import Derived.Shelf.Bits.Mul64
import Derived.Test.YtaiefneimjdmhaaProg
namespace Go.Proofs.Ytaiefneimjdmhaa
open Go.Shelf
def mul_lays_ren : Go.Shelf.Ren := ⟨fun | 212 => 37 | 263 => 51 | 264 => 52 | n => n, fun | 46 => 56 | 51 => 73 | 146 => 74 | 53 => 76 | 148 => 77 | n => n, fun | n => n⟩
theorem mul_lays : Go.Proofs.Lays.n212 Try.prog mul_lays_ren := {
  mixed := by kernel_rfl
  f212 := Try.func37.trans (congrArg some (by kernel_rfl))
  f263 := Try.func51.trans (congrArg some (by kernel_rfl))
  f264 := Try.func52.trans (congrArg some (by kernel_rfl))
  t46 := Try.underlying56
  a46 := Try.isAgg56
  z46 := Try.sizeOf56
  v46 := Try.zeroValue56
  t51 := Try.underlying73
  a51 := Try.isAgg73
  z51 := Try.sizeOf73
  v51 := Try.zeroValue73
  t53 := Try.underlying76
  a53 := Try.isAgg76
  z53 := Try.sizeOf76
  v53 := Try.zeroValue76
  t146 := Try.underlying74
  a146 := Try.isAgg74
  z146 := Try.sizeOf74
  v146 := Try.zeroValue74
  t148 := Try.underlying77
  a148 := Try.isAgg77
  z148 := Try.sizeOf77
  v148 := Try.zeroValue77 }
end Go.Proofs.Ytaiefneimjdmhaa
