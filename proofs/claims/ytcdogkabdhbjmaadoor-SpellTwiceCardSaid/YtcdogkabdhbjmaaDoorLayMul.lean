/- Shelf contracts laid at this program's numbers. -/
import Derived.Shelf.Bits.Mul64
import Derived.Test.YtcdogkabdhbjmaaDoorProg
namespace Go.Proofs.YtcdogkabdhbjmaaDoor
open Go.Shelf
def mul_lays_ren : Go.Shelf.Ren := ⟨fun | 212 => 50 | 263 => 58 | 264 => 59 | n => n, fun | 46 => 78 | 51 => 102 | 146 => 103 | 53 => 105 | 148 => 106 | n => n, fun | n => n⟩
theorem mul_lays : Go.Proofs.Lays.n212 Tryd.prog mul_lays_ren := {
  mixed := by kernel_rfl
  f212 := Tryd.func50.trans (congrArg some (by kernel_rfl))
  f263 := Tryd.func58.trans (congrArg some (by kernel_rfl))
  f264 := Tryd.func59.trans (congrArg some (by kernel_rfl))
  t46 := Tryd.underlying78
  a46 := Tryd.isAgg78
  z46 := Tryd.sizeOf78
  v46 := Tryd.zeroValue78
  t51 := Tryd.underlying102
  a51 := Tryd.isAgg102
  z51 := Tryd.sizeOf102
  v51 := Tryd.zeroValue102
  t53 := Tryd.underlying105
  a53 := Tryd.isAgg105
  z53 := Tryd.sizeOf105
  v53 := Tryd.zeroValue105
  t146 := Tryd.underlying103
  a146 := Tryd.isAgg103
  z146 := Tryd.sizeOf103
  v146 := Tryd.zeroValue103
  t148 := Tryd.underlying106
  a148 := Tryd.isAgg106
  z148 := Tryd.sizeOf106
  v148 := Tryd.zeroValue106 }
end Go.Proofs.YtcdogkabdhbjmaaDoor
