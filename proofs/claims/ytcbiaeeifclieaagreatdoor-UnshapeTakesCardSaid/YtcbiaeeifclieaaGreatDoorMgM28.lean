/- Texts of one claim, one behind the other. -/
import Derived.Test.YtcbiaeeifclieaaGreatDoorMgM6
import Derived.Test.YtcbiaeeifclieaaGreatDoorMgM10
/- Codes that came in may be keys of a map. -/
namespace Go.Proofs.YtcbiaeeifclieaaGreatDoor
open Go.RowKit

theorem key_of_fit {x : Int} (h : Fit x) : KeyI x := by
  unfold KeyI
  unfold Fit at h
  simp [Lit.wf, IntKind.min, IntKind.max, IntKind.signed, IntKind.bits]
  omega
end Go.Proofs.YtcbiaeeifclieaaGreatDoor
