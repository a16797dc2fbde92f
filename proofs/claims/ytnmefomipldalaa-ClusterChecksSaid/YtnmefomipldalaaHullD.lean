/- The hull of spans, as plain mathematics. -/
import Derived.Test.YtnmefomipldalaaSpD
namespace Go.Proofs.Ytnmefomipldalaa
open Go.RowKit
/-- The span around two. -/
def hullMore (st s : Sp) : Sp := (if s.1 < st.1 then s.1 else st.1, if st.2 < s.2 then s.2 else st.2)
def hullStep (st s : Sp) : Sp := if rightB s = true then hullMore (if rightB st = true then st else s) s else st
def hullS (l : List Sp) : Sp := l.foldl hullStep (0, 0)
end Go.Proofs.Ytnmefomipldalaa
