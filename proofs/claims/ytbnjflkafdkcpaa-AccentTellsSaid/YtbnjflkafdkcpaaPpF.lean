/- What codes are, as functions of the given ranges. -/
import Derived.Test.YtbnjflkafdkcpaaRgL
namespace Go.Proofs.Ytbnjflkafdkcpaa
open Go.RowKit
def classF (c : Int) : Int := if 0 ≤ c ∧ c ≤ 1114111 then getG bidiL 0 c else 13
def joinF (c : Int) : Int := getG joinL 0 c
end Go.Proofs.Ytbnjflkafdkcpaa
