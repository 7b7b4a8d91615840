/- Walks: SetOk. -/
import Derived.Test.YtjbfoiolcpigfaaC2
namespace Go.Proofs.Ytjbfoiolcpigfaa
open Go.RowKit

/-- What SetOk answers. -/
def setB (L : List (List Int)) (xs : List Int) : Bool := decide (GraphP L) && decide (SetP xs L.length)

end Go.Proofs.Ytjbfoiolcpigfaa
