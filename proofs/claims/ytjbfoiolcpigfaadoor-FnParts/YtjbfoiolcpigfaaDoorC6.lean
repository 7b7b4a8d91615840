/- Walks: SameGraph. -/
import Derived.Test.YtjbfoiolcpigfaaDoorC2
import Derived.Test.YtjbfoiolcpigfaaDoorLater
namespace Go.Proofs.YtjbfoiolcpigfaaDoor
open Go.RowKit

/-- What SameGraph answers. -/
def sameB (L M : List (List Int)) : Bool := decide (GraphP L) && decide (GraphP M) && decide (L = M)

end Go.Proofs.YtjbfoiolcpigfaaDoor
