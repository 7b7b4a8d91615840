/- Walks: SameGraph. -/
import Derived.Test.YtjbfoiolcpigfaaC2
import Derived.Test.YtjbfoiolcpigfaaLater
namespace Go.Proofs.Ytjbfoiolcpigfaa
open Go.RowKit

/-- What SameGraph answers. -/
def sameB (L M : List (List Int)) : Bool := decide (GraphP L) && decide (GraphP M) && decide (L = M)

end Go.Proofs.Ytjbfoiolcpigfaa
