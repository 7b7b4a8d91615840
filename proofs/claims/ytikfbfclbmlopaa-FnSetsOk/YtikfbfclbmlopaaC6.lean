/- Walks: SameGraph. -/
import Derived.Test.YtikfbfclbmlopaaC2
import Derived.Test.YtikfbfclbmlopaaLater
namespace Go.Proofs.Ytikfbfclbmlopaa
open Go.RowKit

/-- What SameGraph answers. -/
def sameB (L M : List (List Int)) : Bool := decide (GraphP L) && decide (GraphP M) && decide (L = M)

end Go.Proofs.Ytikfbfclbmlopaa
