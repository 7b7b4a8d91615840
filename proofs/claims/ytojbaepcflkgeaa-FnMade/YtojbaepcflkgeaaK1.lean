/- Walks: l1DrawAny. -/
import Derived.Test.YtojbaepcflkgeaaQJ5
import Derived.Deep.AppendLies
import Derived.Deep.RegionLaw

namespace Go.Proofs.Ytojbaepcflkgeaa
open Go.RowKit

end Go.Proofs.Ytojbaepcflkgeaa
