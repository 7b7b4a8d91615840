/- Walks: these vertices of a graph, in this order: the model's and the program's. -/
import Derived.Test.YtjbfoiolcpigfaaDoorM3
import Derived.Test.YtjbfoiolcpigfaaDoorLater
namespace Go.Proofs.YtjbfoiolcpigfaaDoor
open Go.RowKit

end Go.Proofs.YtjbfoiolcpigfaaDoor
