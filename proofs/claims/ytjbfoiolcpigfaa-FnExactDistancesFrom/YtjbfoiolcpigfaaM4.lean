/- Walks: these vertices of a graph, in this order: the model's and the program's. -/
import Derived.Test.YtjbfoiolcpigfaaM3
import Derived.Test.YtjbfoiolcpigfaaLater
namespace Go.Proofs.Ytjbfoiolcpigfaa
open Go.RowKit

end Go.Proofs.Ytjbfoiolcpigfaa
