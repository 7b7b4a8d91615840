/- Walks: ManyEdges. -/
import Derived.Test.YtohjfcfcopbmoaaQGrid
import Derived.Test.YtohjfcfcopbmoaaE1

namespace Go.Proofs.Ytohjfcfcopbmoaa
open Go.RowKit

/-- The masks of a net, as cells. -/
def maskCells (M : Nat → Nat) : List Value := (List.range 16).map (fun i : Nat => Value.int .u32 (M i : Int))
theorem maskCells_get (M : Nat → Nat) {i : Nat} (h : i < 16) : (maskCells M)[i]? = some (.int .u32 (M i : Int)) := by simp [maskCells, h]
end Go.Proofs.Ytohjfcfcopbmoaa
