/- Walks: all vertices, all but one; a vertex cut. -/
import Derived.Test.YtohjfcfcopbmoaaM6
import Derived.Deep.RegionHeld3

namespace Go.Proofs.Ytohjfcfcopbmoaa
open Go.RowKit

/-- The numbers below n. -/
def allL (n : Nat) : List Int := (List.range n).map (fun i : Nat => (i : Int))
theorem allL_len (n : Nat) : (allL n).length = n := by simp [allL]
theorem allL_mem (n : Nat) (z : Int) : z ∈ allL n ↔ ∃ i : Nat, i < n ∧ (i : Int) = z := by simp [allL]
theorem allL_pair (n : Nat) : (allL n).Pairwise (· < ·) := by
  unfold allL
  rw [List.pairwise_map]
  exact List.Pairwise.imp (fun h => by omega) List.pairwise_lt_range

end Go.Proofs.Ytohjfcfcopbmoaa
