/- Walks: LoopOk, of the model. -/
import Derived.Test.YtgnmggjihkfnoaaQLater

namespace Go.Proofs.Ytgnmggjihkfnoaa
open Go.RowKit

/-- Element k is a vertex, not among the first k, and a neighbour of the one before it. -/
def PathAt (L : List (List Int)) (xs : List Int) (k : Nat) : Prop :=
  inB (nth xs k) 0 ((L.length : Int) - 1) = true ∧ hasB (xs.take k) (nth xs k) = false ∧ (0 < k → hasB (nthR L (nth xs (k - 1)).toNat) (nth xs k) = true)
instance (L : List (List Int)) (xs : List Int) (k : Nat) : Decidable (PathAt L xs k) := by unfold PathAt; infer_instance
def PathP (L : List (List Int)) (xs : List Int) : Prop := ∀ k, k < xs.length → PathAt L xs k
instance (L : List (List Int)) (xs : List Int) : Decidable (PathP L xs) := by unfold PathP; infer_instance

end Go.Proofs.Ytgnmggjihkfnoaa
