/- The texts A6, A7, joined. -/
import Derived.Test.YtojbaepcflkgeaaDoorQA1
import Derived.IntWalk

/- Walks: the model's set of numbers. -/
namespace Go.Proofs.YtojbaepcflkgeaaDoor
open Go.RowKit

/-- Element i is in its place: a vertex below n, greater than the one before it. -/
def StepOk (xs : List Int) (n : Int) (i : Nat) : Prop := 0 ≤ nth xs i ∧ nth xs i ≤ n - 1 ∧ (0 < i → nth xs (i - 1) < nth xs i)
instance (xs : List Int) (n : Int) (i : Nat) : Decidable (StepOk xs n i) := by unfold StepOk; infer_instance
/-- A strictly increasing list of numbers from 0 to n - 1. -/
def SetP (xs : List Int) (n : Int) : Prop := ∀ i, i < xs.length → StepOk xs n i
instance (xs : List Int) (n : Int) : Decidable (SetP xs n) := by unfold SetP; infer_instance

theorem SetP.ge {xs : List Int} {n : Int} (h : SetP xs n) : ∀ i, i < xs.length → (i : Int) ≤ nth xs i := by
  intro i
  induction i with
  | zero => intro h0; exact (h 0 h0).1
  | succ i ih =>
    intro hi
    have := ih (by omega)
    have h2 := (h (i + 1) hi).2.2 (by omega)
    simp at h2
    omega
theorem SetP.len {xs : List Int} {n : Int} (h : SetP xs n) (hn : 0 ≤ n) : (xs.length : Int) ≤ n := by
  by_cases h0 : xs.length = 0
  · omega
  · have := h.ge (xs.length - 1) (by omega)
    have := (h (xs.length - 1) (by omega)).2.1
    omega

end Go.Proofs.YtojbaepcflkgeaaDoor

/- Walks: the model's word on valid graphs. -/
namespace Go.Proofs.YtojbaepcflkgeaaDoor
open Go.RowKit

/-- Row v is a set of vertices without v. -/
def RowOk (L : List (List Int)) (v : Nat) : Prop := SetP (nthR L v) L.length ∧ hasB (nthR L v) v = false
instance (L : List (List Int)) (v : Nat) : Decidable (RowOk L v) := by unfold RowOk; infer_instance
/-- Each neighbour of v has v for a neighbour. -/
def BackOk (L : List (List Int)) (v : Nat) : Prop := ∀ i, i < (nthR L v).length → hasB (nthR L (nth (nthR L v) i).toNat) v = true
instance (L : List (List Int)) (v : Nat) : Decidable (BackOk L v) := by unfold BackOk; infer_instance
/-- The rows are those of a valid graph. -/
def GraphP (L : List (List Int)) : Prop := (1 ≤ L.length ∧ L.length ≤ 16) ∧ (∀ v, v < L.length → RowOk L v) ∧ ∀ v, v < L.length → BackOk L v
instance (L : List (List Int)) : Decidable (GraphP L) := by unfold GraphP; infer_instance

end Go.Proofs.YtojbaepcflkgeaaDoor
