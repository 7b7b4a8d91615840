/- Walks: OrderOk, of the model and of the program. -/
import Derived.Test.YtjbfoiolcpigfaaDoorQLater

namespace Go.Proofs.YtjbfoiolcpigfaaDoor
open Go.RowKit

/-- What OrderOk answers. -/
def orderB (L : List (List Int)) (xs : List Int) : Bool := decide (GraphP L) && decide (OrdP xs L.length)

theorem inB_vertex (x : Int) (n : Nat) : inB x 0 ((n : Int) - 1) = decide (0 ≤ x ∧ x < (n : Int)) := by
  unfold inB
  rw [Bool.eq_iff_iff, decide_eq_true_iff, decide_eq_true_iff]
  omega

theorem maskTo_small {xs : List Int} {n : Nat} (hn : n ≤ 16) {k : Nat} (h : ∀ j, j < k → inB (nth xs j) 0 ((n : Int) - 1) = true) : maskTo xs k < 65536 := by
  induction k with
  | zero => simp [maskTo]
  | succ k ih =>
    have h1 := h k (by omega)
    simp [inB] at h1
    exact or_lt16 (ih (fun j hj => h j (by omega))) (by omega)

end Go.Proofs.YtjbfoiolcpigfaaDoor
