/- Walks: the model's list of edges. -/
import Derived.Test.YtjbfoiolcpigfaaC2
import Derived.Test.YtjbfoiolcpigfaaGrid
import Derived.Test.YtjbfoiolcpigfaaLater
namespace Go.Proofs.Ytjbfoiolcpigfaa
open Go.RowKit

/-- The edges from u to the first k of its neighbours. -/
def edgesRow (u : Nat) (row : List Int) : Nat → List (List Int)
  | 0 => []
  | k + 1 => edgesRow u row k ++ if (u : Int) < nth row k then [[(u : Int), nth row k]] else []
/-- The edges of the first u vertices. -/
def edgesTo (L : List (List Int)) : Nat → List (List Int)
  | 0 => []
  | u + 1 => edgesTo L u ++ edgesRow u (nthR L u) (nthR L u).length

theorem edgesRow_len (u : Nat) (row : List Int) (k : Nat) : (edgesRow u row k).length ≤ k := by
  induction k with
  | zero => simp [edgesRow]
  | succ k ih => simp only [edgesRow, List.length_append]; split <;> simp <;> omega
theorem edgesTo_len (L : List (List Int)) (h : ∀ u, u < L.length → (nthR L u).length ≤ 16) (u : Nat) (hu : u ≤ L.length) : (edgesTo L u).length ≤ 16 * u := by
  induction u with
  | zero => simp [edgesTo]
  | succ u ih =>
    have := edgesRow_len u (nthR L u) (nthR L u).length
    have := h u (by omega)
    have := ih (by omega)
    simp only [edgesTo, List.length_append]
    omega

theorem own_two {T : TypeId} {w : World} {x y : Int} (hx : I64 x) (hy : I64 y) : OwnRow T (w.alloc (.cells #[.int .i64 x, .int .i64 y] T)) w.heap.size (.slice (some ⟨w.heap.size, 0, none⟩) 2 2) [x, y] := by
  refine ⟨by intro z hz; simp at hz; rcases hz with rfl | rfl; exact hx; exact hy, by unfold maxLen; simp, Or.inr ⟨w.heap.size, 2, #[.int .i64 x, .int .i64 y], rfl, Nat.le_refl _, heap_alloc_new _ _, by simp, by unfold maxLen; omega, rfl, fun i hi => ?_⟩⟩
  have hi' : i < 2 := by simpa using hi
  have : i = 0 ∨ i = 1 := by omega
  rcases this with rfl | rfl <;> rfl
theorem own_none {T T1 : TypeId} (w : World) (B : Nat) (hB : B ≤ w.heap.size) : OwnGrid T T1 (w.alloc (.cells #[] T1)) B (.slice (some ⟨w.heap.size, 0, none⟩) 0 0) [] :=
  ⟨fun _ => undef, Nat.zero_le _, Or.inr ⟨w.heap.size, 0, #[], rfl, hB, heap_alloc_new _ _, Nat.le_refl _, Nat.zero_le _, rfl, fun i hi => absurd hi (by simp)⟩, fun i hi => absurd hi (by simp), fun i j k _ hj => absurd hj (by simp)⟩

end Go.Proofs.Ytjbfoiolcpigfaa
