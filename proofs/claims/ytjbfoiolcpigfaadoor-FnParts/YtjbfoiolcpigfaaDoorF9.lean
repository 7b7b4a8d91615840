/- Walks: the program's graph of a list of edges. -/
import Derived.Test.YtjbfoiolcpigfaaDoorF8
import Derived.Test.YtjbfoiolcpigfaaDoorB5
import Derived.Deep.RegionLaw
namespace Go.Proofs.YtjbfoiolcpigfaaDoor
open Go.RowKit

/-- The masks of the first k edges. -/
def edgeM (E : List (List Int)) : Nat → Nat → Nat
  | 0, _ => 0
  | k + 1, i => linkM (edgeM E k) (nth (nthR E k) 0).toNat (nth (nthR E k) 1).toNat i
theorem edgeM_lt {E : List (List Int)} {n : Int} (hn : n ≤ 16) : ∀ k, (∀ j, j < k → EdgeP (nthR E j) n) → ∀ i, edgeM E k i < 65536
  | 0, _, _ => by simp [edgeM]
  | k + 1, h, i => by
    obtain ⟨_, h1, h2, h3⟩ := h k (by omega)
    exact linkM_lt (edgeM_lt hn k (fun j hj => h j (by omega))) (by omega) (by omega) i

/-- The numbers and edges that make a graph. -/
def OfP (n : Int) (E : List (List Int)) : Prop := inB n 1 16 = true ∧ E.length ≤ 120 ∧ ∀ k, k < E.length → EdgeP (nthR E k) n
instance (n : Int) (E : List (List Int)) : Decidable (OfP n E) := by unfold OfP; infer_instance
/-- Its rows. -/
def ofL (n : Int) (E : List (List Int)) : List (List Int) := if OfP n E then maskL n.toNat (edgeM E E.length) else []
/-- A call has handed back the graph of those edges, of its own make, and whether there is one. -/
def GaveOf (w : World) (n : Int) (E : List (List Int)) (e : Ending) (w' : World) : Prop :=
  ∃ m a c, e = .returned (.tuple #[.agg #[.slice a m c], .bool (decide (OfP n E))]) ∧ OwnGrid 2 36 w' w.heap.size (.slice a m c) (ofL n E) ∧ Below w.heap.size w w'
theorem GaveOf.no {w : World} {n : Int} {E : List (List Int)} (h : ¬ OfP n E) {w' : World} (hb : Below w.heap.size w w') : GaveOf w n E (.returned (.tuple #[.agg #[.slice none 0 0], .bool false])) w' :=
  ⟨0, none, 0, by rw [decide_eq_false h], by rw [ofL, if_neg h]; exact own_nil _ _, hb⟩

end Go.Proofs.YtjbfoiolcpigfaaDoor
