/- Walks: a number put into a rising row. -/
import Derived.Test.YtjbfoiolcpigfaaF1
import Derived.Test.YtjbfoiolcpigfaaC4
namespace Go.Proofs.Ytjbfoiolcpigfaa
open Go.RowKit

theorem OwnRow.owns {T : TypeId} {w : World} {B : Nat} {v : Value} {xs : List Int} (h : OwnRow T w B v xs) : w.ownsRow B T 1 v xs.length (xs.map (Value.int .i64)) := by
  refine ⟨by simp, ?_⟩
  rcases h.2.2 with ⟨e, e'⟩ | ⟨g, cap, cur, e, hg, hh, l1, l2, hs, hc⟩
  · exact Or.inl ⟨e, by rw [e']; rfl⟩
  · refine Or.inr ⟨g, cap, cur, e, hg, hh, l1, l2, by omega, ?_⟩
    apply List.ext_getElem?
    intro i
    rw [List.getElem?_take, Nat.mul_one]
    by_cases hi : i < xs.length
    · rw [if_pos hi]
      have := hc i hi
      rw [nth_eq hi] at this
      simp [hi]
      simpa using this
    · rw [if_neg hi, List.getElem?_eq_none (by simp; omega)]

theorem drop_cells {w w2 : World} {b o : Nat} {xs : List Int} (hb : Below w.heap.size w w2) (hc : ∀ i, i < xs.length → w.cell? ⟨b, o + i, none⟩ = some (.int .i64 (nth xs i))) (k : Nat) : ∀ i, i < (xs.drop k).length → w2.cell? ⟨b, o + k + i, none⟩ = some (.int .i64 (nth (xs.drop k) i)) := by
  intro i hi
  rw [List.length_drop] at hi
  have h1 := cell_keep hb (hc (k + i) (by omega))
  have e : nth (xs.drop k) i = nth xs (k + i) := by simp [nth]
  rw [e, Nat.add_assoc]
  exact h1

/-- What putting x into a row does: k of its elements are less; the row itself if x follows them; else a new row. -/
def IntoPost (w : World) (v : Value) (xs : List Int) (x : Int) (e : Ending) (w' : World) : Prop :=
  ∃ k, k ≤ xs.length ∧ (∀ j, j < k → nth xs j < x) ∧
    ((k < xs.length ∧ nth xs k = x ∧ e = .returned v ∧ Below w.heap.size w w') ∨
     ((k = xs.length ∨ x < nth xs k) ∧ ∃ n a c, e = .returned (.slice a n c) ∧ OwnRow 2 w' w.heap.size (.slice a n c) (xs.take k ++ x :: xs.drop k) ∧ Below w.heap.size w w'))

end Go.Proofs.Ytjbfoiolcpigfaa
