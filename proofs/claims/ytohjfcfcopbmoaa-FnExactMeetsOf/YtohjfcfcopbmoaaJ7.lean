/- Walks: l1Draw. -/
import Derived.Test.YtohjfcfcopbmoaaQJ1

namespace Go.Proofs.Ytohjfcfcopbmoaa
open Go.RowKit

theorem Touched.set {c : Nat} {w w' : World} (h : Touched c (c + 1) w w') {a : Addr} (ha : w.heap.size ≤ a.block) (u : Value) : Touched c (c + 1) w (w'.setCell a u) :=
  ⟨h.os, h.tape, h.output, by rw [size_setCell1]; exact h.size, fun j hj hj2 => by rw [heap_setCell_other _ _ _ _ (by omega)]; exact h.other j hj hj2⟩
theorem BoxAt.touched {c b : Nat} {w w' : World} {v : Value} (h : BoxAt w b v) (ht : Touched c (c + 1) w w') (hb : b ≠ c) (hlt : b < w.heap.size) : BoxAt w' b v := by
  have hq := ht.other b hlt (by omega)
  exact ⟨by rw [World.cell?_of_block (w := w) hq]; exact h.1, by rw [World.frozen?_of_block (w := w) hq]; exact h.2⟩

end Go.Proofs.Ytohjfcfcopbmoaa
