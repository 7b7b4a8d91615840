/- Walks: the model's graph without edges. -/
import Derived.Test.YtjbfoiolcpigfaaF2
import Derived.Test.YtjbfoiolcpigfaaD1
namespace Go.Proofs.Ytjbfoiolcpigfaa
open Go.RowKit

theorem own_empty {T : TypeId} (w : World) : OwnRow T (w.alloc (.cells #[] T)) w.heap.size (.slice (some ⟨w.heap.size, 0, none⟩) 0 0) [] :=
  ⟨by simp, by simp, Or.inr ⟨w.heap.size, 0, #[], rfl, Nat.le_refl _, heap_alloc_new _ _, Nat.le_refl _, Nat.zero_le _, rfl, fun i hi => absurd hi (by simp)⟩⟩
theorem own_nil {T T1 : TypeId} (w : World) (B : Nat) : OwnGrid T T1 w B (.slice none 0 0) [] :=
  ⟨fun _ => undef, Nat.zero_le _, Or.inl ⟨rfl, rfl⟩, fun i hi => absurd hi (by simp), fun i j k _ hj => absurd hj (by simp)⟩

/-- A box: a block of one cell that is not frozen. -/
def BoxAt (w : World) (b : Nat) (v : Value) : Prop := w.cell? ⟨b, 0, none⟩ = some v ∧ w.frozen? ⟨b, 0, none⟩ = false
theorem BoxAt.keepB {w w' : World} {B b : Nat} {v : Value} (h : BoxAt w b v) (hb : Below B w w') (hlt : b < B) : BoxAt w' b v := ⟨by rw [hb.cell hlt]; exact h.1, by rw [hb.frozen hlt]; exact h.2⟩
theorem BoxAt.lt {w : World} {b : Nat} {v : Value} (h : BoxAt w b v) : b < w.heap.size := block_lt_of_cell h.1
theorem BoxAt.keep {w w' : World} {b : Nat} {v : Value} (h : BoxAt w b v) (hb : Below w.heap.size w w') : BoxAt w' b v := h.keepB hb h.lt
theorem frozen_set (w : World) (a : Addr) (u : Value) (b : Addr) : (w.setCell a u).frozen? b = w.frozen? b := by
  simp only [World.frozen?, World.setCell, Array.getElem?_modify]
  by_cases h : a.block = b.block
  · rw [if_pos h]
    cases w.heap[b.block]? with
    | none => rfl
    | some o => cases o <;> rfl
  · rw [if_neg h]
theorem BoxAt.set {w : World} {b : Nat} {v : Value} (h : BoxAt w b v) (u : Value) : BoxAt (w.setCell ⟨b, 0, none⟩ u) b u := ⟨cell_set_same u h.1, by rw [frozen_set]; exact h.2⟩
theorem BoxAt.setOther {w : World} {b : Nat} {v : Value} (h : BoxAt w b v) {a : Addr} (ha : a.block ≠ b) (u : Value) : BoxAt (w.setCell a u) b v :=
  ⟨by rw [cell_set_other u (fun e => ha (by rw [e]))]; exact h.1, by rw [frozen_set]; exact h.2⟩
theorem BoxAt.new (w : World) (v : Value) (t : TypeId) : BoxAt (w.alloc (.cells #[v] t)) w.heap.size v := ⟨by go_simp, by go_simp⟩

end Go.Proofs.Ytjbfoiolcpigfaa
