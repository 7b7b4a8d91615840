/- The texts F1, F2, F3, joined. -/
import Derived.Test.YtohjfcfcopbmoaaC1
import Derived.Test.YtohjfcfcopbmoaaQGrid
import Derived.Laws.AppendOwnNone
import Derived.Test.YtohjfcfcopbmoaaQLater

/- Walks: the model's copy of a row, and a number put into a row. -/
namespace Go.Proofs.Ytohjfcfcopbmoaa
open Go.RowKit

theorem ints_one (xs : List Int) : ∀ u ∈ xs.map (Value.int .i64), u.oneCell' = true := by
  intro u hu
  simp at hu
  obtain ⟨x, _, rfl⟩ := hu
  rfl

end Go.Proofs.Ytohjfcfcopbmoaa

/- Walks: a number put into a rising row. -/
namespace Go.Proofs.Ytohjfcfcopbmoaa
open Go.RowKit

theorem OwnRow.owns {T : TypeId} {w : World} {B : Nat} {v : Value} {xs : List Int} (h : OwnRow T w B v xs) : w.ownsRow B T 1 v xs.length (xs.map (Value.int .i64)) := by
  refine ⟨by simp, ?_⟩
  rcases h.2.2 with ⟨e, e'⟩ | ⟨g, cap, cur, e, hg, hh, l1, l2, hs, hc⟩
  · exact Or.inl ⟨e, by rw [e']; rfl⟩
  · refine Or.inr ⟨g, cap, cur, e, hg, hh, l1, l2, by omega, ?_⟩
    apply List.ext_getElem?
    intro i
    rw [List.getElem?_take, Nat.mul_one]
    by_cases hi : i < xs.length
    · rw [if_pos hi]
      have := hc i hi
      rw [nth_eq hi] at this
      simp [hi]
      simpa using this
    · rw [if_neg hi, List.getElem?_eq_none (by simp; omega)]

end Go.Proofs.Ytohjfcfcopbmoaa

/- Walks: the model's graph without edges. -/
namespace Go.Proofs.Ytohjfcfcopbmoaa
open Go.RowKit

theorem own_nil {T T1 : TypeId} (w : World) (B : Nat) : OwnGrid T T1 w B (.slice none 0 0) [] :=
  ⟨fun _ => undef, Nat.zero_le _, Or.inl ⟨rfl, rfl⟩, fun i hi => absurd hi (by simp), fun i j k _ hj => absurd hj (by simp)⟩

/-- A box: a block of one cell that is not frozen. -/
def BoxAt (w : World) (b : Nat) (v : Value) : Prop := w.cell? ⟨b, 0, none⟩ = some v ∧ w.frozen? ⟨b, 0, none⟩ = false
theorem BoxAt.keepB {w w' : World} {B b : Nat} {v : Value} (h : BoxAt w b v) (hb : Below B w w') (hlt : b < B) : BoxAt w' b v := ⟨by rw [hb.cell hlt]; exact h.1, by rw [hb.frozen hlt]; exact h.2⟩
theorem BoxAt.lt {w : World} {b : Nat} {v : Value} (h : BoxAt w b v) : b < w.heap.size := block_lt_of_cell h.1
theorem BoxAt.keep {w w' : World} {b : Nat} {v : Value} (h : BoxAt w b v) (hb : Below w.heap.size w w') : BoxAt w' b v := h.keepB hb h.lt
theorem frozen_set (w : World) (a : Addr) (u : Value) (b : Addr) : (w.setCell a u).frozen? b = w.frozen? b := by
  simp only [World.frozen?, World.setCell, Array.getElem?_modify]
  by_cases h : a.block = b.block
  · rw [if_pos h]
    cases w.heap[b.block]? with
    | none => rfl
    | some o => cases o <;> rfl
  · rw [if_neg h]
theorem BoxAt.set {w : World} {b : Nat} {v : Value} (h : BoxAt w b v) (u : Value) : BoxAt (w.setCell ⟨b, 0, none⟩ u) b u := ⟨cell_set_same u h.1, by rw [frozen_set]; exact h.2⟩
theorem BoxAt.setOther {w : World} {b : Nat} {v : Value} (h : BoxAt w b v) {a : Addr} (ha : a.block ≠ b) (u : Value) : BoxAt (w.setCell a u) b v :=
  ⟨by rw [cell_set_other u (fun e => ha (by rw [e]))]; exact h.1, by rw [frozen_set]; exact h.2⟩
theorem BoxAt.new (w : World) (v : Value) (t : TypeId) : BoxAt (w.alloc (.cells #[v] t)) w.heap.size v := ⟨by go_simp, by go_simp⟩

end Go.Proofs.Ytohjfcfcopbmoaa
