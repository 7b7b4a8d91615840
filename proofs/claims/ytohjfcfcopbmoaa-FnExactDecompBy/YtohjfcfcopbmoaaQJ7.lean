/- The texts J7, J8, GrowRow, joined. -/
import Derived.Test.YtohjfcfcopbmoaaQJ1

/- Walks: l1Draw. -/
namespace Go.Proofs.Ytohjfcfcopbmoaa
open Go.RowKit

theorem Touched.set {c : Nat} {w w' : World} (h : Touched c (c + 1) w w') {a : Addr} (ha : w.heap.size ≤ a.block) (u : Value) : Touched c (c + 1) w (w'.setCell a u) :=
  ⟨h.os, h.tape, h.output, by rw [size_setCell1]; exact h.size, fun j hj hj2 => by rw [heap_setCell_other _ _ _ _ (by omega)]; exact h.other j hj hj2⟩
theorem BoxAt.touched {c b : Nat} {w w' : World} {v : Value} (h : BoxAt w b v) (ht : Touched c (c + 1) w w') (hb : b ≠ c) (hlt : b < w.heap.size) : BoxAt w' b v := by
  have hq := ht.other b hlt (by omega)
  exact ⟨by rw [World.cell?_of_block (w := w) hq]; exact h.1, by rw [World.frozen?_of_block (w := w) hq]; exact h.2⟩

end Go.Proofs.Ytohjfcfcopbmoaa

/- Walks: odd numbers, and numbers up to a bound. -/
namespace Go.Proofs.Ytohjfcfcopbmoaa
open Go.RowKit

theorem l1Min_any (x y : Int) (w : World) : Calls Try.prog 57 #[.int .i64 x, .int .i64 y] w fun e w' => e = .returned (.int .i64 (if x < y then x else y)) ∧ w = w' := by
  by_cases h : x < y
  · rw [if_pos h]
    go_enter Try.func57, Try.ntmps57
    go_wp2
    go_ret
    exact ⟨rfl, rfl⟩
  · rw [if_neg h]
    go_enter Try.func57, Try.ntmps57
    go_wp2
    go_ret
    exact ⟨rfl, rfl⟩

end Go.Proofs.Ytohjfcfcopbmoaa

/- A row of one's own grid, appended to where it lies or anew, and put back. -/
namespace Go.Proofs.Ytohjfcfcopbmoaa
open Go.RowKit

theorem OwnRow.far {T : TypeId} {w w' : World} {B : Nat} {v : Value} {xs : List Int} {r : Option Nat} (h : OwnRow T w B v xs) (hg : w.grownBy w' r) (hne : ∀ k, v.ownBlock = some k → some k ≠ r) : OwnRow T w' B v xs := by
  obtain ⟨h1, h2, h3⟩ := h
  refine ⟨h1, h2, ?_⟩
  rcases h3 with h3 | ⟨g, cap, cur, e, hgB, hh, rest⟩
  · exact Or.inl h3
  · refine Or.inr ⟨g, cap, cur, e, hgB, ?_, rest⟩
    rw [hg.block g (Array.getElem?_eq_some_iff.1 hh).1 (hne g (by rw [e]; rfl))]
    exact hh

end Go.Proofs.Ytohjfcfcopbmoaa
