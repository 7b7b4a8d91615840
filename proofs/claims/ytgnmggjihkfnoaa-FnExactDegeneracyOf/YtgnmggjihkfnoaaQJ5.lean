/- The texts J5, J6, J7, J8, J9, GrowRow, joined. -/
import Derived.Test.YtgnmggjihkfnoaaQJ1

/- Walks: paths and loops, as the draws make them. -/
namespace Go.Proofs.Ytgnmggjihkfnoaa
open Go.RowKit

end Go.Proofs.Ytgnmggjihkfnoaa

/- Walks: l1Draw. -/
namespace Go.Proofs.Ytgnmggjihkfnoaa
open Go.RowKit

end Go.Proofs.Ytgnmggjihkfnoaa

/- Walks: l1Draw. -/
namespace Go.Proofs.Ytgnmggjihkfnoaa
open Go.RowKit

theorem Touched.set {c : Nat} {w w' : World} (h : Touched c (c + 1) w w') {a : Addr} (ha : w.heap.size ≤ a.block) (u : Value) : Touched c (c + 1) w (w'.setCell a u) :=
  ⟨h.os, h.tape, h.output, by rw [size_setCell1]; exact h.size, fun j hj hj2 => by rw [heap_setCell_other _ _ _ _ (by omega)]; exact h.other j hj hj2⟩
theorem BoxAt.touched {c b : Nat} {w w' : World} {v : Value} (h : BoxAt w b v) (ht : Touched c (c + 1) w w') (hb : b ≠ c) (hlt : b < w.heap.size) : BoxAt w' b v := by
  have hq := ht.other b hlt (by omega)
  exact ⟨by rw [World.cell?_of_block (w := w) hq]; exact h.1, by rw [World.frozen?_of_block (w := w) hq]; exact h.2⟩

end Go.Proofs.Ytgnmggjihkfnoaa

/- Walks: odd numbers, and numbers up to a bound. -/
namespace Go.Proofs.Ytgnmggjihkfnoaa
open Go.RowKit

theorem list_cell {T : TypeId} {w w' : World} {vs : List Int} (hI : ∀ x ∈ vs, I64 x) (h : w'.heap[w.heap.size]? = some (.cells (vs.map (Value.int .i64)).toArray T (0, 0))) {y : Nat} (hy : y < vs.length) : ∃ v, I64 v ∧ w'.cell? ⟨w.heap.size, y, none⟩ = some (.int .i64 v) := by
  refine ⟨vs[y], hI _ (List.getElem_mem hy), ?_⟩
  rw [cell_of_row w' w.heap.size y _ _ _ h]
  simp [hy]

end Go.Proofs.Ytgnmggjihkfnoaa

/- Words for l1DrawAny: a graph of one's own, of any rows, in a box. -/
namespace Go.Proofs.Ytgnmggjihkfnoaa
open Go.RowKit

theorem own_one {T : TypeId} {w : World} {x : Int} (hx : I64 x) : OwnRow T (w.alloc (.cells #[.int .i64 x] T)) w.heap.size (.slice (some ⟨w.heap.size, 0, none⟩) 1 1) [x] := by
  refine ⟨by intro y hy; simp at hy; subst hy; exact hx, by unfold maxLen; simp, Or.inr ⟨w.heap.size, 1, #[.int .i64 x], rfl, Nat.le_refl _, heap_alloc_new _ _, Nat.le_refl _, by unfold maxLen; omega, rfl, fun i hi => ?_⟩⟩
  have : i = 0 := by simpa using hi
  subst this; rfl

end Go.Proofs.Ytgnmggjihkfnoaa

/- A row of one's own grid, appended to where it lies or anew, and put back. -/
namespace Go.Proofs.Ytgnmggjihkfnoaa
open Go.RowKit

theorem OwnRow.far {T : TypeId} {w w' : World} {B : Nat} {v : Value} {xs : List Int} {r : Option Nat} (h : OwnRow T w B v xs) (hg : w.grownBy w' r) (hne : ∀ k, v.ownBlock = some k → some k ≠ r) : OwnRow T w' B v xs := by
  obtain ⟨h1, h2, h3⟩ := h
  refine ⟨h1, h2, ?_⟩
  rcases h3 with h3 | ⟨g, cap, cur, e, hgB, hh, rest⟩
  · exact Or.inl h3
  · refine Or.inr ⟨g, cap, cur, e, hgB, ?_, rest⟩
    rw [hg.block g (Array.getElem?_eq_some_iff.1 hh).1 (hne g (by rw [e]; rfl))]
    exact hh

theorem OwnGrid.growRow {T T1 : TypeId} {w w' : World} {B g n cap i : Nat} {L : List (List Int)} {rv rv2 : Value} {xs : List Int} (hT : T ≠ T1) (h : OwnGrid T T1 w B (.slice (some ⟨g, 0, none⟩) n cap) L) (hi : i < L.length) (hci : w.cell? ⟨g, i, none⟩ = some rv) (hg : w.grownBy w' rv.ownBlock) (hr : OwnRow T w' B rv2 xs)
    (hblk : ∀ k, rv2.ownBlock = some k → rv.ownBlock = some k ∨ w.heap.size ≤ k) :
    OwnGrid T T1 (w'.setCell ⟨g, i, none⟩ rv2) B (.slice (some ⟨g, 0, none⟩) n cap) (L.set i xs) := by
  obtain ⟨R, h2, h3, h4, h5⟩ := h
  rcases h3 with ⟨e, _⟩ | ⟨g', cap', cur, e, hgB, hh, l1, l2, hs, hc⟩
  · cases e
  · simp only [Value.slice.injEq, Option.some.injEq, Addr.mk.injEq, and_true] at e
    obtain ⟨rfl, rfl, rfl⟩ := e
    obtain ⟨hlt, _⟩ := Array.getElem?_eq_some_iff.1 hh
    have hRi : R i = rv := by
      have : w.cell? ⟨g, i, none⟩ = some (R i) := by rw [cell_of_row w g i cur _ _ hh]; exact hc i hi
      rw [hci] at this
      cases this; rfl
    have hgne : some g ≠ rv.ownBlock := by
      intro e
      obtain ⟨c2, hc2⟩ := (h4 i hi).blk (g := g) (by rw [hRi]; exact e.symm)
      rw [hh] at hc2
      simp at hc2
      exact hT hc2.2.symm
    have hh' : w'.heap[g]? = some (.cells cur T1 (0, 0)) := by rw [hg.block g hlt hgne]; exact hh
    have hne : ∀ u ys, OwnRow T w' B u ys → u.ownBlock ≠ some g := by
      intro u ys hu hub
      obtain ⟨c2, hc2⟩ := hu.blk hub
      rw [hh'] at hc2
      simp at hc2
      exact hT hc2.2.symm
    have hfar : ∀ j, j ≠ i → j < L.length → OwnRow T w' B (R j) (nthR L j) := by
      intro j hji hjl
      refine (h4 j hjl).far hg (fun k hk e => ?_)
      rw [← hRi] at e
      rcases Nat.lt_or_gt_of_ne hji with h7 | h7
      · exact h5 j i k h7 hi hk e.symm
      · exact h5 i j k h7 hjl e.symm hk
    have hlen : (L.set i xs).length = L.length := by simp
    have hnth : ∀ j, nthR (L.set i xs) j = if j = i then xs else nthR L j := by
      intro j
      unfold nthR
      by_cases e : j = i
      · subst e; simp [hi]
      · simp only [e, if_false]
        rw [List.getD_eq_getElem?_getD, List.getD_eq_getElem?_getD, List.getElem?_set_ne (by omega)]
    refine ⟨fun j => if j = i then rv2 else R j, by rw [hlen]; exact h2, Or.inr ⟨g, cap, cur.setIfInBounds i rv2, by rw [hlen], hgB, heap_setCell_same w' g i cur T1 rv2 hh', by rw [hlen]; exact l1, l2, by rw [Array.size_setIfInBounds]; exact hs, fun j hj => ?_⟩, fun j hj => ?_, fun p q k hpq hq hk => ?_⟩
    · rw [hlen] at hj
      rw [Array.getElem?_setIfInBounds]
      by_cases e : i = j
      · subst e
        rw [if_pos rfl, if_pos (by omega)]
        simp
      · rw [if_neg e, hc j hj]
        simp [show ¬ j = i from fun h => e h.symm]
    · rw [hlen] at hj
      rw [hnth j]
      by_cases e : j = i
      · simp only [e, if_true]
        exact hr.setCell (hne rv2 xs hr) _
      · simp only [e, if_false]
        have := hfar j e hj
        exact this.setCell (hne _ _ this) _
    · rw [hlen] at hq
      have fresh : ∀ j, j ≠ i → j < L.length → ∀ k, rv2.ownBlock = some k → (R j).ownBlock ≠ some k := by
        intro j hji hjl k hk2 hj2
        rcases hblk k hk2 with h6 | h6
        · rw [← hRi] at h6
          rcases Nat.lt_or_gt_of_ne hji with h7 | h7
          · exact h5 j i k h7 hi hj2 h6
          · exact h5 i j k h7 hjl h6 hj2
        · have := ((h4 j hjl).lt k hj2).2; omega
      simp only at hk ⊢
      by_cases e1 : p = i
      · have e2 : ¬ q = i := by omega
        simp only [e1, if_true] at hk
        simp only [e2, if_false]
        exact fresh q e2 hq k hk
      · simp only [e1, if_false] at hk
        by_cases e2 : q = i
        · simp only [e2, if_true]
          intro h8
          exact fresh p e1 (by omega) k h8 hk
        · simp only [e2, if_false]
          exact h5 p q k hpq hq hk

end Go.Proofs.Ytgnmggjihkfnoaa
