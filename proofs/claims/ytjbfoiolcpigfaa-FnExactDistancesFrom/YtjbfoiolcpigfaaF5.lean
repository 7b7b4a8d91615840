/- Walks: two vertices joined in the model's graph. -/
import Derived.Test.YtjbfoiolcpigfaaF4
import Derived.Deep.RegionLaw
import Derived.Deep.RegionWith
import Derived.Deep.DeepCutAuto
namespace Go.Proofs.Ytjbfoiolcpigfaa
open Go.RowKit

theorem OwnGrid.place {T T1 : TypeId} {w : World} {B : Nat} {v : Value} {L : List (List Int)} (h : OwnGrid T T1 w B v L) (hl : 0 < L.length) :
    ∃ g cap, v = .slice (some ⟨g, 0, none⟩) L.length cap ∧ B ≤ g ∧ g < w.heap.size ∧ ∀ i, i < L.length → ∃ a n c, w.cell? ⟨g, i, none⟩ = some (.slice a n c) ∧ w.frozen? ⟨g, i, none⟩ = false ∧ OwnRow T w B (.slice a n c) (nthR L i) := by
  obtain ⟨R, h2, h3, h4, h5⟩ := h
  rcases h3 with ⟨e, e'⟩ | ⟨g, cap, cur, e, hg, hh, l1, l2, hs, hc⟩
  · rw [e'] at hl; simp at hl
  · refine ⟨g, cap, e, hg, (Array.getElem?_eq_some_iff.1 hh).1, fun i hi => ?_⟩
    obtain ⟨a, c, e2⟩ := (h4 i hi).row.slice
    refine ⟨a, _, c, by rw [cell_of_row w g i cur _ _ hh, hc i hi, e2], ?_, by rw [← e2]; exact h4 i hi⟩
    simp only [World.frozen?, hh]
    simp

/-- A block of another type than a grid's is none of its blocks. -/
theorem OwnGrid.setType {T T1 T2 : TypeId} {w : World} {B b : Nat} {v : Value} {L : List (List Int)} {cur : Array Value} {z : Nat × Nat} (h : OwnGrid T T1 w B v L) (hb : w.heap[b]? = some (.cells cur T2 z)) (h1 : T2 ≠ T) (h2 : T2 ≠ T1) (i : Nat) (u : Value) : OwnGrid T T1 (w.setCell ⟨b, i, none⟩ u) B v L := by
  obtain ⟨R, k2, k3, k4, k5⟩ := h
  refine ⟨R, k2, ?_, fun j hj => ?_, k5⟩
  · rcases k3 with h | ⟨g, cap, cur', e, hg, hh, l1, l2, hs, hc⟩
    · exact Or.inl h
    · refine Or.inr ⟨g, cap, cur', e, hg, ?_, l1, l2, hs, hc⟩
      rw [heap_setCell_other w ⟨b, i, none⟩ g u (fun e => ?_)]
      · exact hh
      · have e : g = b := e
        subst e
        rw [hh] at hb
        simp at hb
        exact h2 hb.2.1.symm
  · refine (k4 j hj).setCell (fun e => ?_) u
    obtain ⟨c2, hc2⟩ := (k4 j hj).blk e
    have hc2 : w.heap[b]? = _ := hc2
    rw [hb] at hc2
    simp at hc2
    exact h1 hc2.2.1

end Go.Proofs.Ytjbfoiolcpigfaa
