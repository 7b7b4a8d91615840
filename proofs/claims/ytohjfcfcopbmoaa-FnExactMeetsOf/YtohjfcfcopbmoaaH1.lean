/- A row of the call's own, sorted by the library. -/
import Derived.Test.YtohjfcfcopbmoaaSortLay
import Derived.Test.YtohjfcfcopbmoaaQF1
import Derived.Sort.OwnSortedInts

namespace Go.Proofs.Ytohjfcfcopbmoaa
open Go.RowKit

def sorted (xs : List Int) : List Int := xs.mergeSort (fun x y => decide (x ≤ y))
theorem sorted_len (xs : List Int) : (sorted xs).length = xs.length := List.length_mergeSort _

theorem sort_own (g n cap B : Nat) (xs : List Int) (w : World) (h : OwnRow 2 w B (.slice (some ⟨g, 0, none⟩) n cap) xs) (hl : xs.length ≤ 2000000) :
    Calls Try.prog 84 #[.slice (some ⟨g, 0, none⟩) n cap] w fun e w' => e = .returned (.tuple #[]) ∧ OwnRow 2 w' B (.slice (some ⟨g, 0, none⟩) n cap) (sorted xs) ∧ Below B w w' := by
  have hI := h.1
  have hM := h.2.1
  obtain ⟨_, h3⟩ := h.owns
  rcases h3 with ⟨e, _⟩ | ⟨g', cap', cur, e, hg, hh, l1, l2, hs, ht⟩
  · cases e
  simp only [Value.slice.injEq, Option.some.injEq, Addr.mk.injEq, and_true] at e
  obtain ⟨rfl, rfl, rfl⟩ := e
  have hlt : g < w.heap.size := (Array.getElem?_eq_some_iff.1 hh).1
  have hc := AnyM.slices_Sort_int Try.lsort g 0 cap xs w (Go.holds_of_blockI hh (by simpa using ht)) hlt (by omega)
  change Calls Try.prog 84 _ _ _ at hc
  refine hc.mono ?_
  rintro e w' ⟨rfl, q, os, rfl⟩
  refine ⟨rfl, ?_, ?_⟩
  · refine OwnRow.of_ownsRow (n := xs.length) (Go.ownsRow_sortedI (sorted_len xs) hg hh l1 l2 hs) (by rw [sorted_len]; exact hM) ?_
    intro x hx
    exact hI x ((List.mergeSort_perm xs _).mem_iff.1 hx)
  · obtain ⟨a1, a2, a3, a4, a5⟩ := Go.grownBy_sortedI (w := w) (g := g) (n := q) (os := os) (xs.mergeSort (fun x y => decide (x ≤ y))).toArray
    exact ⟨a1, a2, a3, a4, fun k hk => a5 k (by omega) (fun e => by cases e; omega)⟩

end Go.Proofs.Ytohjfcfcopbmoaa
