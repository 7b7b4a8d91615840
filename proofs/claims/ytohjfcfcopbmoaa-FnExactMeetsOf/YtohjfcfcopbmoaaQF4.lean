/- The texts F4, F5, joined. -/
import Derived.Test.YtohjfcfcopbmoaaQF1
import Derived.Test.YtohjfcfcopbmoaaQGrid
import Derived.Test.YtohjfcfcopbmoaaQMark
import Derived.Deep.RegionLaw
import Derived.Deep.RegionWith
import Derived.Deep.DeepCutAuto

/- Plain facts: a mask's list; a row of one's own grid put anew. -/
namespace Go.Proofs.Ytohjfcfcopbmoaa
open Go.RowKit

/-- The vertices of a mask, rising. -/
def listM (M : Nat) : List Int := ((List.range 16).filter (fun i => M.testBit i)).map (fun i : Nat => (i : Int))
theorem listM_mem (M : Nat) (x : Int) : x ∈ listM M ↔ ∃ i : Nat, i < 16 ∧ M.testBit i = true ∧ (i : Int) = x := by
  unfold listM
  simp only [List.mem_map, List.mem_filter, List.mem_range]
  constructor
  · rintro ⟨i, ⟨h1, h2⟩, h3⟩; exact ⟨i, h1, h2, h3⟩
  · rintro ⟨i, h1, h2, h3⟩; exact ⟨i, ⟨h1, h2⟩, h3⟩
theorem listM_i64 (M : Nat) : ∀ x ∈ listM M, I64 x := by
  intro x hx
  obtain ⟨i, h1, _, rfl⟩ := (listM_mem M x).1 hx
  unfold I64; omega

/-- A row of one's own grid put anew. -/
theorem OwnGrid.setRow {T T1 : TypeId} {w w' : World} {B g n cap i : Nat} {L : List (List Int)} {rv : Value} {xs : List Int} (hT : T ≠ T1) (h : OwnGrid T T1 w B (.slice (some ⟨g, 0, none⟩) n cap) L) (hb : Below w.heap.size w w') (hi : i < L.length) (hr : OwnRow T w' B rv xs)
    (hblk : ∀ k, rv.ownBlock = some k → w.heap.size ≤ k ∨ w.cell? ⟨g, i, none⟩ = none ∨ ∃ u, w.cell? ⟨g, i, none⟩ = some u ∧ u.ownBlock = some k) :
    OwnGrid T T1 (w'.setCell ⟨g, i, none⟩ rv) B (.slice (some ⟨g, 0, none⟩) n cap) (L.set i xs) := by
  obtain ⟨R, h2, h3, h4, h5⟩ := h
  rcases h3 with ⟨e, _⟩ | ⟨g', cap', cur, e, hg, hh, l1, l2, hs, hc⟩
  · cases e
  · simp only [Value.slice.injEq, Option.some.injEq, Addr.mk.injEq, and_true] at e
    obtain ⟨rfl, rfl, rfl⟩ := e
    obtain ⟨hlt, _⟩ := Array.getElem?_eq_some_iff.1 hh
    have hh' : w'.heap[g]? = some (.cells cur T1 (0, 0)) := by rw [hb.block g hlt]; exact hh
    have hci : w.cell? ⟨g, i, none⟩ = some (R i) := by rw [cell_of_row w g i cur _ _ hh]; exact hc i hi
    have hne : ∀ u ys, OwnRow T w' B u ys → u.ownBlock ≠ some g := by
      intro u ys hu hub
      obtain ⟨c2, hc2⟩ := hu.blk hub
      rw [hh'] at hc2
      simp at hc2
      exact hT hc2.2.symm
    have hlen : (L.set i xs).length = L.length := by simp
    have hnth : ∀ j, nthR (L.set i xs) j = if j = i then xs else nthR L j := by
      intro j
      unfold nthR
      by_cases e : j = i
      · subst e; simp [hi]
      · simp only [e, if_false]
        rw [List.getD_eq_getElem?_getD, List.getD_eq_getElem?_getD, List.getElem?_set_ne (by omega)]
    refine ⟨fun j => if j = i then rv else R j, by rw [hlen]; exact h2, Or.inr ⟨g, cap, cur.setIfInBounds i rv, by rw [hlen], hg, heap_setCell_same w' g i cur T1 rv hh', by rw [hlen]; exact l1, l2, by rw [Array.size_setIfInBounds]; exact hs, fun j hj => ?_⟩, fun j hj => ?_, fun p q k hpq hq hk => ?_⟩
    · rw [hlen] at hj
      rw [Array.getElem?_setIfInBounds]
      by_cases e : i = j
      · subst e
        rw [if_pos rfl, if_pos (by omega)]
        simp
      · rw [if_neg e, hc j hj]
        simp [show ¬ j = i from fun h => e h.symm]
    · rw [hlen] at hj
      rw [hnth j]
      by_cases e : j = i
      · simp only [e, if_true]
        exact hr.setCell (hne rv xs hr) _
      · simp only [e, if_false]
        have := (h4 j hj).keep hb
        exact this.setCell (hne _ _ this) _
    · rw [hlen] at hq
      have fresh : ∀ j, j ≠ i → j < L.length → ∀ k, rv.ownBlock = some k → (R j).ownBlock ≠ some k := by
        intro j hji hjl k hk2 hj2
        rcases hblk k hk2 with h6 | h6 | ⟨u, hu, hub⟩
        · have := ((h4 j hjl).lt k hj2).2; omega
        · rw [hci] at h6; cases h6
        · rw [hci] at hu
          cases hu
          rcases Nat.lt_or_gt_of_ne hji with h7 | h7
          · exact h5 j i k h7 hi hj2 hub
          · exact h5 i j k h7 hjl hub hj2
      simp only at hk ⊢
      by_cases e1 : p = i
      · have e2 : ¬ q = i := by omega
        simp only [e1, if_true] at hk
        simp only [e2, if_false]
        exact fresh q e2 hq k hk
      · simp only [e1, if_false] at hk
        by_cases e2 : q = i
        · simp only [e2, if_true]
          intro h8
          exact fresh p e1 (by omega) k h8 hk
        · simp only [e2, if_false]
          exact h5 p q k hpq hq hk

end Go.Proofs.Ytohjfcfcopbmoaa

/- Walks: two vertices joined in the model's graph. -/
namespace Go.Proofs.Ytohjfcfcopbmoaa
open Go.RowKit

theorem OwnGrid.place {T T1 : TypeId} {w : World} {B : Nat} {v : Value} {L : List (List Int)} (h : OwnGrid T T1 w B v L) (hl : 0 < L.length) :
    ∃ g cap, v = .slice (some ⟨g, 0, none⟩) L.length cap ∧ B ≤ g ∧ g < w.heap.size ∧ ∀ i, i < L.length → ∃ a n c, w.cell? ⟨g, i, none⟩ = some (.slice a n c) ∧ w.frozen? ⟨g, i, none⟩ = false ∧ OwnRow T w B (.slice a n c) (nthR L i) := by
  obtain ⟨R, h2, h3, h4, h5⟩ := h
  rcases h3 with ⟨e, e'⟩ | ⟨g, cap, cur, e, hg, hh, l1, l2, hs, hc⟩
  · rw [e'] at hl; simp at hl
  · refine ⟨g, cap, e, hg, (Array.getElem?_eq_some_iff.1 hh).1, fun i hi => ?_⟩
    obtain ⟨a, c, e2⟩ := (h4 i hi).row.slice
    refine ⟨a, _, c, by rw [cell_of_row w g i cur _ _ hh, hc i hi, e2], ?_, by rw [← e2]; exact h4 i hi⟩
    simp only [World.frozen?, hh]
    simp

end Go.Proofs.Ytohjfcfcopbmoaa
