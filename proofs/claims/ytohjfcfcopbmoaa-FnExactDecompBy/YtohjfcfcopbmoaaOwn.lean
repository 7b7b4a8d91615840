/- Words for rows that a call has made itself: whose blocks are its own. No statement of the program. -/
import Derived.Test.YtohjfcfcopbmoaaBase

namespace Go.Proofs.Ytohjfcfcopbmoaa
open Go.RowKit

/-- The value v is, in the world w, a slice of int64 that reads xs; its block lies from B on, is not frozen, and begins with it. T: the element type's number. -/
def OwnRow (T : TypeId) (w : World) (B : Nat) (v : Value) (xs : List Int) : Prop :=
  (∀ x ∈ xs, I64 x) ∧ xs.length ≤ maxLen ∧
  ((v = .slice none 0 0 ∧ xs = []) ∨
   ∃ g cap cur, v = .slice (some ⟨g, 0, none⟩) xs.length cap ∧ B ≤ g ∧ w.heap[g]? = some (.cells cur T (0, 0)) ∧ xs.length ≤ cap ∧ cap ≤ maxLen ∧ cur.size = cap ∧
     ∀ i, i < xs.length → cur[i]? = some (.int .i64 (nth xs i)))

theorem OwnRow.row {T : TypeId} {w : World} {B : Nat} {v : Value} {xs : List Int} (h : OwnRow T w B v xs) : RowAt w v xs := by
  obtain ⟨h1, h2, h3⟩ := h
  refine ⟨h1, h2, ?_⟩
  rcases h3 with ⟨e, e'⟩ | ⟨g, cap, cur, e, hg, hh, l1, l2, hs, hc⟩
  · exact Or.inl ⟨e', none, 0, e, fun _ => rfl⟩
  · refine Or.inr ⟨g, 0, cap, e, l1, l2, fun i hi => ?_⟩
    rw [Nat.zero_add, cell_of_row w g i cur T _ hh]
    exact hc i hi

theorem OwnRow.keep {T : TypeId} {w w' : World} {B : Nat} {v : Value} {xs : List Int} (h : OwnRow T w B v xs) (hb : Below w.heap.size w w') : OwnRow T w' B v xs := by
  obtain ⟨h1, h2, h3⟩ := h
  refine ⟨h1, h2, ?_⟩
  rcases h3 with h3 | ⟨g, cap, cur, e, hg, hh, r⟩
  · exact Or.inl h3
  · refine Or.inr ⟨g, cap, cur, e, hg, ?_, r⟩
    obtain ⟨hlt, _⟩ := Array.getElem?_eq_some_iff.1 hh
    rw [hb.block g hlt]; exact hh

theorem OwnRow.mono {T : TypeId} {w : World} {B B' : Nat} {v : Value} {xs : List Int} (h : OwnRow T w B v xs) (hb : B' ≤ B) : OwnRow T w B' v xs := by
  obtain ⟨h1, h2, h3⟩ := h
  refine ⟨h1, h2, ?_⟩
  rcases h3 with h3 | ⟨g, cap, cur, e, hg, r⟩
  · exact Or.inl h3
  · exact Or.inr ⟨g, cap, cur, e, Nat.le_trans hb hg, r⟩

theorem OwnRow.lt {T : TypeId} {w : World} {B : Nat} {v : Value} {xs : List Int} (h : OwnRow T w B v xs) : ∀ k, v.ownBlock = some k → B ≤ k ∧ k < w.heap.size := by
  intro k hk
  rcases h.2.2 with ⟨e, _⟩ | ⟨g, cap, cur, e, hg, hh, _⟩
  · subst e; simp [Value.ownBlock] at hk
  · subst e
    simp [Value.ownBlock] at hk
    subst hk
    obtain ⟨hlt, _⟩ := Array.getElem?_eq_some_iff.1 hh
    exact ⟨hg, hlt⟩

theorem OwnRow.of_rowIs {T : TypeId} {w : World} {B g n : Nat} {f : Nat → Value} {xs : List Int} (h : w.rowIs g T n f) (hB : B ≤ g) (hn : xs.length = n) (hm : n ≤ maxLen) (hi : ∀ x ∈ xs, I64 x) (hf : ∀ i, i < n → f i = .int .i64 (nth xs i)) :
    OwnRow T w B (.slice (some ⟨g, 0, none⟩) n n) xs := by
  obtain ⟨c, h1, h2, h3⟩ := h
  subst hn
  exact ⟨hi, hm, Or.inr ⟨g, xs.length, c, rfl, hB, h1, Nat.le_refl _, hm, h2, fun i hi => by rw [h3 i hi, hf i hi]⟩⟩

theorem OwnRow.of_ownsRow {T : TypeId} {w : World} {B n : Nat} {v : Value} {xs : List Int} (h : w.ownsRow B T 1 v n (xs.map (Value.int .i64))) (hm : xs.length ≤ maxLen) (hi : ∀ x ∈ xs, I64 x) : OwnRow T w B v xs := by
  obtain ⟨h1, h2⟩ := h
  simp at h1
  refine ⟨hi, hm, ?_⟩
  rcases h2 with ⟨e, e0⟩ | ⟨g, cap, cur, e, hg, hh, l1, l2, hs, ht⟩
  · exact Or.inl ⟨e, List.length_eq_zero_iff.1 (by omega)⟩
  · subst h1
    refine Or.inr ⟨g, cap, cur, e, hg, hh, l1, l2, by omega, fun i hi => ?_⟩
    have h5 : (cur.toList.take (xs.length * 1))[i]? = (xs.map (Value.int .i64))[i]? := by rw [ht]
    rw [List.getElem?_take, if_pos (by omega)] at h5
    simp [hi] at h5
    rw [nth_eq hi]
    simpa using h5

/-- A grid whose outer block and whose rows' blocks are the call's own (from B on); no two rows lie in one block. -/
def OwnGrid (T T1 : TypeId) (w : World) (B : Nat) (v : Value) (L : List (List Int)) : Prop :=
  ∃ R : Nat → Value, L.length ≤ maxLen ∧
  ((v = .slice none 0 0 ∧ L = []) ∨
   ∃ g cap cur, v = .slice (some ⟨g, 0, none⟩) L.length cap ∧ B ≤ g ∧ w.heap[g]? = some (.cells cur T1 (0, 0)) ∧ L.length ≤ cap ∧ cap ≤ maxLen ∧ cur.size = cap ∧
     ∀ i, i < L.length → cur[i]? = some (R i)) ∧
  (∀ i, i < L.length → OwnRow T w B (R i) (nthR L i)) ∧
  ∀ i j k, i < j → j < L.length → (R i).ownBlock = some k → (R j).ownBlock ≠ some k

theorem OwnGrid.grid {T T1 : TypeId} {w : World} {B : Nat} {v : Value} {L : List (List Int)} (h : OwnGrid T T1 w B v L) : GridAt w v L := by
  obtain ⟨R, h2, h3, h4, _⟩ := h
  refine ⟨h2, ?_⟩
  rcases h3 with ⟨e, e'⟩ | ⟨g, cap, cur, e, hg, hh, l1, l2, hs, hc⟩
  · exact Or.inl ⟨e', none, 0, e, fun _ => rfl⟩
  · refine Or.inr ⟨g, 0, cap, e, l1, l2, fun i hi => ⟨R i, ?_, (h4 i hi).row⟩⟩
    rw [Nat.zero_add, cell_of_row w g i cur T1 _ hh]
    exact hc i hi

theorem OwnGrid.keep {T T1 : TypeId} {w w' : World} {B : Nat} {v : Value} {L : List (List Int)} (h : OwnGrid T T1 w B v L) (hb : Below w.heap.size w w') : OwnGrid T T1 w' B v L := by
  obtain ⟨R, h2, h3, h4, h5⟩ := h
  refine ⟨R, h2, ?_, fun i hi => (h4 i hi).keep hb, h5⟩
  rcases h3 with h3 | ⟨g, cap, cur, e, hg, hh, r⟩
  · exact Or.inl h3
  · refine Or.inr ⟨g, cap, cur, e, hg, ?_, r⟩
    obtain ⟨hlt, _⟩ := Array.getElem?_eq_some_iff.1 hh
    rw [hb.block g hlt]; exact hh

theorem OwnGrid.mono {T T1 : TypeId} {w : World} {B B' : Nat} {v : Value} {L : List (List Int)} (h : OwnGrid T T1 w B v L) (hb : B' ≤ B) : OwnGrid T T1 w B' v L := by
  obtain ⟨R, h2, h3, h4, h5⟩ := h
  refine ⟨R, h2, ?_, fun i hi => (h4 i hi).mono hb, h5⟩
  rcases h3 with h3 | ⟨g, cap, cur, e, hg, r⟩
  · exact Or.inl h3
  · exact Or.inr ⟨g, cap, cur, e, Nat.le_trans hb hg, r⟩

theorem OwnRow.setBelow {T : TypeId} {w : World} {B : Nat} {v : Value} {xs : List Int} (h : OwnRow T w B v xs) {a : Addr} (ha : a.block < B) (u : Value) : OwnRow T (w.setCell a u) B v xs := by
  obtain ⟨h1, h2, h3⟩ := h
  refine ⟨h1, h2, ?_⟩
  rcases h3 with h3 | ⟨g, cap, cur, e, hg, hh, r⟩
  · exact Or.inl h3
  · exact Or.inr ⟨g, cap, cur, e, hg, by rw [heap_setCell_other _ _ _ _ (by omega)]; exact hh, r⟩

theorem OwnGrid.setBelow {T T1 : TypeId} {w : World} {B : Nat} {v : Value} {L : List (List Int)} (h : OwnGrid T T1 w B v L) {a : Addr} (ha : a.block < B) (u : Value) : OwnGrid T T1 (w.setCell a u) B v L := by
  obtain ⟨R, h2, h3, h4, h5⟩ := h
  refine ⟨R, h2, ?_, fun i hi => (h4 i hi).setBelow ha u, h5⟩
  rcases h3 with h3 | ⟨g, cap, cur, e, hg, hh, r⟩
  · exact Or.inl h3
  · exact Or.inr ⟨g, cap, cur, e, hg, by rw [heap_setCell_other _ _ _ _ (by omega)]; exact hh, r⟩

theorem size_alloc1 (w : World) (o : Obj) : (w.alloc o).heap.size = w.heap.size + 1 := by
  show (w.heap.push o).size = _
  simp
theorem size_setCell1 (w : World) (a : Addr) (v : Value) : (w.setCell a v).heap.size = w.heap.size := by simp [World.setCell]

end Go.Proofs.Ytohjfcfcopbmoaa
