/- Words for memory of the call's own between two block numbers, and for what marking it does. No statement of the program. -/
import Derived.Test.YtohjfcfcopbmoaaGreatDoorQGrid

namespace Go.Proofs.YtohjfcfcopbmoaaGreatDoor
open Go.RowKit

/-- Between B and U something may have been written; all else that was there is as it was. -/
structure Touched (B U : Nat) (w w' : World) : Prop where
  os : w'.os = w.os
  tape : w'.tape = w.tape
  output : w'.output = w.output
  size : w.heap.size ≤ w'.heap.size
  other : ∀ j, j < w.heap.size → (j < B ∨ U ≤ j) → w'.heap[j]? = w.heap[j]?
theorem Touched.refl (B U : Nat) (w : World) : Touched B U w w := ⟨rfl, rfl, rfl, Nat.le_refl _, fun _ _ _ => rfl⟩
theorem Touched.trans {B U : Nat} {a b c : World} (h : Touched B U a b) (k : Touched B U b c) : Touched B U a c :=
  ⟨k.os.trans h.os, k.tape.trans h.tape, k.output.trans h.output, Nat.le_trans h.size k.size, fun j h1 h2 => (k.other j (Nat.lt_of_lt_of_le h1 h.size) h2).trans (h.other j h1 h2)⟩
theorem Touched.below {B U : Nat} {w w' : World} (h : Touched B U w w') (hB : B ≤ w.heap.size) : Below B w w' :=
  ⟨h.os, h.tape, h.output, h.size, fun k hk => h.other k (by omega) (Or.inl hk)⟩
theorem Touched.ofBelow {B U : Nat} {w w' : World} (h : Below w.heap.size w w') : Touched B U w w' :=
  ⟨h.os, h.tape, h.output, h.size, fun j h1 _ => h.block j h1⟩
theorem Touched.wide {B U B' U' : Nat} {w w' : World} (h : Touched B U w w') (hB : B' ≤ B) (hU : U ≤ U') : Touched B' U' w w' :=
  ⟨h.os, h.tape, h.output, h.size, fun j h1 h2 => h.other j h1 (by omega)⟩

/-- A row of the call's own that lies below U. -/
def OwnRowU (T : TypeId) (w : World) (B U : Nat) (v : Value) (xs : List Int) : Prop := OwnRow T w B v xs ∧ ∀ k, v.ownBlock = some k → k < U
/-- A grid of the call's own that lies below U. -/
def OwnGridU (T T1 : TypeId) (w : World) (B U : Nat) (v : Value) (L : List (List Int)) : Prop :=
  ∃ R : Nat → Value, L.length ≤ maxLen ∧
  ((v = .slice none 0 0 ∧ L = []) ∨
   ∃ g cap cur, v = .slice (some ⟨g, 0, none⟩) L.length cap ∧ B ≤ g ∧ g < U ∧ w.heap[g]? = some (.cells cur T1 (0, 0)) ∧ L.length ≤ cap ∧ cap ≤ maxLen ∧ cur.size = cap ∧
     ∀ i, i < L.length → cur[i]? = some (R i)) ∧
  (∀ i, i < L.length → OwnRowU T w B U (R i) (nthR L i)) ∧
  ∀ i j k, i < j → j < L.length → (R i).ownBlock = some k → (R j).ownBlock ≠ some k

theorem OwnRow.under {T : TypeId} {w : World} {B : Nat} {v : Value} {xs : List Int} (h : OwnRow T w B v xs) : OwnRowU T w B w.heap.size v xs := ⟨h, fun k hk => (h.lt k hk).2⟩
theorem OwnGrid.under {T T1 : TypeId} {w : World} {B : Nat} {v : Value} {L : List (List Int)} (h : OwnGrid T T1 w B v L) : OwnGridU T T1 w B w.heap.size v L := by
  obtain ⟨R, h2, h3, h4, h5⟩ := h
  refine ⟨R, h2, ?_, fun i hi => (h4 i hi).under, h5⟩
  rcases h3 with h3 | ⟨g, cap, cur, e, hg, hh, r⟩
  · exact Or.inl h3
  · obtain ⟨hlt, _⟩ := Array.getElem?_eq_some_iff.1 hh
    exact Or.inr ⟨g, cap, cur, e, hg, hlt, hh, r⟩
theorem OwnGridU.own {T T1 : TypeId} {w : World} {B U : Nat} {v : Value} {L : List (List Int)} (h : OwnGridU T T1 w B U v L) : OwnGrid T T1 w B v L := by
  obtain ⟨R, h2, h3, h4, h5⟩ := h
  refine ⟨R, h2, ?_, fun i hi => (h4 i hi).1, h5⟩
  rcases h3 with h3 | ⟨g, cap, cur, e, hg, _, hh, r⟩
  · exact Or.inl h3
  · exact Or.inr ⟨g, cap, cur, e, hg, hh, r⟩

/-- What lies elsewhere stays, when something is touched. -/
theorem OwnRow.touched {T : TypeId} {w w' : World} {B U B' : Nat} {v : Value} {xs : List Int} (h : OwnRow T w B' v xs) (ht : Touched B U w w') (hU : U ≤ B') : OwnRow T w' B' v xs := by
  obtain ⟨h1, h2, h3⟩ := h
  refine ⟨h1, h2, ?_⟩
  rcases h3 with h3 | ⟨g, cap, cur, e, hg, hh, r⟩
  · exact Or.inl h3
  · obtain ⟨hlt, _⟩ := Array.getElem?_eq_some_iff.1 hh
    exact Or.inr ⟨g, cap, cur, e, hg, by rw [ht.other g hlt (Or.inr (by omega))]; exact hh, r⟩
theorem OwnGrid.touched {T T1 : TypeId} {w w' : World} {B U B' : Nat} {v : Value} {L : List (List Int)} (h : OwnGrid T T1 w B' v L) (ht : Touched B U w w') (hU : U ≤ B') : OwnGrid T T1 w' B' v L := by
  obtain ⟨R, h2, h3, h4, h5⟩ := h
  refine ⟨R, h2, ?_, fun i hi => (h4 i hi).touched ht hU, h5⟩
  rcases h3 with h3 | ⟨g, cap, cur, e, hg, hh, r⟩
  · exact Or.inl h3
  · obtain ⟨hlt, _⟩ := Array.getElem?_eq_some_iff.1 hh
    exact Or.inr ⟨g, cap, cur, e, hg, by rw [ht.other g hlt (Or.inr (by omega))]; exact hh, r⟩
theorem OwnRowU.keep {T : TypeId} {w w' : World} {B U : Nat} {v : Value} {xs : List Int} (h : OwnRowU T w B U v xs) (hb : Below w.heap.size w w') : OwnRowU T w' B U v xs := ⟨h.1.keep hb, h.2⟩
theorem OwnGridU.keep {T T1 : TypeId} {w w' : World} {B U : Nat} {v : Value} {L : List (List Int)} (h : OwnGridU T T1 w B U v L) (hb : Below w.heap.size w w') : OwnGridU T T1 w' B U v L := by
  obtain ⟨R, h2, h3, h4, h5⟩ := h
  refine ⟨R, h2, ?_, fun i hi => (h4 i hi).keep hb, h5⟩
  rcases h3 with h3 | ⟨g, cap, cur, e, hg, hu, hh, r⟩
  · exact Or.inl h3
  · obtain ⟨hlt, _⟩ := Array.getElem?_eq_some_iff.1 hh
    exact Or.inr ⟨g, cap, cur, e, hg, hu, by rw [hb.block g hlt]; exact hh, r⟩

/-- What lies in another stretch of blocks stays, when something is touched. -/
theorem OwnRowU.apart {T : TypeId} {w w' : World} {B U B' U' : Nat} {v : Value} {xs : List Int} (h : OwnRowU T w B' U' v xs) (ht : Touched B U w w') (hd : U' ≤ B ∨ U ≤ B') : OwnRowU T w' B' U' v xs := by
  obtain ⟨⟨h1, h2, h3⟩, hu⟩ := h
  refine ⟨⟨h1, h2, ?_⟩, hu⟩
  rcases h3 with h3 | ⟨g, cap, cur, e, hg, hh, r⟩
  · exact Or.inl h3
  · obtain ⟨hlt, _⟩ := Array.getElem?_eq_some_iff.1 hh
    have hgu := hu g (by rw [e]; rfl)
    exact Or.inr ⟨g, cap, cur, e, hg, by rw [ht.other g hlt (by omega)]; exact hh, r⟩
theorem OwnGridU.apart {T T1 : TypeId} {w w' : World} {B U B' U' : Nat} {v : Value} {L : List (List Int)} (h : OwnGridU T T1 w B' U' v L) (ht : Touched B U w w') (hd : U' ≤ B ∨ U ≤ B') : OwnGridU T T1 w' B' U' v L := by
  obtain ⟨R, h2, h3, h4, h5⟩ := h
  refine ⟨R, h2, ?_, fun i hi => (h4 i hi).apart ht hd, h5⟩
  rcases h3 with h3 | ⟨g, cap, cur, e, hg, hu, hh, r⟩
  · exact Or.inl h3
  · obtain ⟨hlt, _⟩ := Array.getElem?_eq_some_iff.1 hh
    exact Or.inr ⟨g, cap, cur, e, hg, hu, by rw [ht.other g hlt (by omega)]; exact hh, r⟩
theorem OwnRowU.read {T : TypeId} {w : World} {B U : Nat} {v : Value} {xs : List Int} (h : OwnRowU T w B U v xs) : RowAt w v xs := h.1.row
theorem OwnGridU.read {T T1 : TypeId} {w : World} {B U : Nat} {v : Value} {L : List (List Int)} (h : OwnGridU T T1 w B U v L) : GridAt w v L := h.own.grid

/-- Only block g has been written. -/
structure OnlyBlk (g : Nat) (w w' : World) : Prop where
  os : w'.os = w.os
  tape : w'.tape = w.tape
  output : w'.output = w.output
  size : w'.heap.size = w.heap.size
  other : ∀ j, j ≠ g → w'.heap[j]? = w.heap[j]?
theorem OnlyBlk.refl (g : Nat) (w : World) : OnlyBlk g w w := ⟨rfl, rfl, rfl, rfl, fun _ _ => rfl⟩
theorem OnlyBlk.setCell {g : Nat} {w w' : World} (h : OnlyBlk g w w') (i : Nat) (v : Value) : OnlyBlk g w (w'.setCell ⟨g, i, none⟩ v) :=
  ⟨h.os, h.tape, h.output, by rw [size_setCell1]; exact h.size, fun j hj => by rw [heap_setCell_other _ _ _ _ (by simpa using hj)]; exact h.other j hj⟩
theorem OnlyBlk.touched {g B U : Nat} {w w' : World} (h : OnlyBlk g w w') (hB : B ≤ g) (hU : g < U) : Touched B U w w' :=
  ⟨h.os, h.tape, h.output, Nat.le_of_eq h.size.symm, fun j _ hj => h.other j (by omega)⟩

theorem OwnRow.only {T : TypeId} {w w' : World} {B g : Nat} {v : Value} {xs : List Int} (h : OwnRow T w B v xs) (ho : OnlyBlk g w w') (hne : v.ownBlock ≠ some g) : OwnRow T w' B v xs := by
  obtain ⟨h1, h2, h3⟩ := h
  refine ⟨h1, h2, ?_⟩
  rcases h3 with h3 | ⟨g', cap, cur, e, hg, hh, r⟩
  · exact Or.inl h3
  · refine Or.inr ⟨g', cap, cur, e, hg, ?_, r⟩
    rw [ho.other g' (fun e2 => hne (by rw [e, e2]; rfl))]
    exact hh
/-- The row's block is of the element's type. -/
theorem OwnRow.blk {T : TypeId} {w : World} {B g : Nat} {v : Value} {xs : List Int} (h : OwnRow T w B v xs) (hg : v.ownBlock = some g) : ∃ cur, w.heap[g]? = some (.cells cur T (0, 0)) := by
  rcases h.2.2 with ⟨e, _⟩ | ⟨g', cap, cur, e, _, hh, _⟩
  · rw [e] at hg; simp [Value.ownBlock] at hg
  · rw [e] at hg
    simp [Value.ownBlock] at hg
    subst hg
    exact ⟨cur, hh⟩

end Go.Proofs.YtohjfcfcopbmoaaGreatDoor
