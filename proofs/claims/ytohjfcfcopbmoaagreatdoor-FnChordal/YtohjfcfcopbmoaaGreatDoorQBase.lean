/- The texts Base, Own, A2, A3, A4, A5, joined. -/
import Derived.WalkKit
import Derived.WalkSpells
import Derived.WalkLawsBesides
import Derived.Deep.QuietTactic
import Derived.BigQuiet
import Derived.Deep.RegionWith
import Derived.Deep.OwnRows
import Derived.Lib.Hide
import Derived.Test.YtohjfcfcopbmoaaGreatDoorProg

/- Words for what a slice of numbers, and a slice of such slices, reads as in a world; plain facts on them. No statement of the program. -/
namespace Go.Proofs.YtohjfcfcopbmoaaGreatDoor
open Go.RowKit

/-- Element i of a list of numbers, 0 beyond its end. -/
def nth (xs : List Int) (i : Nat) : Int := xs.getD i 0
/-- Row i of a list of rows, the empty one beyond its end. -/
def nthR (L : List (List Int)) (i : Nat) : List Int := L.getD i []
/-- The number fits an int64. -/
def I64 (x : Int) : Prop := -9223372036854775808 ≤ x ∧ x ≤ 9223372036854775807

theorem nth_eq {xs : List Int} {i : Nat} (h : i < xs.length) : nth xs i = xs[i] := by simp [nth, h]
theorem nthR_eq {L : List (List Int)} {i : Nat} (h : i < L.length) : nthR L i = L[i] := by simp [nthR, h]
theorem nth_mem {xs : List Int} {i : Nat} (h : i < xs.length) : nth xs i ∈ xs := by rw [nth_eq h]; exact List.getElem_mem h
theorem nthR_mem {L : List (List Int)} {i : Nat} (h : i < L.length) : nthR L i ∈ L := by rw [nthR_eq h]; exact List.getElem_mem h
theorem nth_ext {xs ys : List Int} (h : xs.length = ys.length) (e : ∀ i, i < xs.length → nth xs i = nth ys i) : xs = ys := by
  apply List.ext_getElem h
  intro i h1 h2
  have := e i h1
  rwa [nth_eq h1, nth_eq h2] at this
theorem nthR_ext {xs ys : List (List Int)} (h : xs.length = ys.length) (e : ∀ i, i < xs.length → nthR xs i = nthR ys i) : xs = ys := by
  apply List.ext_getElem h
  intro i h1 h2
  have := e i h1
  rwa [nthR_eq h1, nthR_eq h2] at this

/-- The value v is, in the world w, a slice of int64 that reads xs. -/
def RowAt (w : World) (v : Value) (xs : List Int) : Prop :=
  (∀ x ∈ xs, I64 x) ∧ xs.length ≤ maxLen ∧
  ((xs = [] ∧ ∃ a c, v = .slice a 0 c ∧ (a = none → c = 0)) ∨
   ∃ b o c, v = .slice (some ⟨b, o, none⟩) xs.length c ∧ xs.length ≤ c ∧ c ≤ maxLen ∧ ∀ i, i < xs.length → w.cell? ⟨b, o + i, none⟩ = some (.int .i64 (nth xs i)))

/-- The value v is, in the world w, a slice of slices of int64 that reads L. -/
def GridAt (w : World) (v : Value) (L : List (List Int)) : Prop :=
  L.length ≤ maxLen ∧
  ((L = [] ∧ ∃ a c, v = .slice a 0 c ∧ (a = none → c = 0)) ∨
   ∃ b o c, v = .slice (some ⟨b, o, none⟩) L.length c ∧ L.length ≤ c ∧ c ≤ maxLen ∧
     ∀ i, i < L.length → ∃ rv, w.cell? ⟨b, o + i, none⟩ = some rv ∧ RowAt w rv (nthR L i))

theorem below_drewN {B : Nat} {a w : World} (h : Below B a w) (n : Nat) : Below B a (w.drewN n) := h.trans ⟨rfl, rfl, rfl, Nat.le_refl _, fun _ _ => rfl⟩

/-- w' is w after some draws. -/
def Drawn (w w' : World) : Prop := ∃ n, w' = w.drewN n
theorem Drawn.refl (w : World) : Drawn w w := ⟨0, rfl⟩
theorem Drawn.more {w w' : World} (h : Drawn w w') (n : Nat) : Drawn w (w'.drewN n) := by obtain ⟨m, rfl⟩ := h; exact ⟨_, World.drewN_drewN _ _ _⟩
theorem Drawn.drew {w w' : World} (h : Drawn w w') : Drawn w w'.drew := by obtain ⟨m, rfl⟩ := h; exact ⟨_, World.drew_drewN _ _⟩
theorem Drawn.below {w w' : World} (h : Drawn w w') (B : Nat) : Below B w w' := by obtain ⟨m, rfl⟩ := h; exact below_drewN (Below.refl _ _) m
theorem Drawn.trans {w w' w'' : World} (h : Drawn w w') (k : Drawn w' w'') : Drawn w w'' := by obtain ⟨m, rfl⟩ := k; exact h.more m

/-- What holds below the whole of an old world. -/
theorem cell_keep {w w' : World} (hb : Below w.heap.size w w') {a : Addr} {v : Value} (h : w.cell? a = some v) : w'.cell? a = some v := by
  rw [hb.cell (block_lt_of_cell h)]; exact h

theorem RowAt.keep {w w' : World} {v : Value} {xs : List Int} (h : RowAt w v xs) (hb : Below w.heap.size w w') : RowAt w' v xs := by
  obtain ⟨h1, h2, h3⟩ := h
  refine ⟨h1, h2, ?_⟩
  rcases h3 with h3 | ⟨b, o, c, e, l1, l2, hc⟩
  · exact Or.inl h3
  · exact Or.inr ⟨b, o, c, e, l1, l2, fun i hi => cell_keep hb (hc i hi)⟩

theorem GridAt.keep {w w' : World} {v : Value} {L : List (List Int)} (h : GridAt w v L) (hb : Below w.heap.size w w') : GridAt w' v L := by
  obtain ⟨h2, h3⟩ := h
  refine ⟨h2, ?_⟩
  rcases h3 with h3 | ⟨b, o, c, e, l1, l2, hc⟩
  · exact Or.inl h3
  · refine Or.inr ⟨b, o, c, e, l1, l2, fun i hi => ?_⟩
    obtain ⟨rv, h4, h5⟩ := hc i hi
    exact ⟨rv, cell_keep hb h4, h5.keep hb⟩

theorem RowAt.drewN {w : World} {v : Value} {xs : List Int} (h : RowAt w v xs) (n : Nat) : RowAt (w.drewN n) v xs := h.keep (below_drewN (Below.refl _ _) n)
theorem GridAt.drewN {w : World} {v : Value} {L : List (List Int)} (h : GridAt w v L) (n : Nat) : GridAt (w.drewN n) v L := h.keep (below_drewN (Below.refl _ _) n)
theorem cell_drawn {w w' : World} (hb : Drawn w w') {a : Addr} {v : Value} (h : w.cell? a = some v) : w'.cell? a = some v := by
  rw [(hb.below w.heap.size).cell (block_lt_of_cell h)]; exact h
theorem RowAt.drawn {w w' : World} {v : Value} {xs : List Int} (h : RowAt w v xs) (hb : Drawn w w') : RowAt w' v xs := h.keep (hb.below _)
theorem GridAt.drawn {w w' : World} {v : Value} {L : List (List Int)} (h : GridAt w v L) (hb : Drawn w w') : GridAt w' v L := h.keep (hb.below _)

theorem RowAt.slice {w : World} {v : Value} {xs : List Int} (h : RowAt w v xs) : ∃ a c, v = .slice a xs.length c := by
  rcases h.2.2 with ⟨rfl, a, c, e, _⟩ | ⟨b, o, c, e, _⟩
  · exact ⟨a, c, e⟩
  · exact ⟨_, c, e⟩

theorem GridAt.slice {w : World} {v : Value} {L : List (List Int)} (h : GridAt w v L) : ∃ a c, v = .slice a L.length c := by
  rcases h.2 with ⟨rfl, a, c, e, _⟩ | ⟨b, o, c, e, _⟩
  · exact ⟨a, c, e⟩
  · exact ⟨_, c, e⟩

/-- A row opened for a walk: its length is 0, or its address stands and its cells. -/
theorem RowAt.elim {w : World} {v : Value} {xs : List Int} (h : RowAt w v xs) :
    (xs.length = 0 ∧ ∃ a c, v = .slice a 0 c) ∨
    ∃ b o c, v = .slice (some ⟨b, o, none⟩) xs.length c ∧ xs.length ≤ c ∧ c ≤ maxLen ∧ ∀ i, i < xs.length → w.cell? ⟨b, o + i, none⟩ = some (.int .i64 (nth xs i)) := by
  rcases h.2.2 with ⟨h0, h1⟩ | h1
  · obtain ⟨a, c, e, _⟩ := h1
    exact Or.inl ⟨by rw [h0]; rfl, a, c, e⟩
  · exact Or.inr h1

/-- A slice of rows opened for a walk: row i's value is '.slice (A i) (its length) (C i)'. -/
theorem GridAt.elim {w : World} {v : Value} {L : List (List Int)} (h : GridAt w v L) :
    (L.length = 0 ∧ ∃ a c, v = .slice a 0 c) ∨
    ∃ b o c, ∃ (A : Nat → Option Addr) (C : Nat → Nat), v = .slice (some ⟨b, o, none⟩) L.length c ∧ L.length ≤ c ∧ c ≤ maxLen ∧
      ∀ i, i < L.length → w.cell? ⟨b, o + i, none⟩ = some (.slice (A i) (nthR L i).length (C i)) ∧ RowAt w (.slice (A i) (nthR L i).length (C i)) (nthR L i) := by
  rcases h.2 with ⟨h0, h1⟩ | ⟨b, o, c, e, l1, l2, hc⟩
  · obtain ⟨a, c, e, _⟩ := h1
    exact Or.inl ⟨by rw [h0]; rfl, a, c, e⟩
  · have hall : ∀ i, ∃ p : Option Addr × Nat, i < L.length → w.cell? ⟨b, o + i, none⟩ = some (.slice p.1 (nthR L i).length p.2) ∧ RowAt w (.slice p.1 (nthR L i).length p.2) (nthR L i) := by
      intro i
      by_cases hi : i < L.length
      · obtain ⟨rv, h4, h5⟩ := hc i hi
        obtain ⟨a, c', e'⟩ := h5.slice
        subst e'
        exact ⟨(a, c'), fun _ => ⟨h4, h5⟩⟩
      · exact ⟨(none, 0), fun h => absurd h hi⟩
    exact Or.inr ⟨b, o, c, fun i => (Classical.choose (hall i)).1, fun i => (Classical.choose (hall i)).2, e, l1, l2, fun i hi => Classical.choose_spec (hall i) hi⟩

theorem RowAt.len {w : World} {v : Value} {xs : List Int} (h : RowAt w v xs) : xs.length ≤ maxLen := h.2.1
theorem GridAt.len {w : World} {v : Value} {L : List (List Int)} (h : GridAt w v L) : L.length ≤ maxLen := h.1

theorem RowAt.pos {w : World} {v : Value} {xs : List Int} (h : RowAt w v xs) (h0 : 0 < xs.length) :
    ∃ b o c, v = .slice (some ⟨b, o, none⟩) xs.length c ∧ xs.length ≤ c ∧ c ≤ maxLen ∧ ∀ i, i < xs.length → w.cell? ⟨b, o + i, none⟩ = some (.int .i64 (nth xs i)) := by
  rcases h.elim with ⟨e, _⟩ | h1
  · omega
  · exact h1
theorem RowAt.zero {w : World} {v : Value} {xs : List Int} (h : RowAt w v xs) (h0 : xs.length = 0) : ∃ a c, v = .slice a 0 c := by
  obtain ⟨a, c, e⟩ := h.slice
  exact ⟨a, c, by rw [e, h0]⟩
/-- An empty row: nil, or an address and whatever room. -/
theorem RowAt.none_or {w : World} {v : Value} {xs : List Int} (h : RowAt w v xs) (h0 : xs.length = 0) : v = .slice none 0 0 ∨ ∃ ad c, v = .slice (some ad) 0 c := by
  rcases h.2.2 with ⟨_, a, c, e, hn⟩ | ⟨b, o, c, e, _⟩
  · cases a with
    | none => left; rw [e, hn rfl]
    | some ad => exact Or.inr ⟨ad, c, e⟩
  · rw [h0] at e
    exact Or.inr ⟨_, c, e⟩
theorem GridAt.pos {w : World} {v : Value} {L : List (List Int)} (h : GridAt w v L) (h0 : 0 < L.length) :
    ∃ b o c, ∃ (A : Nat → Option Addr) (C : Nat → Nat), v = .slice (some ⟨b, o, none⟩) L.length c ∧ L.length ≤ c ∧ c ≤ maxLen ∧
      ∀ i, i < L.length → w.cell? ⟨b, o + i, none⟩ = some (.slice (A i) (nthR L i).length (C i)) ∧ RowAt w (.slice (A i) (nthR L i).length (C i)) (nthR L i) := by
  rcases h.elim with ⟨e, _⟩ | h1
  · omega
  · exact h1
theorem GridAt.zero {w : World} {v : Value} {L : List (List Int)} (h : GridAt w v L) (h0 : L.length = 0) : ∃ a c, v = .slice a 0 c := by
  obtain ⟨a, c, e⟩ := h.slice
  exact ⟨a, c, by rw [e, h0]⟩
theorem cell_set_same {w : World} {a : Addr} {u : Value} (v : Value) (h : w.cell? a = some u) : (w.setCell a v).cell? a = some v := World.cell?_setCell_same w a v h
theorem cell_set_other {w : World} {a b : Addr} (v : Value) (h : a ≠ b) : (w.setCell a v).cell? b = w.cell? b := by exact World.cell?_setCell_other _ _ _ _ h

theorem ret_int {k : IntKind} {a b : Int} (h : a = b) : Ending.returned (.int k a) = .returned (.int k b) := by rw [h]
theorem ret_bool {a b : Bool} (h : a = b) : Ending.returned (.bool a) = .returned (.bool b) := by rw [h]

end Go.Proofs.YtohjfcfcopbmoaaGreatDoor

/- Words for rows that a call has made itself: whose blocks are its own. No statement of the program. -/
namespace Go.Proofs.YtohjfcfcopbmoaaGreatDoor
open Go.RowKit

/-- The value v is, in the world w, a slice of int64 that reads xs; its block lies from B on, is not frozen, and begins with it. T: the element type's number. -/
def OwnRow (T : TypeId) (w : World) (B : Nat) (v : Value) (xs : List Int) : Prop :=
  (∀ x ∈ xs, I64 x) ∧ xs.length ≤ maxLen ∧
  ((v = .slice none 0 0 ∧ xs = []) ∨
   ∃ g cap cur, v = .slice (some ⟨g, 0, none⟩) xs.length cap ∧ B ≤ g ∧ w.heap[g]? = some (.cells cur T (0, 0)) ∧ xs.length ≤ cap ∧ cap ≤ maxLen ∧ cur.size = cap ∧
     ∀ i, i < xs.length → cur[i]? = some (.int .i64 (nth xs i)))

theorem OwnRow.row {T : TypeId} {w : World} {B : Nat} {v : Value} {xs : List Int} (h : OwnRow T w B v xs) : RowAt w v xs := by
  obtain ⟨h1, h2, h3⟩ := h
  refine ⟨h1, h2, ?_⟩
  rcases h3 with ⟨e, e'⟩ | ⟨g, cap, cur, e, hg, hh, l1, l2, hs, hc⟩
  · exact Or.inl ⟨e', none, 0, e, fun _ => rfl⟩
  · refine Or.inr ⟨g, 0, cap, e, l1, l2, fun i hi => ?_⟩
    rw [Nat.zero_add, cell_of_row w g i cur T _ hh]
    exact hc i hi

theorem OwnRow.keep {T : TypeId} {w w' : World} {B : Nat} {v : Value} {xs : List Int} (h : OwnRow T w B v xs) (hb : Below w.heap.size w w') : OwnRow T w' B v xs := by
  obtain ⟨h1, h2, h3⟩ := h
  refine ⟨h1, h2, ?_⟩
  rcases h3 with h3 | ⟨g, cap, cur, e, hg, hh, r⟩
  · exact Or.inl h3
  · refine Or.inr ⟨g, cap, cur, e, hg, ?_, r⟩
    obtain ⟨hlt, _⟩ := Array.getElem?_eq_some_iff.1 hh
    rw [hb.block g hlt]; exact hh

theorem OwnRow.mono {T : TypeId} {w : World} {B B' : Nat} {v : Value} {xs : List Int} (h : OwnRow T w B v xs) (hb : B' ≤ B) : OwnRow T w B' v xs := by
  obtain ⟨h1, h2, h3⟩ := h
  refine ⟨h1, h2, ?_⟩
  rcases h3 with h3 | ⟨g, cap, cur, e, hg, r⟩
  · exact Or.inl h3
  · exact Or.inr ⟨g, cap, cur, e, Nat.le_trans hb hg, r⟩

theorem OwnRow.lt {T : TypeId} {w : World} {B : Nat} {v : Value} {xs : List Int} (h : OwnRow T w B v xs) : ∀ k, v.ownBlock = some k → B ≤ k ∧ k < w.heap.size := by
  intro k hk
  rcases h.2.2 with ⟨e, _⟩ | ⟨g, cap, cur, e, hg, hh, _⟩
  · subst e; simp [Value.ownBlock] at hk
  · subst e
    simp [Value.ownBlock] at hk
    subst hk
    obtain ⟨hlt, _⟩ := Array.getElem?_eq_some_iff.1 hh
    exact ⟨hg, hlt⟩

theorem OwnRow.of_ownsRow {T : TypeId} {w : World} {B n : Nat} {v : Value} {xs : List Int} (h : w.ownsRow B T 1 v n (xs.map (Value.int .i64))) (hm : xs.length ≤ maxLen) (hi : ∀ x ∈ xs, I64 x) : OwnRow T w B v xs := by
  obtain ⟨h1, h2⟩ := h
  simp at h1
  refine ⟨hi, hm, ?_⟩
  rcases h2 with ⟨e, e0⟩ | ⟨g, cap, cur, e, hg, hh, l1, l2, hs, ht⟩
  · exact Or.inl ⟨e, List.length_eq_zero_iff.1 (by omega)⟩
  · subst h1
    refine Or.inr ⟨g, cap, cur, e, hg, hh, l1, l2, by omega, fun i hi => ?_⟩
    have h5 : (cur.toList.take (xs.length * 1))[i]? = (xs.map (Value.int .i64))[i]? := by rw [ht]
    rw [List.getElem?_take, if_pos (by omega)] at h5
    simp [hi] at h5
    rw [nth_eq hi]
    simpa using h5

/-- A grid whose outer block and whose rows' blocks are the call's own (from B on); no two rows lie in one block. -/
def OwnGrid (T T1 : TypeId) (w : World) (B : Nat) (v : Value) (L : List (List Int)) : Prop :=
  ∃ R : Nat → Value, L.length ≤ maxLen ∧
  ((v = .slice none 0 0 ∧ L = []) ∨
   ∃ g cap cur, v = .slice (some ⟨g, 0, none⟩) L.length cap ∧ B ≤ g ∧ w.heap[g]? = some (.cells cur T1 (0, 0)) ∧ L.length ≤ cap ∧ cap ≤ maxLen ∧ cur.size = cap ∧
     ∀ i, i < L.length → cur[i]? = some (R i)) ∧
  (∀ i, i < L.length → OwnRow T w B (R i) (nthR L i)) ∧
  ∀ i j k, i < j → j < L.length → (R i).ownBlock = some k → (R j).ownBlock ≠ some k

theorem OwnGrid.grid {T T1 : TypeId} {w : World} {B : Nat} {v : Value} {L : List (List Int)} (h : OwnGrid T T1 w B v L) : GridAt w v L := by
  obtain ⟨R, h2, h3, h4, _⟩ := h
  refine ⟨h2, ?_⟩
  rcases h3 with ⟨e, e'⟩ | ⟨g, cap, cur, e, hg, hh, l1, l2, hs, hc⟩
  · exact Or.inl ⟨e', none, 0, e, fun _ => rfl⟩
  · refine Or.inr ⟨g, 0, cap, e, l1, l2, fun i hi => ⟨R i, ?_, (h4 i hi).row⟩⟩
    rw [Nat.zero_add, cell_of_row w g i cur T1 _ hh]
    exact hc i hi

theorem OwnGrid.keep {T T1 : TypeId} {w w' : World} {B : Nat} {v : Value} {L : List (List Int)} (h : OwnGrid T T1 w B v L) (hb : Below w.heap.size w w') : OwnGrid T T1 w' B v L := by
  obtain ⟨R, h2, h3, h4, h5⟩ := h
  refine ⟨R, h2, ?_, fun i hi => (h4 i hi).keep hb, h5⟩
  rcases h3 with h3 | ⟨g, cap, cur, e, hg, hh, r⟩
  · exact Or.inl h3
  · refine Or.inr ⟨g, cap, cur, e, hg, ?_, r⟩
    obtain ⟨hlt, _⟩ := Array.getElem?_eq_some_iff.1 hh
    rw [hb.block g hlt]; exact hh

theorem OwnGrid.mono {T T1 : TypeId} {w : World} {B B' : Nat} {v : Value} {L : List (List Int)} (h : OwnGrid T T1 w B v L) (hb : B' ≤ B) : OwnGrid T T1 w B' v L := by
  obtain ⟨R, h2, h3, h4, h5⟩ := h
  refine ⟨R, h2, ?_, fun i hi => (h4 i hi).mono hb, h5⟩
  rcases h3 with h3 | ⟨g, cap, cur, e, hg, r⟩
  · exact Or.inl h3
  · exact Or.inr ⟨g, cap, cur, e, Nat.le_trans hb hg, r⟩

theorem OwnRow.setBelow {T : TypeId} {w : World} {B : Nat} {v : Value} {xs : List Int} (h : OwnRow T w B v xs) {a : Addr} (ha : a.block < B) (u : Value) : OwnRow T (w.setCell a u) B v xs := by
  obtain ⟨h1, h2, h3⟩ := h
  refine ⟨h1, h2, ?_⟩
  rcases h3 with h3 | ⟨g, cap, cur, e, hg, hh, r⟩
  · exact Or.inl h3
  · exact Or.inr ⟨g, cap, cur, e, hg, by rw [heap_setCell_other _ _ _ _ (by omega)]; exact hh, r⟩

theorem OwnGrid.setBelow {T T1 : TypeId} {w : World} {B : Nat} {v : Value} {L : List (List Int)} (h : OwnGrid T T1 w B v L) {a : Addr} (ha : a.block < B) (u : Value) : OwnGrid T T1 (w.setCell a u) B v L := by
  obtain ⟨R, h2, h3, h4, h5⟩ := h
  refine ⟨R, h2, ?_, fun i hi => (h4 i hi).setBelow ha u, h5⟩
  rcases h3 with h3 | ⟨g, cap, cur, e, hg, hh, r⟩
  · exact Or.inl h3
  · exact Or.inr ⟨g, cap, cur, e, hg, by rw [heap_setCell_other _ _ _ _ (by omega)]; exact hh, r⟩

theorem size_alloc1 (w : World) (o : Obj) : (w.alloc o).heap.size = w.heap.size + 1 := by
  show (w.heap.push o).size = _
  simp
theorem size_setCell1 (w : World) (a : Addr) (v : Value) : (w.setCell a v).heap.size = w.heap.size := by simp [World.setCell]

end Go.Proofs.YtohjfcfcopbmoaaGreatDoor

namespace Go.Proofs.YtohjfcfcopbmoaaGreatDoor
open Go.RowKit

/-- The sizes that an answer of szInt64SS from 0 on tells. -/
def Small (L : List (List Int)) : Prop := L.length ≤ 1048576 ∧ ∀ i, i < L.length → (nthR L i).length ≤ 1048576
end Go.Proofs.YtohjfcfcopbmoaaGreatDoor

/- Walks of the laws' own helpers: copies. -/
namespace Go.Proofs.YtohjfcfcopbmoaaGreatDoor
open Go.RowKit

theorem Tryz.infoI : (Tryz.prog.info? 2).map (fun i => (i.zero, i.size, i.bytes)) = some (some (.int .i64 0), 1, 8) := by kernel_rfl
theorem Tryz.infoR : (Tryz.prog.info? 33).map (fun i => (i.zero, i.size, i.bytes)) = some (some (.slice none 0 0), 1, 24) := by kernel_rfl

theorem OwnRow.setCell {T : TypeId} {w : World} {B : Nat} {v : Value} {xs : List Int} (h : OwnRow T w B v xs) {a : Addr} (ha : v.ownBlock ≠ some a.block) (u : Value) : OwnRow T (w.setCell a u) B v xs := by
  obtain ⟨h1, h2, h3⟩ := h
  refine ⟨h1, h2, ?_⟩
  rcases h3 with h3 | ⟨g, cap, cur, e, hg, hh, r⟩
  · exact Or.inl h3
  · refine Or.inr ⟨g, cap, cur, e, hg, ?_, r⟩
    rw [heap_setCell_other]
    · exact hh
    · intro e2; apply ha; rw [e]; simp [Value.ownBlock, e2]

end Go.Proofs.YtohjfcfcopbmoaaGreatDoor

/- Walks of the laws' own helpers: a graph's copy, equality. -/
namespace Go.Proofs.YtohjfcfcopbmoaaGreatDoor
open Go.RowKit

/-- A call has handed back a graph of its own make that reads L, and has turned nothing that was there. -/
def GaveGraph (w : World) (L : List (List Int)) (e : Ending) (w' : World) : Prop :=
  ∃ n a c, e = .returned (.agg #[.slice a n c]) ∧ OwnGrid 2 33 w' w.heap.size (.slice a n c) L ∧ Below w.heap.size w w'

/-- .. a slice of slices of its own make. -/
def GaveGrid (w : World) (L : List (List Int)) (e : Ending) (w' : World) : Prop :=
  ∃ n a c, e = .returned (.slice a n c) ∧ OwnGrid 2 33 w' w.heap.size (.slice a n c) L ∧ Below w.heap.size w w'

/-! ### Equality -/

end Go.Proofs.YtohjfcfcopbmoaaGreatDoor

/- Walks: a graph's equality; the model's small words on sets. -/
namespace Go.Proofs.YtohjfcfcopbmoaaGreatDoor
open Go.RowKit

/-- lo ≤ x ≤ hi. -/
def inB (x lo hi : Int) : Bool := decide (lo ≤ x ∧ x ≤ hi)

theorem l1In_any (x lo hi : Int) (w : World) : Calls Tryz.prog 102 #[.int .i64 x, .int .i64 lo, .int .i64 hi] w fun e w' => e = .returned (.bool (inB x lo hi)) ∧ w = w' := by
  by_cases h1 : lo ≤ x
  · by_cases h2 : x ≤ hi
    · have e : inB x lo hi = true := by simp [inB, h1, h2]
      rw [e]
      go_enter Tryz.func102, Tryz.ntmps102
      go_wp2
      go_ret
      exact ⟨rfl, rfl⟩
    · have e : inB x lo hi = false := by simp [inB, h2]
      have d2 : decide (x ≤ hi) = false := by simpa using h2
      rw [e]
      go_enter Tryz.func102, Tryz.ntmps102
      go_wp2
      go_ret
      exact ⟨rfl, rfl⟩
  · have e : inB x lo hi = false := by simp [inB, h1]
    have d1 : decide (lo ≤ x) = false := by simpa using h1
    rw [e]
    go_enter Tryz.func102, Tryz.ntmps102
    go_wp2
    go_ret
    exact ⟨rfl, rfl⟩

set_option maxHeartbeats 400000 in
theorem l1Size_any (v : Value) (L : List (List Int)) (w : World) (h : GridAt w v L) :
    Calls Tryz.prog 80 #[.agg #[v]] w fun e w' => e = .returned (.int .i64 L.length) ∧ Below w.heap.size w w' := by
  have hl := h.len
  unfold maxLen at hl
  obtain ⟨a, c, rfl⟩ := h.slice
  go_enter Tryz.func80, Tryz.ntmps80
  go_wp2
  go_ret
  exact ⟨rfl, (Below.refl _ _).alloc (Nat.le_refl _) _⟩

/-- Is n an element? -/
def hasB (xs : List Int) (n : Int) : Bool := decide (∃ i, i < xs.length ∧ nth xs i = n)

set_option maxHeartbeats 400000 in
theorem l1Has_any (v : Value) (xs : List Int) (n : Int) (w : World) (h : RowAt w v xs) :
    Calls Tryz.prog 104 #[v, .int .i64 n] w fun e w' => e = .returned (.bool (hasB xs n)) ∧ w = w' := by
  have hl := h.len
  unfold maxLen at hl
  by_cases h0 : xs.length = 0
  · have e : hasB xs n = false := by simp [hasB, h0]
    rw [e]
    obtain ⟨a, c, rfl⟩ := h.zero h0
    clear h h0 hl e
    go_enter Tryz.func104, Tryz.ntmps104
    go_wp2
    refine wp_loop_rounds 1 ?_
    rw [rounds_succ]
    go_wp2
    go_ret
    exact ⟨rfl, rfl⟩
  · obtain ⟨b, o, c, rfl, l1, l2, hc⟩ := h.pos (by omega)
    have HC := Lib.hid hc
    clear hc h0
    go_enter Tryz.func104, Tryz.ntmps104
    go_wp2
    go_loop [5] (fun i => ∃ k : Nat, k ≤ xs.length ∧ i = .int .i64 k ∧ (∀ j, j < k → nth xs j ≠ n)) (fun i => xs.length - (intOf i).toNat)
    case atStart => exact ⟨0, Nat.zero_le _, rfl, (fun j hj => absurd hj (by omega))⟩
    case round =>
      obtain ⟨k, hk, rfl, he⟩ := hrel
      have HE := Lib.hid he
      clear he
      by_cases hlt : k < xs.length
      · have hck := HC.out k hlt
        by_cases hx : nth xs k = n
        · have hxb : (nth xs k == n) = true := by rw [hx]; simp
          have HX := Lib.hid hx
          clear hx
          go_wp2
          go_ret
          exact ⟨ret_bool (by symm; rw [hasB, decide_eq_true_iff]; exact ⟨k, hlt, HX.out⟩), rfl⟩
        · have hxb : (nth xs k == n) = false := by rw [beq_eq_false_iff_ne]; exact hx
          have HX := Lib.hid hx
          clear hx
          go_wp2
          go_round
          case rel => exact ⟨k + 1, by omega, by go_num, (fun j hj => by rcases Nat.lt_succ_iff_lt_or_eq.1 hj with h | h; exact HE.out j h; rw [h]; exact HX.out)⟩
          case measure => simp [intOf]; omega
      · obtain rfl : k = xs.length := by omega
        go_wp2
        go_ret
        exact ⟨ret_bool (by symm; rw [hasB, decide_eq_false_iff_not]; rintro ⟨i, hi, e⟩; exact HE.out i hi e), rfl⟩

end Go.Proofs.YtohjfcfcopbmoaaGreatDoor
