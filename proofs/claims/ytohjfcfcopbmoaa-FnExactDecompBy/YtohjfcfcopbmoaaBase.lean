/- Words for what a slice of numbers, and a slice of such slices, reads as in a world; plain facts on them. No statement of the program. -/
import Derived.WalkKit
import Derived.WalkSpells
import Derived.WalkLawsBesides
import Derived.Deep.QuietTactic
import Derived.BigQuiet
import Derived.Deep.RegionWith
import Derived.Deep.OwnRows
import Derived.Lib.Hide

namespace Go.Proofs.Ytohjfcfcopbmoaa
open Go.RowKit

/-- Element i of a list of numbers, 0 beyond its end. -/
def nth (xs : List Int) (i : Nat) : Int := xs.getD i 0
/-- Row i of a list of rows, the empty one beyond its end. -/
def nthR (L : List (List Int)) (i : Nat) : List Int := L.getD i []
/-- The number fits an int64. -/
def I64 (x : Int) : Prop := -9223372036854775808 ≤ x ∧ x ≤ 9223372036854775807

theorem nth_eq {xs : List Int} {i : Nat} (h : i < xs.length) : nth xs i = xs[i] := by simp [nth, h]
theorem nthR_eq {L : List (List Int)} {i : Nat} (h : i < L.length) : nthR L i = L[i] := by simp [nthR, h]
theorem nth_mem {xs : List Int} {i : Nat} (h : i < xs.length) : nth xs i ∈ xs := by rw [nth_eq h]; exact List.getElem_mem h
theorem nth_ext {xs ys : List Int} (h : xs.length = ys.length) (e : ∀ i, i < xs.length → nth xs i = nth ys i) : xs = ys := by
  apply List.ext_getElem h
  intro i h1 h2
  have := e i h1
  rwa [nth_eq h1, nth_eq h2] at this
theorem nthR_ext {xs ys : List (List Int)} (h : xs.length = ys.length) (e : ∀ i, i < xs.length → nthR xs i = nthR ys i) : xs = ys := by
  apply List.ext_getElem h
  intro i h1 h2
  have := e i h1
  rwa [nthR_eq h1, nthR_eq h2] at this

/-- The value v is, in the world w, a slice of int64 that reads xs. -/
def RowAt (w : World) (v : Value) (xs : List Int) : Prop :=
  (∀ x ∈ xs, I64 x) ∧ xs.length ≤ maxLen ∧
  ((xs = [] ∧ ∃ a c, v = .slice a 0 c ∧ (a = none → c = 0)) ∨
   ∃ b o c, v = .slice (some ⟨b, o, none⟩) xs.length c ∧ xs.length ≤ c ∧ c ≤ maxLen ∧ ∀ i, i < xs.length → w.cell? ⟨b, o + i, none⟩ = some (.int .i64 (nth xs i)))

/-- The value v is, in the world w, a slice of slices of int64 that reads L. -/
def GridAt (w : World) (v : Value) (L : List (List Int)) : Prop :=
  L.length ≤ maxLen ∧
  ((L = [] ∧ ∃ a c, v = .slice a 0 c ∧ (a = none → c = 0)) ∨
   ∃ b o c, v = .slice (some ⟨b, o, none⟩) L.length c ∧ L.length ≤ c ∧ c ≤ maxLen ∧
     ∀ i, i < L.length → ∃ rv, w.cell? ⟨b, o + i, none⟩ = some rv ∧ RowAt w rv (nthR L i))

theorem below_drewN {B : Nat} {a w : World} (h : Below B a w) (n : Nat) : Below B a (w.drewN n) := h.trans ⟨rfl, rfl, rfl, Nat.le_refl _, fun _ _ => rfl⟩

/-- w' is w after some draws. -/
def Drawn (w w' : World) : Prop := ∃ n, w' = w.drewN n
theorem Drawn.refl (w : World) : Drawn w w := ⟨0, rfl⟩
theorem Drawn.more {w w' : World} (h : Drawn w w') (n : Nat) : Drawn w (w'.drewN n) := by obtain ⟨m, rfl⟩ := h; exact ⟨_, World.drewN_drewN _ _ _⟩
theorem Drawn.drew {w w' : World} (h : Drawn w w') : Drawn w w'.drew := by obtain ⟨m, rfl⟩ := h; exact ⟨_, World.drew_drewN _ _⟩
theorem Drawn.below {w w' : World} (h : Drawn w w') (B : Nat) : Below B w w' := by obtain ⟨m, rfl⟩ := h; exact below_drewN (Below.refl _ _) m
theorem Drawn.trans {w w' w'' : World} (h : Drawn w w') (k : Drawn w' w'') : Drawn w w'' := by obtain ⟨m, rfl⟩ := k; exact h.more m

/-- What holds below the whole of an old world. -/
theorem cell_keep {w w' : World} (hb : Below w.heap.size w w') {a : Addr} {v : Value} (h : w.cell? a = some v) : w'.cell? a = some v := by
  rw [hb.cell (block_lt_of_cell h)]; exact h

theorem RowAt.keep {w w' : World} {v : Value} {xs : List Int} (h : RowAt w v xs) (hb : Below w.heap.size w w') : RowAt w' v xs := by
  obtain ⟨h1, h2, h3⟩ := h
  refine ⟨h1, h2, ?_⟩
  rcases h3 with h3 | ⟨b, o, c, e, l1, l2, hc⟩
  · exact Or.inl h3
  · exact Or.inr ⟨b, o, c, e, l1, l2, fun i hi => cell_keep hb (hc i hi)⟩

theorem GridAt.keep {w w' : World} {v : Value} {L : List (List Int)} (h : GridAt w v L) (hb : Below w.heap.size w w') : GridAt w' v L := by
  obtain ⟨h2, h3⟩ := h
  refine ⟨h2, ?_⟩
  rcases h3 with h3 | ⟨b, o, c, e, l1, l2, hc⟩
  · exact Or.inl h3
  · refine Or.inr ⟨b, o, c, e, l1, l2, fun i hi => ?_⟩
    obtain ⟨rv, h4, h5⟩ := hc i hi
    exact ⟨rv, cell_keep hb h4, h5.keep hb⟩

theorem RowAt.drewN {w : World} {v : Value} {xs : List Int} (h : RowAt w v xs) (n : Nat) : RowAt (w.drewN n) v xs := h.keep (below_drewN (Below.refl _ _) n)
theorem GridAt.drewN {w : World} {v : Value} {L : List (List Int)} (h : GridAt w v L) (n : Nat) : GridAt (w.drewN n) v L := h.keep (below_drewN (Below.refl _ _) n)
theorem cell_drawn {w w' : World} (hb : Drawn w w') {a : Addr} {v : Value} (h : w.cell? a = some v) : w'.cell? a = some v := by
  rw [(hb.below w.heap.size).cell (block_lt_of_cell h)]; exact h
theorem RowAt.drawn {w w' : World} {v : Value} {xs : List Int} (h : RowAt w v xs) (hb : Drawn w w') : RowAt w' v xs := h.keep (hb.below _)
theorem GridAt.drawn {w w' : World} {v : Value} {L : List (List Int)} (h : GridAt w v L) (hb : Drawn w w') : GridAt w' v L := h.keep (hb.below _)

theorem RowAt.slice {w : World} {v : Value} {xs : List Int} (h : RowAt w v xs) : ∃ a c, v = .slice a xs.length c := by
  rcases h.2.2 with ⟨rfl, a, c, e, _⟩ | ⟨b, o, c, e, _⟩
  · exact ⟨a, c, e⟩
  · exact ⟨_, c, e⟩

theorem GridAt.slice {w : World} {v : Value} {L : List (List Int)} (h : GridAt w v L) : ∃ a c, v = .slice a L.length c := by
  rcases h.2 with ⟨rfl, a, c, e, _⟩ | ⟨b, o, c, e, _⟩
  · exact ⟨a, c, e⟩
  · exact ⟨_, c, e⟩

/-- A row opened for a walk: its length is 0, or its address stands and its cells. -/
theorem RowAt.elim {w : World} {v : Value} {xs : List Int} (h : RowAt w v xs) :
    (xs.length = 0 ∧ ∃ a c, v = .slice a 0 c) ∨
    ∃ b o c, v = .slice (some ⟨b, o, none⟩) xs.length c ∧ xs.length ≤ c ∧ c ≤ maxLen ∧ ∀ i, i < xs.length → w.cell? ⟨b, o + i, none⟩ = some (.int .i64 (nth xs i)) := by
  rcases h.2.2 with ⟨h0, h1⟩ | h1
  · obtain ⟨a, c, e, _⟩ := h1
    exact Or.inl ⟨by rw [h0]; rfl, a, c, e⟩
  · exact Or.inr h1

/-- A slice of rows opened for a walk: row i's value is '.slice (A i) (its length) (C i)'. -/
theorem GridAt.elim {w : World} {v : Value} {L : List (List Int)} (h : GridAt w v L) :
    (L.length = 0 ∧ ∃ a c, v = .slice a 0 c) ∨
    ∃ b o c, ∃ (A : Nat → Option Addr) (C : Nat → Nat), v = .slice (some ⟨b, o, none⟩) L.length c ∧ L.length ≤ c ∧ c ≤ maxLen ∧
      ∀ i, i < L.length → w.cell? ⟨b, o + i, none⟩ = some (.slice (A i) (nthR L i).length (C i)) ∧ RowAt w (.slice (A i) (nthR L i).length (C i)) (nthR L i) := by
  rcases h.2 with ⟨h0, h1⟩ | ⟨b, o, c, e, l1, l2, hc⟩
  · obtain ⟨a, c, e, _⟩ := h1
    exact Or.inl ⟨by rw [h0]; rfl, a, c, e⟩
  · have hall : ∀ i, ∃ p : Option Addr × Nat, i < L.length → w.cell? ⟨b, o + i, none⟩ = some (.slice p.1 (nthR L i).length p.2) ∧ RowAt w (.slice p.1 (nthR L i).length p.2) (nthR L i) := by
      intro i
      by_cases hi : i < L.length
      · obtain ⟨rv, h4, h5⟩ := hc i hi
        obtain ⟨a, c', e'⟩ := h5.slice
        subst e'
        exact ⟨(a, c'), fun _ => ⟨h4, h5⟩⟩
      · exact ⟨(none, 0), fun h => absurd h hi⟩
    exact Or.inr ⟨b, o, c, fun i => (Classical.choose (hall i)).1, fun i => (Classical.choose (hall i)).2, e, l1, l2, fun i hi => Classical.choose_spec (hall i) hi⟩

theorem RowAt.len {w : World} {v : Value} {xs : List Int} (h : RowAt w v xs) : xs.length ≤ maxLen := h.2.1
theorem GridAt.len {w : World} {v : Value} {L : List (List Int)} (h : GridAt w v L) : L.length ≤ maxLen := h.1

theorem RowAt.pos {w : World} {v : Value} {xs : List Int} (h : RowAt w v xs) (h0 : 0 < xs.length) :
    ∃ b o c, v = .slice (some ⟨b, o, none⟩) xs.length c ∧ xs.length ≤ c ∧ c ≤ maxLen ∧ ∀ i, i < xs.length → w.cell? ⟨b, o + i, none⟩ = some (.int .i64 (nth xs i)) := by
  rcases h.elim with ⟨e, _⟩ | h1
  · omega
  · exact h1
theorem RowAt.zero {w : World} {v : Value} {xs : List Int} (h : RowAt w v xs) (h0 : xs.length = 0) : ∃ a c, v = .slice a 0 c := by
  obtain ⟨a, c, e⟩ := h.slice
  exact ⟨a, c, by rw [e, h0]⟩
/-- An empty row: nil, or an address and whatever room. -/
theorem RowAt.none_or {w : World} {v : Value} {xs : List Int} (h : RowAt w v xs) (h0 : xs.length = 0) : v = .slice none 0 0 ∨ ∃ ad c, v = .slice (some ad) 0 c := by
  rcases h.2.2 with ⟨_, a, c, e, hn⟩ | ⟨b, o, c, e, _⟩
  · cases a with
    | none => left; rw [e, hn rfl]
    | some ad => exact Or.inr ⟨ad, c, e⟩
  · rw [h0] at e
    exact Or.inr ⟨_, c, e⟩
theorem GridAt.pos {w : World} {v : Value} {L : List (List Int)} (h : GridAt w v L) (h0 : 0 < L.length) :
    ∃ b o c, ∃ (A : Nat → Option Addr) (C : Nat → Nat), v = .slice (some ⟨b, o, none⟩) L.length c ∧ L.length ≤ c ∧ c ≤ maxLen ∧
      ∀ i, i < L.length → w.cell? ⟨b, o + i, none⟩ = some (.slice (A i) (nthR L i).length (C i)) ∧ RowAt w (.slice (A i) (nthR L i).length (C i)) (nthR L i) := by
  rcases h.elim with ⟨e, _⟩ | h1
  · omega
  · exact h1
theorem GridAt.zero {w : World} {v : Value} {L : List (List Int)} (h : GridAt w v L) (h0 : L.length = 0) : ∃ a c, v = .slice a 0 c := by
  obtain ⟨a, c, e⟩ := h.slice
  exact ⟨a, c, by rw [e, h0]⟩
theorem cell_set_same {w : World} {a : Addr} {u : Value} (v : Value) (h : w.cell? a = some u) : (w.setCell a v).cell? a = some v := World.cell?_setCell_same w a v h
theorem cell_set_other {w : World} {a b : Addr} (v : Value) (h : a ≠ b) : (w.setCell a v).cell? b = w.cell? b := by exact World.cell?_setCell_other _ _ _ _ h

theorem ret_int {k : IntKind} {a b : Int} (h : a = b) : Ending.returned (.int k a) = .returned (.int k b) := by rw [h]
theorem ret_bool {a b : Bool} (h : a = b) : Ending.returned (.bool a) = .returned (.bool b) := by rw [h]

end Go.Proofs.Ytohjfcfcopbmoaa
