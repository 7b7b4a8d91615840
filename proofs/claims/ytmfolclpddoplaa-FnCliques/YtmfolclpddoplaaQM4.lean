/- The texts M4, M5, M6, joined. -/
import Derived.Test.YtmfolclpddoplaaQM1
import Derived.Test.YtmfolclpddoplaaQLater
import Derived.Test.YtmfolclpddoplaaQC1

/- Walks: these vertices of a graph, in this order: the model's and the program's. -/
namespace Go.Proofs.Ytmfolclpddoplaa
open Go.RowKit

end Go.Proofs.Ytmfolclpddoplaa

/- Walks: the program's graph of picked vertices. -/
namespace Go.Proofs.Ytmfolclpddoplaa
open Go.RowKit

/-- Which pairs have been looked at, either way: all with one below a, and of a those with one below b; they are near by R. -/
def fullA (R : Nat → Nat → Bool) (a b i j : Nat) : Bool := decide (i < a ∨ j < a ∨ (i = a ∧ j < b) ∨ (j = a ∧ i < b)) && R i j
theorem fullA_link {R : Nat → Nat → Bool} {a b : Nat} (h1 : R a b = true) (h2 : R b a = true) (i j : Nat) : fullA R a (b + 1) i j = linkA (fullA R a b) a b i j := by
  unfold linkA
  by_cases e1 : i = a ∧ j = b
  · obtain ⟨rfl, rfl⟩ := e1
    have : fullA R i (j + 1) i j = true := by unfold fullA; rw [h1, Bool.and_true, decide_eq_true_iff]; omega
    rw [this]; simp
  · by_cases e2 : i = b ∧ j = a
    · obtain ⟨rfl, rfl⟩ := e2
      have : fullA R j (i + 1) i j = true := by unfold fullA; rw [h2, Bool.and_true, decide_eq_true_iff]; omega
      rw [this]; simp
    · have c1 : (i == a && j == b) = false := by cases h : (i == a && j == b) with | false => rfl | true => (simp at h; exact absurd h e1)
      have c2 : (i == b && j == a) = false := by cases h : (i == b && j == a) with | false => rfl | true => (simp at h; exact absurd h e2)
      rw [c1, c2, Bool.or_false, Bool.or_false]
      unfold fullA
      congr 1
      rw [Bool.eq_iff_iff, decide_eq_true_iff, decide_eq_true_iff]
      omega
theorem fullA_skip {R : Nat → Nat → Bool} {a b : Nat} (h1 : R a b = false) (h2 : R b a = false) (i j : Nat) : fullA R a (b + 1) i j = fullA R a b i j := by
  unfold fullA
  by_cases e1 : i = a ∧ j = b
  · obtain ⟨rfl, rfl⟩ := e1; rw [h1, Bool.and_false, Bool.and_false]
  · by_cases e2 : i = b ∧ j = a
    · obtain ⟨rfl, rfl⟩ := e2; rw [h2, Bool.and_false, Bool.and_false]
    · congr 1
      rw [Bool.eq_iff_iff, decide_eq_true_iff, decide_eq_true_iff]
      omega
theorem fullA_next {R : Nat → Nat → Bool} {m : Nat} (hr : ∀ i j, R i j = true → i < m ∧ j < m) (a i j : Nat) : fullA R a m i j = fullA R (a + 1) 0 i j := by
  unfold fullA
  cases h : R i j with
  | false => rw [Bool.and_false, Bool.and_false]
  | true =>
    have := hr i j h
    rw [Bool.and_true, Bool.and_true, Bool.eq_iff_iff, decide_eq_true_iff, decide_eq_true_iff]
    omega
theorem fullA_zero (R : Nat → Nat → Bool) (i j : Nat) : fullA R 0 0 i j = false := by
  unfold fullA
  rw [decide_eq_false (by omega), Bool.false_and]
theorem fullA_all {R : Nat → Nat → Bool} {m : Nat} (hr : ∀ i j, R i j = true → i < m ∧ j < m) (i j : Nat) : fullA R m 0 i j = R i j := by
  unfold fullA
  cases h : R i j with
  | false => rw [Bool.and_false]
  | true => rw [Bool.and_true, decide_eq_true_iff]; exact Or.inl (hr i j h).1

end Go.Proofs.Ytmfolclpddoplaa

/- Walks: the subgraph of a set, the graph under other names. -/
namespace Go.Proofs.Ytmfolclpddoplaa
open Go.RowKit

/-- The boxes of a function of one graph: its graph's and its result's. -/
structure Two (w0 : World) (v : Value) (w : World) : Prop where
  arg : BoxAt w w0.heap.size v
  res : BoxAt w (w0.heap.size + 1) (.slice none 0 0)
  bel : Below w0.heap.size w0 w
theorem Two.start (w : World) (v : Value) : Two w v ((w.alloc (.cells #[v] 29)).alloc (.cells #[.slice none 0 0] 29)) :=
  ⟨(BoxAt.new w v _).keep ((Below.refl _ _).alloc (Nat.le_refl _) _), by have := BoxAt.new (w.alloc (.cells #[v] 29)) (.slice none 0 0) 29; rwa [size_alloc1] at this, ((Below.refl _ _).alloc (Nat.le_refl _) _).alloc (by simp) _⟩
theorem Two.keep {w0 : World} {v : Value} {w w' : World} (h : Two w0 v w) (hb : Below w.heap.size w w') : Two w0 v w' :=
  ⟨h.arg.keep hb, h.res.keep hb, h.bel.trans (hb.mono h.bel.size)⟩
theorem Two.put {T : TypeId} {w0 : World} {v : Value} {w w' : World} {o : Obj} {n : Nat} {M : Nat → Nat} (h : Two w0 v w) (hp : NetPut T (w.alloc o) w' w.heap.size n M) : Two w0 v w' := h.keep hp.since
theorem Two.lt {w0 : World} {v : Value} {w : World} (h : Two w0 v w) : w0.heap.size + 1 < w.heap.size := h.res.lt
theorem Two.q0 {w0 : World} {v : Value} {w : World} (h : Two w0 v w) (u : Value) : (w.setCell ⟨w0.heap.size + 1, 0, none⟩ u).cell? ⟨w0.heap.size + 1, 0, none⟩ = some u := cell_set_same _ h.res.1
theorem Two.yes {w0 : World} {v : Value} {w : World} (h : Two w0 v w) {R : List (List Int)} {B m c : Nat} {a : Option Addr} {ok : Bool} (ho : OwnGrid 2 31 w B (.slice a m c) R) (hB : w0.heap.size + 1 < B) (hok : ok = true) :
    GaveGB w0 R ok (.returned (.tuple #[.agg #[.slice a m c], .bool true])) (w.setCell ⟨w0.heap.size + 1, 0, none⟩ (.slice a m c)) :=
  ⟨m, a, c, by rw [hok], (ho.setBelow hB _).mono (by omega), h.bel.setCell (by simp) _⟩
theorem Two.no {w0 : World} {v : Value} {w : World} (h : Two w0 v w) {R : List (List Int)} {ok : Bool} (hR : R = []) (hok : ok = false) :
    GaveGB w0 R ok (.returned (.tuple #[.agg #[.slice none 0 0], .bool false])) (w.setCell ⟨w0.heap.size + 1, 0, none⟩ (.slice none 0 0)) := by
  rw [hR, hok]
  exact GaveGB.no (h.bel.setCell (by exact Nat.le_succ _) _)

/-- Who is near whom among picked vertices. -/
def pickA (L : List (List Int)) (xs : List Int) (i j : Nat) : Bool := decide (i < xs.length) && decide (j < xs.length) && adjB L (nth xs i).toNat (nth xs j).toNat
theorem pickA_sym {L : List (List Int)} (hG : GraphP L) (xs : List Int) (i j : Nat) : pickA L xs i j = pickA L xs j i := by
  unfold pickA
  rw [adjB_sym hG]
  cases decide (i < xs.length) <;> cases decide (j < xs.length) <;> rfl
theorem pickA_self {L : List (List Int)} (hG : GraphP L) (xs : List Int) (i : Nat) : pickA L xs i i = false := by
  unfold pickA
  rw [adjB_self hG, Bool.and_false]
theorem pickA_range {L : List (List Int)} {xs : List Int} {i j : Nat} (h : pickA L xs i j = true) : i < xs.length ∧ j < xs.length := by
  unfold pickA at h
  simp at h
  exact h.1
/-- The list names vertices of the graph. -/
def InP (L : List (List Int)) (xs : List Int) : Prop := ∀ i, i < xs.length → 0 ≤ nth xs i ∧ nth xs i < (L.length : Int)
theorem pickA_spec {L : List (List Int)} {xs : List Int} (hG : GraphP L) (hx : InP L xs) : ∀ k i, k < i → i < xs.length → pickA L xs k i = hasB (nthR L (nth xs i).toNat) (nth xs k) := by
  intro k i hki hi
  have h1 := hx k (by omega)
  have h2 := hx i hi
  have hz := hG.1
  unfold pickA
  rw [decide_eq_true hi, decide_eq_true (by omega : k < xs.length), adjB_sym hG, ← adjB_has hG (by omega) (by omega), Int.toNat_of_nonneg h1.1]
  rfl
theorem pickA_impl {L : List (List Int)} {xs : List Int} (hG : GraphP L) (hx : InP L xs) : ∀ i j, i < xs.length → j < xs.length → pickA L xs i j = hasM (rowM L (nth xs i).toNat) (nth xs j) := by
  intro i j hi hj
  have h1 := hx j hj
  have hz := hG.1
  unfold pickA
  rw [decide_eq_true hi, decide_eq_true hj, ← adjB_hasM _ (by omega), Int.toNat_of_nonneg h1.1]
  rfl
theorem SetP.inP {L : List (List Int)} {xs : List Int} (h : SetP xs L.length) : InP L xs := fun i hi => ⟨(h i hi).1, by have := (h i hi).2.1; omega⟩
theorem OrdP.inP {L : List (List Int)} {xs : List Int} (h : OrdP xs L.length) : InP L xs := fun i hi => by
  have := (h.2 i hi).1
  have : 0 ≤ nth xs i ∧ nth xs i ≤ (L.length : Int) - 1 := by simpa [inB] using this
  omega

/-- The graph of picked vertices, where there is one. -/
def pickL (L : List (List Int)) (xs : List Int) (ok : Bool) : List (List Int) := if ok = true then adjL xs.length (pickA L xs) else []
theorem pickL_small {L : List (List Int)} {xs : List Int} {ok : Bool} (h : ok = true → xs.length ≤ 16) : Small (pickL L xs ok) := by
  unfold pickL
  split
  · rename_i h1
    exact adjL_small _ _ (h h1)
  · exact ⟨by simp, fun i hi => absurd hi (by simp)⟩
/-- May this subgraph be? -/
def indB (L : List (List Int)) (xs : List Int) : Bool := setB L xs && decide (0 < xs.length)
theorem indB_yes {L : List (List Int)} {xs : List Int} (h : indB L xs = true) : GraphP L ∧ SetP xs L.length ∧ 0 < xs.length ∧ xs.length ≤ 16 := by
  unfold indB setB at h
  simp at h
  have := h.1.2.len (by omega)
  have := h.1.1.1
  exact ⟨h.1.1, h.1.2, h.2, by omega⟩
theorem orderB_yes {L : List (List Int)} {xs : List Int} (h : orderB L xs = true) : GraphP L ∧ OrdP xs L.length ∧ 0 < xs.length ∧ xs.length ≤ 16 := by
  unfold orderB at h
  simp at h
  have := h.1.1
  have := h.2.1
  exact ⟨h.1, h.2, by omega, by omega⟩
theorem indL_small (L : List (List Int)) (xs : List Int) : Small (pickL L xs (indB L xs)) := pickL_small (fun h => (indB_yes h).2.2.2)
theorem renL_small (L : List (List Int)) (xs : List Int) : Small (pickL L xs (orderB L xs)) := pickL_small (fun h => (orderB_yes h).2.2.2)

end Go.Proofs.Ytmfolclpddoplaa
