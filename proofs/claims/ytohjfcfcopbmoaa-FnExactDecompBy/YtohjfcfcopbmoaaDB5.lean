/- Two grids of one's own beside each other, each of which grows in turn. -/
import Derived.Test.YtohjfcfcopbmoaaDB4

namespace Go.Proofs.Ytohjfcfcopbmoaa
open Go.RowKit

/-- A grid of one's own whose rows are R. -/
structure OwnBy (T T1 : TypeId) (w : World) (B : Nat) (v : Value) (L : List (List Int)) (R : Nat → Value) : Prop where
  len : L.length ≤ maxLen
  owns : w.ownsRow B T1 1 v L.length ((List.range L.length).map R)
  rows : ∀ i, i < L.length → OwnRow T w B (R i) (nthR L i)
  diff : ∀ i j k, i < j → j < L.length → (R i).ownBlock = some k → (R j).ownBlock ≠ some k
theorem OwnBy.grid {T T1 : TypeId} {w : World} {B : Nat} {v : Value} {L : List (List Int)} {R : Nat → Value} (h : OwnBy T T1 w B v L R) : OwnGrid T T1 w B v L := OwnGrid.of_owns h.len h.owns h.rows h.diff
theorem ownsRow_setBelow {w : World} {B : Nat} {T : TypeId} {v : Value} {n : Nat} {xs : List Value} (h : w.ownsRow B T 1 v n xs) {a : Addr} (ha : a.block < B) (u : Value) : (w.setCell a u).ownsRow B T 1 v n xs := by
  refine ⟨h.1, ?_⟩
  rcases h.2 with h1 | ⟨g, cap, cur, e, hgB, hh, r⟩
  · exact Or.inl h1
  · exact Or.inr ⟨g, cap, cur, e, hgB, by rw [heap_setCell_other _ _ _ _ (by omega)]; exact hh, r⟩
theorem ownsRow_lt {w : World} {B : Nat} {T : TypeId} {v : Value} {n : Nat} {xs : List Value} (h : w.ownsRow B T 1 v n xs) {z : Nat} (hz : v.ownBlock = some z) : B ≤ z ∧ z < w.heap.size := by
  rcases h.2 with ⟨e, _⟩ | ⟨g, cap, cur, e, hgB, hh, r⟩
  · rw [e] at hz; simp [Value.ownBlock] at hz
  · rw [e] at hz
    simp [Value.ownBlock] at hz
    subst hz
    exact ⟨hgB, (Array.getElem?_eq_some_iff.1 hh).1⟩
theorem OwnBy.keep {T T1 : TypeId} {w w' : World} {B : Nat} {v : Value} {L : List (List Int)} {R : Nat → Value} (h : OwnBy T T1 w B v L R) (hb : Below w.heap.size w w') : OwnBy T T1 w' B v L R :=
  ⟨h.len, ownsRowB_keep h.owns hb, fun i hi => (h.rows i hi).keep hb, h.diff⟩
theorem OwnBy.setBelow {T T1 : TypeId} {w : World} {B : Nat} {v : Value} {L : List (List Int)} {R : Nat → Value} (h : OwnBy T T1 w B v L R) {a : Addr} (ha : a.block < B) (u : Value) : OwnBy T T1 (w.setCell a u) B v L R :=
  ⟨h.len, ownsRow_setBelow h.owns ha u, fun i hi => (h.rows i hi).setBelow ha u, h.diff⟩
theorem OwnBy.far {T T1 : TypeId} {w w' : World} {B B' n : Nat} {v u : Value} {L : List (List Int)} {R : Nat → Value} {ys : List Value} (h : OwnBy T T1 w B v L R) (hT : T ≠ T1) (hu : w.ownsRow B' T1 1 u n ys) (hne : ∀ z, v.ownBlock = some z → u.ownBlock ≠ some z) (hg : w.grownBy w' u.ownBlock) : OwnBy T T1 w' B v L R := by
  refine ⟨h.len, ⟨h.owns.1, ?_⟩, fun i hi => (h.rows i hi).grown hu hT hg, h.diff⟩
  rcases h.owns.2 with h1 | ⟨g, cap, cur, e, hgB, hh, r⟩
  · exact Or.inl h1
  · refine Or.inr ⟨g, cap, cur, e, hgB, ?_, r⟩
    rw [hg.block g (Array.getElem?_eq_some_iff.1 hh).1 (Ne.symm (hne g (by rw [e]; rfl)))]
    exact hh
theorem OwnBy.nil {T T1 : TypeId} (w : World) (B : Nat) (R : Nat → Value) : OwnBy T T1 w B (.slice none 0 0) [] R :=
  ⟨Nat.zero_le _, ⟨rfl, Or.inl ⟨rfl, rfl⟩⟩, fun i hi => absurd hi (by simp), fun i j k _ hj => absurd hj (by simp)⟩

/-- Two grids of one's own that have no block in common. -/
structure PairBy (T T1 : TypeId) (w : World) (B : Nat) (v v' : Value) (L L' : List (List Int)) (R R' : Nat → Value) : Prop where
  one : OwnBy T T1 w B v L R
  two : OwnBy T T1 w B v' L' R'
  apart : ∀ i j z, i < L.length → j < L'.length → (R i).ownBlock = some z → (R' j).ownBlock ≠ some z
  heads : ∀ z, v'.ownBlock = some z → v.ownBlock ≠ some z
theorem PairBy.swap {T T1 : TypeId} {w : World} {B : Nat} {v v' : Value} {L L' : List (List Int)} {R R' : Nat → Value} (h : PairBy T T1 w B v v' L L' R R') : PairBy T T1 w B v' v L' L R' R :=
  ⟨h.two, h.one, fun i j z hi hj h1 h2 => h.apart j i z hj hi h2 h1, fun z h1 h2 => h.heads z h2 h1⟩
theorem PairBy.keep {T T1 : TypeId} {w w' : World} {B : Nat} {v v' : Value} {L L' : List (List Int)} {R R' : Nat → Value} (h : PairBy T T1 w B v v' L L' R R') (hb : Below w.heap.size w w') : PairBy T T1 w' B v v' L L' R R' :=
  ⟨h.one.keep hb, h.two.keep hb, h.apart, h.heads⟩
theorem PairBy.setBelow {T T1 : TypeId} {w : World} {B : Nat} {v v' : Value} {L L' : List (List Int)} {R R' : Nat → Value} (h : PairBy T T1 w B v v' L L' R R') {a : Addr} (ha : a.block < B) (u : Value) : PairBy T T1 (w.setCell a u) B v v' L L' R R' :=
  ⟨h.one.setBelow ha u, h.two.setBelow ha u, h.apart, h.heads⟩
theorem PairBy.nil {T T1 : TypeId} (w : World) (B : Nat) (R R' : Nat → Value) : PairBy T T1 w B (.slice none 0 0) (.slice none 0 0) [] [] R R' :=
  ⟨OwnBy.nil w B R, OwnBy.nil w B R', fun i j z hi => absurd hi (by simp), fun z hz => by simp [Value.ownBlock] at hz⟩
/-- The first grows by a row laid since w0. -/
theorem PairBy.snoc {T T1 : TypeId} {w0 w w1 : World} {B n : Nat} {v v' v9 rv : Value} {L L' : List (List Int)} {R R' : Nat → Value} {xs : List Int} (hT : T ≠ T1) (h : PairBy T T1 w0 B v v' L L' R R') (hb : Below w0.heap.size w0 w) (hB : B ≤ w0.heap.size) (hr : OwnRow T w w0.heap.size rv xs)
    (hm : n = L.length) (hlen : L.length + 1 ≤ maxLen) (hown : w1.ownsRow B T1 1 v9 (n + 1) ((List.range L.length).map R ++ [rv])) (hg : w.grownBy w1 v.ownBlock) (hat : ∀ z, v9.ownBlock = some z → v.ownBlock = some z ∨ w0.heap.size ≤ z) :
    PairBy T T1 w1 B v9 v' (L ++ [xs]) L' (fun i => if i < L.length then R i else rv) R' := by
  subst hm
  have h1 := h.one.keep hb
  have h2 := h.two.keep hb
  have eL : (L ++ [xs]).length = L.length + 1 := by simp
  have eR : (List.range (L ++ [xs]).length).map (fun i => if i < L.length then R i else rv) = (List.range L.length).map R ++ [rv] := by
    rw [eL, List.range_succ, List.map_append]
    congr 1
    · apply List.map_congr_left
      intro i hi
      rw [if_pos (by simpa using hi)]
    · simp
  refine ⟨⟨by rw [eL]; exact hlen, by rw [eR, eL]; exact hown, ?_, ?_⟩, h2.far hT h1.owns h.heads hg, ?_, ?_⟩
  · intro i hi
    rw [eL] at hi
    by_cases hi1 : i < L.length
    · simp only [hi1, if_true]
      rw [nthR_append_old hi1]
      exact (h1.rows i hi1).grown h1.owns hT hg
    · obtain rfl : i = L.length := by omega
      simp only [Nat.lt_irrefl, if_false]
      rw [nthR_append_last]
      exact (hr.mono hB).grown h1.owns hT hg
  · intro i j k hij hj hk
    rw [eL] at hj
    have hi : i < L.length := by omega
    simp only [hi, if_true] at hk
    by_cases hj1 : j < L.length
    · simp only [hj1, if_true]
      exact h1.diff i j k hij hj1 hk
    · simp only [hj1, if_false]
      intro e
      have := (h.one.rows i hi).lt k hk
      have := hr.lt k e
      omega
  · intro i j z hi hj hz
    rw [eL] at hi
    by_cases hi1 : i < L.length
    · simp only [hi1, if_true] at hz
      exact h.apart i j z hi1 hj hz
    · simp only [hi1, if_false] at hz
      intro e
      have := (h.two.rows j hj).lt z e
      have := hr.lt z hz
      omega
  · intro z hz e
    rcases hat z e with h3 | h3
    · exact h.heads z hz h3
    · have := (ownsRow_lt h.two.owns hz).2
      omega

end Go.Proofs.Ytohjfcfcopbmoaa
