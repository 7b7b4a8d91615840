/- The texts Grid, D4, joined. -/
import Derived.Test.YtohjfcfcopbmoaaOwn
import Derived.Test.YtohjfcfcopbmoaaQC1
import Derived.Test.YtohjfcfcopbmoaaQLater
import Derived.Test.YtohjfcfcopbmoaaC7

/- A slice of slices that the call makes itself, appended to row by row. No statement of the program. -/
namespace Go.Proofs.Ytohjfcfcopbmoaa
open Go.RowKit

theorem nthR_append_last (L : List (List Int)) (xs : List Int) : nthR (L ++ [xs]) L.length = xs := by simp [nthR]
theorem nthR_append_old {L : List (List Int)} {xs : List Int} {i : Nat} (h : i < L.length) : nthR (L ++ [xs]) i = nthR L i := by simp [nthR, List.getElem?_append_left h]
/-- What an OwnGrid owns, as the laws on append say it. -/
theorem OwnGrid.owns {T T1 : TypeId} {w : World} {B : Nat} {v : Value} {L : List (List Int)} (h : OwnGrid T T1 w B v L) :
    ∃ R : Nat → Value, w.ownsRow B T1 1 v L.length ((List.range L.length).map R) ∧ (∀ i, i < L.length → OwnRow T w B (R i) (nthR L i)) ∧ ∀ i j k, i < j → j < L.length → (R i).ownBlock = some k → (R j).ownBlock ≠ some k := by
  obtain ⟨R, h2, h3, h4, h5⟩ := h
  refine ⟨R, ⟨by simp, ?_⟩, h4, h5⟩
  rcases h3 with ⟨e, e'⟩ | ⟨g, cap, cur, e, hg, hh, l1, l2, hs, hc⟩
  · exact Or.inl ⟨e, by rw [e']; rfl⟩
  · refine Or.inr ⟨g, cap, cur, e, hg, hh, l1, l2, by omega, ?_⟩
    apply List.ext_getElem?
    intro i
    rw [List.getElem?_take, Nat.mul_one]
    by_cases hi : i < L.length
    · rw [if_pos hi]
      have := hc i hi
      simp [hi]
      simpa using this
    · rw [if_neg hi, List.getElem?_eq_none (by simp; omega)]

theorem OwnGrid.of_owns {T T1 : TypeId} {w : World} {B : Nat} {v : Value} {L : List (List Int)} {R : Nat → Value} (hm : L.length ≤ maxLen) (h : w.ownsRow B T1 1 v L.length ((List.range L.length).map R)) (h4 : ∀ i, i < L.length → OwnRow T w B (R i) (nthR L i))
    (h5 : ∀ i j k, i < j → j < L.length → (R i).ownBlock = some k → (R j).ownBlock ≠ some k) : OwnGrid T T1 w B v L := by
  refine ⟨R, hm, ?_, h4, h5⟩
  rcases h.2 with ⟨e, e'⟩ | ⟨g, cap, cur, e, hg, hh, l1, l2, hs, hc⟩
  · exact Or.inl ⟨e, List.length_eq_zero_iff.1 e'⟩
  · refine Or.inr ⟨g, cap, cur, e, hg, hh, l1, l2, by omega, fun i hi => ?_⟩
    have h6 : (cur.toList.take (L.length * 1))[i]? = ((List.range L.length).map R)[i]? := by rw [hc]
    rw [List.getElem?_take, Nat.mul_one, if_pos hi] at h6
    simp [hi] at h6
    simpa using h6

/-- A row stays what it is while another block, of another type, is written or new blocks are laid. -/
theorem OwnRow.grown {T T1 : TypeId} {w w' : World} {B B' : Nat} {v u : Value} {xs : List Int} {n : Nat} {ys : List Value} (h : OwnRow T w B v xs) (hu : w.ownsRow B' T1 1 u n ys) (hT : T ≠ T1) (hg : w.grownBy w' u.ownBlock) : OwnRow T w' B v xs := by
  obtain ⟨h1, h2, h3⟩ := h
  refine ⟨h1, h2, ?_⟩
  rcases h3 with h3 | ⟨g, cap, cur, e, hgB, hh, r⟩
  · exact Or.inl h3
  · refine Or.inr ⟨g, cap, cur, e, hgB, ?_, r⟩
    obtain ⟨hlt, _⟩ := Array.getElem?_eq_some_iff.1 hh
    rw [hg.block g hlt]
    · exact hh
    · intro e2
      rcases hu.2 with ⟨e3, _⟩ | ⟨g', cap', cur', e3, _, hh', _⟩
      · rw [e3] at e2; simp [Value.ownBlock] at e2
      · rw [e3] at e2
        simp [Value.ownBlock] at e2
        subst e2
        rw [hh] at hh'
        simp at hh'
        exact hT hh'.2

theorem OwnRow.one {T : TypeId} {w : World} {B : Nat} {v : Value} {xs : List Int} (h : OwnRow T w B v xs) : v.oneCell' = true := by
  rcases h.2.2 with ⟨e, _⟩ | ⟨g, cap, cur, e, _⟩
  · rw [e]; rfl
  · rw [e]; rfl

/-- A grid of the old world w0, a row laid since: appended, one grid. -/
theorem OwnGrid.snoc {T T1 : TypeId} {w0 w w1 : World} {B n : Nat} {v v' rv : Value} {L : List (List Int)} {xs : List Int} (hT : T ≠ T1) (hb : Below w0.heap.size w0 w) (hB : B ≤ w0.heap.size) (hr : OwnRow T w w0.heap.size rv xs)
    (hm : n = L.length) (hlen : L.length + 1 ≤ maxLen) (R : Nat → Value) (hR : w0.ownsRow B T1 1 v L.length ((List.range L.length).map R)) (hRr : ∀ i, i < L.length → OwnRow T w0 B (R i) (nthR L i)) (hRd : ∀ i j k, i < j → j < L.length → (R i).ownBlock = some k → (R j).ownBlock ≠ some k)
    (hown : w1.ownsRow B T1 1 v' (n + 1) ((List.range L.length).map R ++ [rv])) (hg : w.grownBy w1 v.ownBlock) : OwnGrid T T1 w1 B v' (L ++ [xs]) := by
  subst hm
  have hown0 : w.ownsRow B T1 1 v L.length ((List.range L.length).map R) := by
    refine ⟨hR.1, ?_⟩
    rcases hR.2 with h1 | ⟨g, cap, cur, e, hgB, hh, r⟩
    · exact Or.inl h1
    · obtain ⟨hlt, _⟩ := Array.getElem?_eq_some_iff.1 hh
      exact Or.inr ⟨g, cap, cur, e, hgB, by rw [hb.block g hlt]; exact hh, r⟩
  have eL : (L ++ [xs]).length = L.length + 1 := by simp
  have eR : (List.range (L ++ [xs]).length).map (fun i => if i < L.length then R i else rv) = (List.range L.length).map R ++ [rv] := by
    rw [eL, List.range_succ, List.map_append]
    congr 1
    · apply List.map_congr_left
      intro i hi
      rw [if_pos (by simpa using hi)]
    · simp
  refine OwnGrid.of_owns (R := fun i => if i < L.length then R i else rv) (by rw [eL]; exact hlen) ?_ ?_ ?_
  · rw [eR, eL]; exact hown
  · intro i hi
    rw [eL] at hi
    by_cases h1 : i < L.length
    · simp only [h1, if_true]
      rw [nthR_append_old h1]
      exact ((hRr i h1).keep hb).grown hown0 hT hg
    · obtain rfl : i = L.length := by omega
      simp only [Nat.lt_irrefl, if_false]
      rw [nthR_append_last]
      exact (hr.mono hB).grown hown0 hT hg
  · intro i j k hij hj hk
    rw [eL] at hj
    have hi : i < L.length := by omega
    simp only [hi, if_true] at hk
    by_cases h1 : j < L.length
    · simp only [h1, if_true]
      exact hRd i j k hij h1 hk
    · simp only [h1, if_false]
      intro e
      have := (hRr i hi).lt k hk
      have := hr.lt k e
      omega

end Go.Proofs.Ytohjfcfcopbmoaa

/- Plain facts: two ways to list a graph's edges. -/
namespace Go.Proofs.Ytohjfcfcopbmoaa
open Go.RowKit

theorem SetP.pairwise {xs : List Int} {n : Int} (h : SetP xs n) : xs.Pairwise (· < ·) := by
  rw [List.pairwise_iff_getElem]
  intro i j hi hj hij
  have key : ∀ j, j < xs.length → ∀ i, i < j → nth xs i < nth xs j := by
    intro j
    induction j with
    | zero => intro _ i hi; omega
    | succ j ih =>
      intro hj i hi
      have h1 := (h (j + 1) hj).2.2 (by omega)
      simp at h1
      by_cases e : i = j
      · subst e; exact h1
      · have := ih (by omega) i (by omega); omega
  have := key j hj i hij
  rwa [nth_eq hi, nth_eq hj] at this
theorem SetP.bounds {xs : List Int} {n : Int} (h : SetP xs n) : ∀ x ∈ xs, 0 ≤ x ∧ x ≤ n - 1 := by
  intro x hx
  obtain ⟨i, hi, rfl⟩ := List.mem_iff_getElem.1 hx
  have := h i hi
  rw [← nth_eq hi]
  exact ⟨this.1, this.2.1⟩
theorem SetP.mk {xs : List Int} {n : Int} (hp : xs.Pairwise (· < ·)) (hb : ∀ x ∈ xs, 0 ≤ x ∧ x ≤ n - 1) : SetP xs n := by
  intro i hi
  have h1 := hb _ (nth_mem hi)
  refine ⟨h1.1, h1.2, fun h0 => ?_⟩
  have := List.pairwise_iff_getElem.1 hp (i - 1) i (by omega) hi (by omega)
  rw [nth_eq hi, nth_eq (by omega : i - 1 < xs.length)]
  exact this
theorem hasB_mem (xs : List Int) (x : Int) : hasB xs x = true ↔ x ∈ xs := by
  rw [hasB_iff]
  constructor
  · rintro ⟨i, hi, rfl⟩; exact nth_mem hi
  · intro h
    obtain ⟨i, hi, rfl⟩ := List.mem_iff_getElem.1 h
    exact ⟨i, hi, nth_eq hi⟩

theorem take_snoc {xs : List Int} {k : Nat} (h : k < xs.length) : xs.take (k + 1) = xs.take k ++ [nth xs k] := by
  rw [List.take_succ_eq_append_getElem h, nth_eq h]

end Go.Proofs.Ytohjfcfcopbmoaa
