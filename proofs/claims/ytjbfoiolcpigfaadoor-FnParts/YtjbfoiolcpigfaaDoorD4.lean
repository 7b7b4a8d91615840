/- Plain facts: two ways to list a graph's edges. -/
import Derived.Test.YtjbfoiolcpigfaaDoorD1
import Derived.Test.YtjbfoiolcpigfaaDoorC7
namespace Go.Proofs.YtjbfoiolcpigfaaDoor
open Go.RowKit

theorem SetP.pairwise {xs : List Int} {n : Int} (h : SetP xs n) : xs.Pairwise (· < ·) := by
  rw [List.pairwise_iff_getElem]
  intro i j hi hj hij
  have key : ∀ j, j < xs.length → ∀ i, i < j → nth xs i < nth xs j := by
    intro j
    induction j with
    | zero => intro _ i hi; omega
    | succ j ih =>
      intro hj i hi
      have h1 := (h (j + 1) hj).2.2 (by omega)
      simp at h1
      by_cases e : i = j
      · subst e; exact h1
      · have := ih (by omega) i (by omega); omega
  have := key j hj i hij
  rwa [nth_eq hi, nth_eq hj] at this
theorem SetP.bounds {xs : List Int} {n : Int} (h : SetP xs n) : ∀ x ∈ xs, 0 ≤ x ∧ x ≤ n - 1 := by
  intro x hx
  obtain ⟨i, hi, rfl⟩ := List.mem_iff_getElem.1 hx
  have := h i hi
  rw [← nth_eq hi]
  exact ⟨this.1, this.2.1⟩
theorem SetP.mk {xs : List Int} {n : Int} (hp : xs.Pairwise (· < ·)) (hb : ∀ x ∈ xs, 0 ≤ x ∧ x ≤ n - 1) : SetP xs n := by
  intro i hi
  have h1 := hb _ (nth_mem hi)
  refine ⟨h1.1, h1.2, fun h0 => ?_⟩
  have := List.pairwise_iff_getElem.1 hp (i - 1) i (by omega) hi (by omega)
  rw [nth_eq hi, nth_eq (by omega : i - 1 < xs.length)]
  exact this
theorem hasB_mem (xs : List Int) (x : Int) : hasB xs x = true ↔ x ∈ xs := by
  rw [hasB_iff]
  constructor
  · rintro ⟨i, hi, rfl⟩; exact nth_mem hi
  · intro h
    obtain ⟨i, hi, rfl⟩ := List.mem_iff_getElem.1 h
    exact ⟨i, hi, nth_eq hi⟩

theorem take_snoc {xs : List Int} {k : Nat} (h : k < xs.length) : xs.take (k + 1) = xs.take k ++ [nth xs k] := by
  rw [List.take_succ_eq_append_getElem h, nth_eq h]

/-- The greater neighbours among the first k. -/
def gts (u : Nat) (row : List Int) (k : Nat) : List Int := (row.take k).filter (fun x => decide ((u : Int) < x))
theorem edgesRow_gts (u : Nat) (row : List Int) (k : Nat) (hk : k ≤ row.length) : edgesRow u row k = (gts u row k).map (fun x => [(u : Int), x]) := by
  induction k with
  | zero => simp [edgesRow, gts]
  | succ k ih =>
    have e : gts u row (k + 1) = gts u row k ++ if (u : Int) < nth row k then [nth row k] else [] := by
      unfold gts
      rw [take_snoc (by omega), List.filter_append]
      congr 1
      by_cases h : (u : Int) < nth row k <;> simp [h]
    rw [edgesRow, ih (by omega), e, List.map_append]
    congr 1
    split <;> simp

/-- The edges from u to u + 1, .., u + m, as the program finds them. -/
def impRow (M u : Nat) : Nat → List (List Int)
  | 0 => []
  | m + 1 => impRow M u m ++ if hasM M ((u + 1 + m : Nat) : Int) = true then [[(u : Int), ((u + 1 + m : Nat) : Int)]] else []
def ups (M u m : Nat) : List Int := ((List.range m).map (fun i : Nat => ((u + 1 + i : Nat) : Int))).filter (fun x => hasM M x)
theorem impRow_ups (M u m : Nat) : impRow M u m = (ups M u m).map (fun x => [(u : Int), x]) := by
  induction m with
  | zero => simp [impRow, ups]
  | succ m ih =>
    have e : ups M u (m + 1) = ups M u m ++ if hasM M ((u + 1 + m : Nat) : Int) = true then [((u + 1 + m : Nat) : Int)] else [] := by
      unfold ups
      rw [List.range_succ, List.map_append, List.filter_append]
      congr 1
      by_cases h : hasM M ((u + 1 + m : Nat) : Int) = true
      · rw [if_pos h]; exact List.filter_cons_of_pos h
      · rw [if_neg h]; exact List.filter_cons_of_neg h
    rw [impRow, ih, e, List.map_append]
    congr 1
    split <;> simp

theorem impRow_eq {L : List (List Int)} (hG : GraphP L) {u : Nat} (hu : u < L.length) : impRow (rowM L u) u (L.length - (u + 1)) = edgesRow u (nthR L u) (nthR L u).length := by
  have hs := (hG.2.1 u hu).1
  have hz := hG.1
  rw [edgesRow_gts u _ _ (Nat.le_refl _), impRow_ups]
  congr 1
  have hsP : ∀ v, v < L.length → SetP (nthR L v) L.length := fun v hv => (hG.2.1 v hv).1
  refine set_ext (n := L.length) hz.2 ?_ ?_ ?_
  · refine SetP.mk ?_ ?_
    · unfold ups
      refine List.Pairwise.filter _ ?_
      rw [List.pairwise_map]
      refine List.Pairwise.imp ?_ List.pairwise_lt_range
      intro a b hab
      omega
    · intro x hx
      unfold ups at hx
      simp only [List.mem_filter, List.mem_map, List.mem_range] at hx
      obtain ⟨⟨i, hi, rfl⟩, _⟩ := hx
      omega
  · refine SetP.mk ?_ ?_
    · unfold gts
      refine List.Pairwise.filter _ ?_
      rw [List.take_length]
      exact hs.pairwise
    · intro x hx
      unfold gts at hx
      rw [List.take_length, List.mem_filter] at hx
      exact hs.bounds x hx.1
  · intro x hx
    rw [Bool.eq_iff_iff, hasB_mem, hasB_mem]
    unfold ups gts
    rw [List.take_length, List.mem_filter, List.mem_filter]
    rw [rowM_has hsP hu hx, hasB_mem]
    simp only [List.mem_map, List.mem_range, decide_eq_true_iff]
    constructor
    · rintro ⟨⟨i, hi, e⟩, h2⟩
      exact ⟨h2, by omega⟩
    · rintro ⟨h2, h3⟩
      have := hs.bounds _ h2
      exact ⟨⟨x - (u + 1), by omega, by omega⟩, h2⟩

/-- What EdgesOf answers. -/
def edgesL (L : List (List Int)) : List (List Int) := if GraphP L then edgesTo L L.length else []

end Go.Proofs.YtjbfoiolcpigfaaDoor
