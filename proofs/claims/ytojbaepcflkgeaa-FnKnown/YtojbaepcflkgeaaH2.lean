/- Plain facts: the degrees of a graph, counted and sorted. -/
import Derived.Test.YtojbaepcflkgeaaH1
import Derived.Test.YtojbaepcflkgeaaH0

namespace Go.Proofs.Ytojbaepcflkgeaa
open Go.RowKit

/-- The rows' lengths. -/
def lensL (L : List (List Int)) : List Int := (List.range L.length).map (fun u => ((nthR L u).length : Int))
theorem lensL_len (L : List (List Int)) : (lensL L).length = L.length := by simp [lensL]
/-- How many of the first v rows have length d. -/
def cnt (L : List (List Int)) (d : Nat) : Nat → Nat
  | 0 => 0
  | v + 1 => cnt L d v + if (nthR L v).length = d then 1 else 0
theorem cnt_le (L : List (List Int)) (d v : Nat) : cnt L d v ≤ v := by
  induction v with
  | zero => simp [cnt]
  | succ v ih => simp only [cnt]; split <;> omega
/-- The degrees less than d, rising. -/
def degTo (L : List (List Int)) : Nat → List Int
  | 0 => []
  | d + 1 => degTo L d ++ List.replicate (cnt L d L.length) (d : Int)
theorem degTo_len (L : List (List Int)) (d : Nat) : (degTo L d).length ≤ L.length * d := by
  induction d with
  | zero => simp [degTo]
  | succ d ih => have := cnt_le L d L.length; simp only [degTo, List.length_append, List.length_replicate, Nat.mul_succ]; omega
theorem degTo_lt (L : List (List Int)) (d : Nat) : ∀ x ∈ degTo L d, 0 ≤ x ∧ x < d := by
  induction d with
  | zero => simp [degTo]
  | succ d ih =>
    intro x hx
    rcases List.mem_append.1 hx with h | h
    · have := ih x h; omega
    · have := List.eq_of_mem_replicate h; omega
theorem degTo_rises (L : List (List Int)) (d : Nat) : (degTo L d).Pairwise (· ≤ ·) := by
  induction d with
  | zero => simp [degTo]
  | succ d ih =>
    simp only [degTo]
    rw [List.pairwise_append]
    refine ⟨ih, ?_, ?_⟩
    · rw [List.pairwise_replicate]; right; omega
    · intro a ha b hb
      have := degTo_lt L d a ha
      have := List.eq_of_mem_replicate hb
      omega
theorem degTo_count (L : List (List Int)) (d e : Nat) : (degTo L d).count (e : Int) = if e < d then cnt L e L.length else 0 := by
  induction d with
  | zero => simp [degTo]
  | succ d ih =>
    simp only [degTo]
    rw [List.count_append, ih, List.count_replicate]
    by_cases h1 : e = d
    · subst h1; simp
    · have : ¬ ((d : Int) == (e : Int)) = true := by simp; omega
      simp only [this]
      by_cases h2 : e < d
      · simp [h2, Nat.lt_succ_of_lt h2]
      · simp [h2, show ¬ e < d + 1 from by omega]
theorem lens_count (L : List (List Int)) (e n : Nat) : ((List.range n).map (fun u => ((nthR L u).length : Int))).count (e : Int) = cnt L e n := by
  induction n with
  | zero => simp [cnt]
  | succ n ih =>
    rw [List.range_succ, List.map_append, List.count_append, ih]
    simp only [cnt, List.map_cons, List.map_nil]
    congr 1
    rw [List.count_singleton]
    by_cases h : (nthR L n).length = e
    · simp [h]
    · have : ¬ (((nthR L n).length : Int) == (e : Int)) = true := by simp; omega
      simp only [this, h]
      rfl

theorem eq_of_rises : ∀ {xs ys : List Int}, xs.Perm ys → xs.Pairwise (· ≤ ·) → ys.Pairwise (· ≤ ·) → xs = ys
  | [], ys, h, _, _ => (List.Perm.nil_eq h)
  | a :: xs, [], h, _, _ => by simp at h
  | a :: xs, b :: ys, h, hx, hy => by
    rw [List.pairwise_cons] at hx hy
    have e : a = b := by
      have h1 : a ∈ b :: ys := h.mem_iff.1 (List.mem_cons_self ..)
      have h2 : b ∈ a :: xs := h.mem_iff.2 (List.mem_cons_self ..)
      rcases List.mem_cons.1 h1 with h1 | h1
      · exact h1
      · rcases List.mem_cons.1 h2 with h2 | h2
        · exact h2.symm
        · have := hx.1 b h2; have := hy.1 a h1; omega
    subst e
    rw [eq_of_rises (List.perm_cons a |>.1 h) hx.2 hy.2]

theorem degTo_sorted {L : List (List Int)} (hG : GraphP L) : sorted (lensL L) = degTo L L.length := by
  refine eq_of_rises (((List.mergeSort_perm _ _).trans ?_)) ?_ (degTo_rises _ _)
  · rw [List.perm_iff_count]
    intro x
    by_cases hx : 0 ≤ x
    · obtain ⟨e, rfl⟩ : ∃ e : Nat, x = (e : Int) := ⟨x.toNat, by omega⟩
      rw [degTo_count, lensL, lens_count]
      by_cases h : e < L.length
      · rw [if_pos h]
      · rw [if_neg h]
        have : ∀ n, n ≤ L.length → cnt L e n = 0 := by
          intro n
          induction n with
          | zero => intro _; rfl
          | succ n ih => intro hn; have := row_len_lt hG (show n < L.length by omega); simp only [cnt, ih (by omega)]; rw [if_neg (by omega)]
        exact this _ (Nat.le_refl _)
    · rw [List.count_eq_zero.2, List.count_eq_zero.2]
      · intro h; have := degTo_lt _ _ x h; omega
      · intro h; simp only [lensL, List.mem_map] at h; obtain ⟨u, _, rfl⟩ := h; omega
  · have := List.pairwise_mergeSort (le := fun x y : Int => decide (x ≤ y)) (by intro a b c h1 h2; simp at h1 h2 ⊢; omega) (by intro a b; simp; omega) (lensL L)
    exact this.imp (by intro a b h; simpa using h)

/-- The degrees. -/
def degL (L : List (List Int)) : List Int := if GraphP L then degTo L L.length else []

theorem degL_small (L : List (List Int)) : (degL L).length ≤ 1048576 := by
  unfold degL
  by_cases h : GraphP L
  · rw [if_pos h]
    have h1 := degTo_len L L.length
    have h2 : L.length * L.length ≤ 16 * 16 := Nat.mul_le_mul h.1.2 h.1.2
    omega
  · rw [if_neg h]; simp

end Go.Proofs.Ytojbaepcflkgeaa
