/- Walks: the graph of a net. -/
import Derived.Test.YtjbfoiolcpigfaaF7
namespace Go.Proofs.Ytjbfoiolcpigfaa
open Go.RowKit

/-- The lists of the first k masks; the rest empty. -/
def partL (n : Nat) (M : Nat → Nat) (k : Nat) : List (List Int) := (List.range n).map (fun i => if i < k then listM (M i) else [])
theorem partL_len (n : Nat) (M : Nat → Nat) (k : Nat) : (partL n M k).length = n := by simp [partL]
theorem partL_nth {n : Nat} (M : Nat → Nat) (k : Nat) {i : Nat} (hi : i < n) : nthR (partL n M k) i = if i < k then listM (M i) else [] := by simp [partL, nthR, hi]
theorem partL_set (n : Nat) (M : Nat → Nat) (k : Nat) : (partL n M k).set k (listM (M k)) = partL n M (k + 1) := by
  apply nthR_ext
  · simp [partL_len]
  · intro i hi
    rw [List.length_set, partL_len] at hi
    rw [partL_nth M (k + 1) hi]
    unfold nthR
    rw [List.getD_eq_getElem?_getD]
    by_cases e : k = i
    · subst e
      rw [List.getElem?_set_self (by rw [partL_len]; exact hi)]
      simp
    · rw [List.getElem?_set_ne e]
      have := partL_nth M k hi
      unfold nthR at this
      rw [List.getD_eq_getElem?_getD] at this
      rw [this]
      by_cases h : i < k
      · simp [h, Nat.lt_succ_of_lt h]
      · simp [h, show ¬ i < k + 1 from by omega]
/-- The lists of n masks. -/
def maskL (n : Nat) (M : Nat → Nat) : List (List Int) := (List.range n).map (fun i => listM (M i))
theorem maskL_len (n : Nat) (M : Nat → Nat) : (maskL n M).length = n := by simp [maskL]
theorem maskL_nth {n : Nat} (M : Nat → Nat) {i : Nat} (hi : i < n) : nthR (maskL n M) i = listM (M i) := by simp [maskL, nthR, hi]
theorem partL_all (n : Nat) (M : Nat → Nat) : partL n M n = maskL n M := by
  apply nthR_ext
  · rw [partL_len, maskL_len]
  · intro i hi
    rw [partL_len] at hi
    rw [partL_nth M n hi, maskL_nth M hi, if_pos hi]

theorem own_made (w : World) (n : Nat) (M : Nat → Nat) (hn : n ≤ 16) : OwnGrid 2 26 (w.alloc (.cells (madeCells #[.slice none 0 0] n) 26)) w.heap.size (.slice (some ⟨w.heap.size, 0, none⟩) n n) (partL n M 0) := by
  obtain ⟨cur, c1, c2, c3⟩ := World.rowIs_made w (.slice none 0 0) n 26
  refine ⟨fun _ => .slice none 0 0, by rw [partL_len]; unfold maxLen; omega, Or.inr ⟨w.heap.size, n, cur, by rw [partL_len], Nat.le_refl _, c1, by rw [partL_len]; exact Nat.le_refl _, by unfold maxLen; omega, c2, fun i hi => by rw [partL_len] at hi; rw [c3 i hi]⟩, fun i hi => ?_, fun i j k _ _ hk => by cases hk⟩
  rw [partL_len] at hi
  rw [partL_nth M 0 hi, if_neg (by omega)]
  exact ⟨by simp, by simp, Or.inl ⟨rfl, rfl⟩⟩

end Go.Proofs.Ytjbfoiolcpigfaa
