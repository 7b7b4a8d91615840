/- Plain facts: a graph under other names has as many edges. -/
import Derived.Test.YtohjfcfcopbmoaaM6
import Derived.Test.YtohjfcfcopbmoaaM7
import Derived.Test.YtohjfcfcopbmoaaE3
import Derived.Test.YtohjfcfcopbmoaaQM9
import Derived.Test.YtohjfcfcopbmoaaQF6
import Derived.Test.YtohjfcfcopbmoaaQGrid
import Derived.Test.YtohjfcfcopbmoaaE1
import Derived.Test.YtohjfcfcopbmoaaQF4

namespace Go.Proofs.Ytohjfcfcopbmoaa
open Go.RowKit

theorem ord_perm {xs : List Int} {n : Nat} (h : OrdP xs n) : xs.Perm (allL n) := by
  have hnd : xs.Nodup := by
    rw [List.nodup_iff_pairwise_ne, List.pairwise_iff_getElem]
    intro i j hi hj hij e
    have hh := (h.2 j hj).2
    have : hasB (xs.take j) (nth xs j) = true := (hasB_take (Nat.le_of_lt hj) _).2 ⟨i, hij, by rw [nth_eq hi, nth_eq hj]; exact e⟩
    rw [this] at hh
    cases hh
  have hnd2 : (allL n).Nodup := by
    rw [List.nodup_iff_pairwise_ne]
    exact (allL_pair n).imp (fun h => by omega)
  have hsub : ∀ z, z ∈ xs → z ∈ allL n := by
    intro z hz
    obtain ⟨i, hi, rfl⟩ := List.mem_iff_getElem.1 hz
    have := (h.2 i hi).1
    rw [nth_eq hi] at this
    have h2 : 0 ≤ xs[i] ∧ xs[i] ≤ (n : Int) - 1 := by simpa [inB] using this
    exact (allL_mem _ _).2 ⟨xs[i].toNat, by omega, by omega⟩
  rw [List.perm_ext_iff_of_nodup hnd hnd2]
  intro z
  refine ⟨hsub z, fun hz => ?_⟩
  rcases Classical.em (z ∈ xs) with h1 | h1
  · exact h1
  · exfalso
    have h3 : (z :: xs).Nodup := List.nodup_cons.2 ⟨h1, hnd⟩
    have h4 : (z :: xs) ⊆ allL n := by
      intro y hy
      rcases List.mem_cons.1 hy with rfl | hy
      · exact hz
      · exact hsub y hy
    have := h3.length_le_of_subset h4
    rw [List.length_cons, allL_len, h.1] at this
    omega
end Go.Proofs.Ytohjfcfcopbmoaa
