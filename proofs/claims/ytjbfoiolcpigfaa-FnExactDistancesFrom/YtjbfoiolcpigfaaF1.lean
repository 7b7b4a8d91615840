/- Walks: the model's copy of a row, and a number put into a row. -/
import Derived.Test.YtjbfoiolcpigfaaC1
import Derived.Test.YtjbfoiolcpigfaaGrid
import Derived.Laws.AppendOwnNone
namespace Go.Proofs.Ytjbfoiolcpigfaa
open Go.RowKit

theorem row_news {w : World} {b o : Nat} {xs : List Int} (hc : ∀ i, i < xs.length → w.cell? ⟨b, o + i, none⟩ = some (.int .i64 (nth xs i))) : ∀ j u, (xs.map (Value.int .i64))[j]? = some u → w.cell? ((⟨b, o, none⟩ : Addr).add j) = some u := by
  intro j u hj
  simp at hj
  obtain ⟨x, hx, rfl⟩ := hj
  obtain ⟨hjl, rfl⟩ := List.getElem?_eq_some_iff.1 hx
  have := hc j hjl
  rw [nth_eq hjl] at this
  unfold Addr.add
  split
  · rename_i e; subst e; exact this
  · exact this
theorem ints_one (xs : List Int) : ∀ u ∈ xs.map (Value.int .i64), u.oneCell' = true := by
  intro u hu
  simp at hu
  obtain ⟨x, _, rfl⟩ := hu
  rfl

end Go.Proofs.Ytjbfoiolcpigfaa
