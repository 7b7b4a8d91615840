/- Walks: the greatest cliques of the model. -/
import Derived.Test.YtohjfcfcopbmoaaEC2
import Derived.Test.YtohjfcfcopbmoaaQER6
import Derived.Test.YtohjfcfcopbmoaaQER1
import Derived.Test.YtohjfcfcopbmoaaQC1
import Derived.BigQuiet
import Derived.Test.YtohjfcfcopbmoaaQGrid
import Derived.Test.YtohjfcfcopbmoaaQU2
import Derived.Test.YtohjfcfcopbmoaaM7
import Derived.Test.YtohjfcfcopbmoaaQM1
import Derived.Deep.RegionHeld3

namespace Go.Proofs.Ytohjfcfcopbmoaa
open Go.RowKit

/-- A list of vertices below n. -/
def VtxL (n : Nat) (xs : List Int) : Prop := ∀ x ∈ xs, 0 ≤ x ∧ x < (n : Int)
theorem VtxL.sub {n : Nat} {xs ys : List Int} (h : VtxL n xs) (hs : ∀ x ∈ ys, x ∈ xs) : VtxL n ys := fun x hx => h x (hs x hx)
theorem nth_dropL {xs : List Int} {j i : Nat} : nth (xs.drop j) i = nth xs (j + i) := by simp [nth]
theorem RowAt.dropped {w : World} {b o c o' n' c' : Nat} {xs : List Int} {n : Nat} (h : RowAt w (.slice (some ⟨b, o, none⟩) n c) xs) (hc : ∀ i, i < xs.length → w.cell? ⟨b, o + i, none⟩ = some (.int .i64 (nth xs i))) (j : Nat) (hn : n' = xs.length - j) (ho : n' ≠ 0 → o' = o + j) (h1 : n' ≤ c') (h2 : c' ≤ maxLen) :
    RowAt w (.slice (some ⟨b, o', none⟩) n' c') (xs.drop j) := by
  have e : (xs.drop j).length = n' := by rw [List.length_drop, hn]
  refine ⟨fun x hx => h.1 x (List.mem_of_mem_drop hx), by rw [e]; omega, Or.inr ⟨b, o', c', by rw [e], by omega, h2, fun i hi => ?_⟩⟩
  rw [nth_dropL, ho (by omega), Nat.add_assoc]
  exact hc (j + i) (by omega)
end Go.Proofs.Ytohjfcfcopbmoaa
