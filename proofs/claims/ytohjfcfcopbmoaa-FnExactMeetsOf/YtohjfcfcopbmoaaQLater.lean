/- The texts Later, C4, joined. -/
import Derived.Test.YtohjfcfcopbmoaaBase
import Derived.Test.YtohjfcfcopbmoaaC1
import Derived.Deep.RegionHeld3

/- A class of worlds for regions that draw their order and call what makes memory but hands back a plain value: all worlds in which nothing that was there has turned. -/
namespace Go.Proofs.Ytohjfcfcopbmoaa
open Go.RowKit

/-- A world in which all of w is as it was. -/
def Later (w : World) : Type := { w' : World // Below w.heap.size w w' }
instance (w : World) : Nonempty (Later w) := ⟨⟨w, Below.refl _ _⟩⟩
def Later.at {w : World} (x : Later w) : World := x.1
theorem Later.bel {w : World} (x : Later w) : Below w.heap.size w x.at := x.2
theorem Later.cell {w : World} {a : Addr} {v : Value} (h : w.cell? a = some v) (x : Later w) : x.at.cell? a = some v := cell_keep x.bel h

end Go.Proofs.Ytohjfcfcopbmoaa

/- Walks: OrderOk. -/
namespace Go.Proofs.Ytohjfcfcopbmoaa
open Go.RowKit

theorem nth_take {xs : List Int} {k i : Nat} (h : i < k) : nth (xs.take k) i = nth xs i := by simp [nth, h]
theorem RowAt.take {w : World} {b o c : Nat} {xs : List Int} {n : Nat} (h : RowAt w (.slice (some ⟨b, o, none⟩) n c) xs) (hc : ∀ i, i < xs.length → w.cell? ⟨b, o + i, none⟩ = some (.int .i64 (nth xs i))) (hcm : c ≤ maxLen) (hcx : xs.length ≤ c) (k : Nat) (hk : k ≤ xs.length) :
    RowAt w (.slice (some ⟨b, o, none⟩) k c) (xs.take k) := by
  have e : (xs.take k).length = k := by simp; omega
  refine ⟨fun x hx => h.1 x (List.mem_of_mem_take hx), by rw [e]; exact Nat.le_trans hk h.2.1, Or.inr ⟨b, o, c, by rw [e], by omega, hcm, fun i hi => ?_⟩⟩
  rw [e] at hi
  rw [nth_take hi]
  exact hc i (by omega)

end Go.Proofs.Ytohjfcfcopbmoaa
