/- Walks: OrderOk. -/
import Derived.Test.YtjbfoiolcpigfaaDoorC3
import Derived.Test.YtjbfoiolcpigfaaDoorLater
import Derived.Deep.RegionHeld3
namespace Go.Proofs.YtjbfoiolcpigfaaDoor
open Go.RowKit

/-- Element k is a vertex below n that is not among the first k. -/
def OrdAt (xs : List Int) (n : Nat) (k : Nat) : Prop := inB (nth xs k) 0 ((n : Int) - 1) = true ∧ hasB (xs.take k) (nth xs k) = false
instance (xs : List Int) (n k : Nat) : Decidable (OrdAt xs n k) := by unfold OrdAt; infer_instance
/-- The list names each of n vertices once. -/
def OrdP (xs : List Int) (n : Nat) : Prop := xs.length = n ∧ ∀ k, k < xs.length → OrdAt xs n k
instance (xs : List Int) (n : Nat) : Decidable (OrdP xs n) := by unfold OrdP; infer_instance

theorem nth_take {xs : List Int} {k i : Nat} (h : i < k) : nth (xs.take k) i = nth xs i := by simp [nth, h]
theorem hasB_take {xs : List Int} {k : Nat} (hk : k ≤ xs.length) (x : Int) : hasB (xs.take k) x = true ↔ ∃ j, j < k ∧ nth xs j = x := by
  rw [hasB_iff]
  constructor
  · rintro ⟨i, hi, e⟩
    have hi' : i < k := by simp at hi; omega
    exact ⟨i, hi', by rw [← nth_take hi']; exact e⟩
  · rintro ⟨i, hi, e⟩
    exact ⟨i, by simp; omega, by rw [nth_take hi]; exact e⟩

theorem RowAt.take {w : World} {b o c : Nat} {xs : List Int} {n : Nat} (h : RowAt w (.slice (some ⟨b, o, none⟩) n c) xs) (hc : ∀ i, i < xs.length → w.cell? ⟨b, o + i, none⟩ = some (.int .i64 (nth xs i))) (hcm : c ≤ maxLen) (hcx : xs.length ≤ c) (k : Nat) (hk : k ≤ xs.length) :
    RowAt w (.slice (some ⟨b, o, none⟩) k c) (xs.take k) := by
  have e : (xs.take k).length = k := by simp; omega
  refine ⟨fun x hx => h.1 x (List.mem_of_mem_take hx), by rw [e]; exact Nat.le_trans hk h.2.1, Or.inr ⟨b, o, c, by rw [e], by omega, hcm, fun i hi => ?_⟩⟩
  rw [e] at hi
  rw [nth_take hi]
  exact hc i (by omega)

end Go.Proofs.YtjbfoiolcpigfaaDoor
