/- Walks: the model's search for a list by which a graph stands for a pattern. -/
import Derived.Test.YtgnmggjihkfnoaaEM1
import Derived.Test.YtgnmggjihkfnoaaQU2
import Derived.Test.YtgnmggjihkfnoaaQLater
import Derived.Deep.RegionHeld3

namespace Go.Proofs.Ytgnmggjihkfnoaa
open Go.RowKit

theorem fitTo_mono {P A : Nat → Nat → Bool} {xs : List Int} {w v j : Nat} (h : fitTo P A xs w v j = false) : ∀ k, j ≤ k → fitTo P A xs w v k = false := by
  intro k hk
  induction k with
  | zero => obtain rfl : j = 0 := by omega
            exact h
  | succ k ih =>
    by_cases e : j = k + 1
    · subst e; exact h
    · rw [fitTo, ih (by omega)]; rfl
theorem next_bit {P A : Nat → Nat → Bool} {n : Nat} {xs : List Int} {v : Nat} (hn : n ≤ 16) : (nextN P n A xs).testBit v = true ↔ v < n ∧ fitTo P A xs xs.length v xs.length = true := by
  unfold nextN
  rw [roomN_bit hn, fitTo_iff]
theorem enum_none {C : List Int → Nat} {r : Nat} {xs : List Int} (h : ∀ u : Nat, u < 16 → (C xs).testBit u = true → enumL C r (xs ++ [(u : Int)]) = []) : enumL C (r + 1) xs = [] := by
  rw [enumL, List.flatMap_eq_nil_iff]
  intro v hv
  obtain ⟨u, hu, hb, rfl⟩ := (listM_mem _ _).1 hv
  exact h u hu hb
theorem enum_first {C : List Int → Nat} {r : Nat} {xs : List Int} {v : Nat} (hv16 : v < 16) (hv : (C xs).testBit v = true) (h : ∀ u : Nat, u < v → (C xs).testBit u = true → enumL C r (xs ++ [(u : Int)]) = []) (hne : enumL C r (xs ++ [(v : Int)]) ≠ []) :
    firstL (enumL C (r + 1) xs) = firstL (enumL C r (xs ++ [(v : Int)])) := by
  have hin := firstL_mem hne
  refine firstL_eq (enum_sorted _ _) ?_ ?_
  · rw [enumL, List.mem_flatMap]
    exact ⟨(v : Int), (listM_mem _ _).2 ⟨v, hv16, hv, rfl⟩, hin⟩
  · intro z hz
    rw [enumL, List.mem_flatMap] at hz
    obtain ⟨x, hx, hz⟩ := hz
    obtain ⟨u, hu, hb, rfl⟩ := (listM_mem _ _).1 hx
    rcases Nat.lt_trichotomy u v with hlt | rfl | hlt
    · rw [h u hlt hb] at hz; simp at hz
    · exact firstL_least (enum_sorted _ _) hz
    · right
      obtain ⟨a1, a2, _⟩ := enum_mem.1 hin
      obtain ⟨b1, b2, _⟩ := enum_mem.1 hz
      rw [List.length_append, List.length_singleton] at a1 a2 b1 b2
      have e1 : ∀ i, i < xs.length + 1 → nth (firstL (enumL C r (xs ++ [(v : Int)]))) i = nth (xs ++ [(v : Int)]) i := fun i hi => by rw [← a1, nth_take hi, a1]
      have e2 : ∀ i, i < xs.length + 1 → nth z i = nth (xs ++ [(u : Int)]) i := fun i hi => by rw [← b1, nth_take hi]
      refine ⟨xs.length, by omega, by omega, fun j hj => ?_, ?_⟩
      · rw [e1 j (by omega), e2 j (by omega), nth_app_lt hj, nth_app_lt hj]
      · rw [e1 _ (by omega), e2 _ (by omega), nth_app_at, nth_app_at]; omega

end Go.Proofs.Ytgnmggjihkfnoaa
