/- Walks: what can be reached. -/
import Derived.Test.YtojbaepcflkgeaaQY1

namespace Go.Proofs.Ytojbaepcflkgeaa
open Go.RowKit Go.Shelf
attribute [local go_sem] Oper.semAt_some

/-- The mask of those that have come. -/
def gotN (pre : List (Nat × Nat)) : Nat := pre.foldl (fun m p => m ||| 2 ^ p.1) 0
theorem gotN_snoc (pre : List (Nat × Nat)) (p : Nat × Nat) : gotN (pre ++ [p]) = gotN pre ||| 2 ^ p.1 := by simp [gotN]
theorem gotN_bit (pre : List (Nat × Nat)) (u : Nat) : (gotN pre).testBit u = true ↔ ∃ p, p ∈ pre ∧ p.1 = u := by
  have key : ∀ (pre : List (Nat × Nat)) (m : Nat), (pre.foldl (fun m p => m ||| 2 ^ p.1) m).testBit u = true ↔ m.testBit u = true ∨ ∃ p, p ∈ pre ∧ p.1 = u := by
    intro pre
    induction pre with
    | nil => intro m; simp
    | cons q pre ih =>
      intro m
      rw [List.foldl_cons, ih, Nat.testBit_or, Nat.testBit_two_pow, Bool.or_eq_true, decide_eq_true_iff]
      constructor
      · rintro ((h | h) | ⟨p, hp, e⟩)
        · exact .inl h
        · exact .inr ⟨q, by simp, h⟩
        · exact .inr ⟨p, by simp [hp], e⟩
      · rintro (h | ⟨p, hp, e⟩)
        · exact .inl (.inl h)
        · rcases List.mem_cons.1 hp with rfl | hp
          · exact .inl (.inr e)
          · exact .inr ⟨p, hp, e⟩
  unfold gotN
  rw [key]
  simp
open Classical in
/-- The mask of all that can be reached. -/
noncomputable def reachN (A : Nat → Nat → Bool) (S : Nat → Bool) (v : Nat) : Nat := pm (fun u => decide (∃ k, AtD A S v k u))
theorem reachN_lt (A : Nat → Nat → Bool) (S : Nat → Bool) (v : Nat) : reachN A S v < 65536 := pm_lt _
open Classical in
theorem reachN_bit {A : Nat → Nat → Bool} {S : Nat → Bool} {v : Nat} (hS : ∀ u, S u = true → u < 16) (u : Nat) : (reachN A S v).testBit u = true ↔ ∃ k, AtD A S v k u := by
  unfold reachN
  rw [pm_bit, Bool.and_eq_true, decide_eq_true_iff, decide_eq_true_iff]
  exact ⟨fun h => h.2, fun h => ⟨hS u (wk_in h.choose_spec.1), h⟩⟩
theorem gotN_all {A : Nat → Nat → Bool} {S : Nat → Bool} {v : Nat} (hS : ∀ u, S u = true → u < 16) : gotN (visTo A S v 17) = reachN A S v := bit_ext fun u => by
  rw [gotN_bit, reachN_bit hS]
  constructor
  · rintro ⟨p, hp, rfl⟩
    exact ⟨_, ((visTo_mem hS).1 hp).2⟩
  · rintro ⟨k, hk⟩
    have := atD_lt hS hk
    exact ⟨(u, k), (visTo_mem hS).2 ⟨by show k < 17; omega, hk⟩, rfl⟩

end Go.Proofs.Ytojbaepcflkgeaa
