/- Walks: DistancesFrom, of the program. -/
import Derived.Test.YtmfolclpddoplaaQX2
import Derived.Test.YtmfolclpddoplaaQLater

namespace Go.Proofs.Ytmfolclpddoplaa
open Go.RowKit Go.Shelf
attribute [local go_sem] Oper.semAt_some

theorem calls_marks {P : Program} {f : FuncId} {fn : Func} {c : Code} {args : Array Value} {w : World} {R : Ending → World → Prop}
    (hf : P.funcs[f]? = some fn) (hb : fn.body = some c)
    (h : c.wp P (bodyPostM Fence.wide 9 P fn R) { tmps := args ++ Array.replicate (fn.ntmps - args.size) undef, defers := [] } w) : Calls P f args w R :=
  (callsIn_wide (n := 9)).1 (callsIn_of_wp_marks hf hb trivial (wpIn_wide.2 h))

theorem nearM_eq {L : List (List Int)} (hG : GraphP L) : nearM (rowM L) = nearB L := by
  funext a b
  show (rowM L a).testBit b = hasB (nthR L a) (b : Int)
  have hs : ∀ v, v < L.length → SetP (nthR L v) L.length := fun v hv => (hG.2.1 v hv).1
  have hz := hG.1
  by_cases ha : a < L.length
  · have h1 := rowM_edge hG ha (b : Int)
    by_cases hb : b < 16
    · have e : hasM (rowM L a) (b : Int) = (rowM L a).testBit b := by unfold hasM; rw [decide_eq_true (by omega)]; simp
      rw [← e, rowM_has hs ha hb]
    · have e1 : (rowM L a).testBit b = false := Nat.testBit_lt_two_pow (Nat.lt_of_lt_of_le (rowM_lt (by omega) hs a) (Nat.pow_le_pow_right (n := 2) (by omega) (by omega : 16 ≤ b)))
      have e2 : hasM (rowM L a) (b : Int) = false := by unfold hasM; rw [decide_eq_false (by omega)]; rfl
      rw [e1]
      cases hh : hasB (nthR L a) (b : Int) with
      | false => rfl
      | true =>
        obtain ⟨i, hi, e⟩ := (hasB_iff _ _).1 hh
        have := (hs a ha i hi).2.1
        omega
  · have e1 : rowM L a = 0 := by unfold rowM; rw [if_neg ha]
    have e2 : nthR L a = [] := by unfold nthR; rw [List.getD_eq_getElem?_getD, List.getElem?_eq_none (by omega)]; rfl
    rw [e1, e2]
    simp [hasB]
theorem bitS_whole (n : Nat) : bitS (2 ^ n - 1) = allS n := by
  funext u
  show (2 ^ n - 1).testBit u = allS n u
  rw [whole_bit, Bool.eq_iff_iff, decide_eq_true_iff, allS_iff]

open Classical in
/-- The distances of those that have come, -1 for all others. -/
noncomputable def doneTo (A : Nat → Nat → Bool) (S : Nat → Bool) (v : Nat) (pre : List (Nat × Nat)) (j : Nat) : Int := if ∃ d, (j, d) ∈ pre then dOf A S v j else -1
open Classical in
theorem doneTo_nil (A : Nat → Nat → Bool) (S : Nat → Bool) (v j : Nat) : doneTo A S v [] j = -1 := by unfold doneTo; rw [if_neg (by simp)]
open Classical in
theorem doneTo_at {A : Nat → Nat → Bool} {S : Nat → Bool} {v : Nat} {pre : List (Nat × Nat)} {p : Nat × Nat} (h : AtD A S v p.2 p.1) : doneTo A S v (pre ++ [p]) p.1 = (p.2 : Int) := by
  unfold doneTo
  rw [if_pos ⟨p.2, by simp⟩]
  exact dOf_at h
open Classical in
theorem doneTo_other {A : Nat → Nat → Bool} {S : Nat → Bool} {v : Nat} {pre : List (Nat × Nat)} {p : Nat × Nat} {j : Nat} (h : j ≠ p.1) : doneTo A S v (pre ++ [p]) j = doneTo A S v pre j := by
  unfold doneTo
  have : (∃ d, (j, d) ∈ pre ++ [p]) ↔ ∃ d, (j, d) ∈ pre := by
    constructor
    · rintro ⟨d, hd⟩
      rcases List.mem_append.1 hd with hd | hd
      · exact ⟨d, hd⟩
      · simp at hd; rw [← hd] at h; exact absurd rfl h
    · rintro ⟨d, hd⟩; exact ⟨d, List.mem_append.2 (.inl hd)⟩
  simp only [this]
open Classical in
theorem doneTo_all {A : Nat → Nat → Bool} {S : Nat → Bool} {v : Nat} (hS : ∀ u, S u = true → u < 16) (j : Nat) : doneTo A S v (visTo A S v 17) j = dOf A S v j := by
  unfold doneTo
  by_cases h : ∃ d, (j, d) ∈ visTo A S v 17
  · rw [if_pos h]
  · rw [if_neg h]
    symm
    refine dOf_none (fun k hk => h ⟨k, (visTo_mem hS).2 ⟨?_, hk⟩⟩)
    have := atD_lt hS hk
    show k < 17
    omega

end Go.Proofs.Ytmfolclpddoplaa
