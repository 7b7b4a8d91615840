/- The texts Y1, X4, joined. -/
import Derived.Test.YtojbaepcflkgeaaQX2
import Derived.Lib.TrailingZeros
import Derived.Test.YtojbaepcflkgeaaQLater

/- Walks: the least vertex of a mask, by the library's table. -/
namespace Go.Proofs.Ytojbaepcflkgeaa
open Go.RowKit

/-- The library's table lies where the program has it. -/
def TabAt (w : World) : Prop := ∀ i, i < Lib.deBruijn32tab.length → w.cell? ⟨0, i, none⟩ = some (.int .u8 (Lib.deBruijn32tab.getD i 0 : Nat))
theorem TabAt.keep {w w' : World} (h : TabAt w) (hb : Below w.heap.size w w') : TabAt w' := fun i hi => cell_keep hb (h i hi)
theorem TabAt.lt {w : World} (h : TabAt w) : 0 < w.heap.size := block_lt_of_cell (h 0 (by decide))
theorem TabAt.keepB {w w' : World} {B : Nat} (h : TabAt w) (hb : Below B w w') (hB : 0 < B) : TabAt w' := fun i hi => by rw [hb.cell hB]; exact h i hi

/-- The least bit of a mask. -/
def leastM (M : Nat) : Nat := Lib.ctz 32 M
theorem leastM_spec {M : Nat} (h0 : M ≠ 0) (hM : M < 65536) : leastM M < 16 ∧ M.testBit (leastM M) = true ∧ ∀ j, j < leastM M → M.testBit j = false := by
  unfold leastM Lib.ctz
  rw [if_neg h0]
  obtain ⟨m, hm, hk⟩ := Lib.ctzFrom_spec 32 M (by omega) (by omega)
  generalize Lib.ctzFrom 32 M = k at *
  have hb : ∀ i, M.testBit i = (decide (k ≤ i) && (2 * m + 1).testBit (i - k)) := fun i => by rw [hm, Nat.mul_comm, Nat.testBit_mul_two_pow]
  have h2 : M.testBit k = true := by rw [hb]; simp [Nat.testBit_zero]
  refine ⟨?_, h2, fun j hj => by rw [hb]; simp; omega⟩
  apply Nat.lt_of_not_le
  intro hle
  rw [Nat.testBit_lt_two_pow (Nat.lt_of_lt_of_le hM (Nat.pow_le_pow_right (n := 2) (by omega) hle : 2 ^ 16 ≤ 2 ^ k))] at h2
  cases h2

theorem tz_key (x a : Nat) (hx : x < 65536) (hx0 : x ≠ 0) (hlow : x &&& (4294967296 - x) = a) :
    bits BinOp.and IntKind.u32 (x : Int) (-(x : Int) % 4294967296) * 125613361 % 4294967296 / 134217728 = ((a * 125613361 % 4294967296 / 134217728 : Nat) : Int) := by
  have e1 : -(x : Int) % 4294967296 = ((4294967296 - x : Nat) : Int) := by omega
  rw [e1, u32_and_nat x _ (by omega) (by omega), hlow]
  omega

end Go.Proofs.Ytojbaepcflkgeaa

/- Walks: DistancesFrom, of the program. -/
namespace Go.Proofs.Ytojbaepcflkgeaa
open Go.RowKit Go.Shelf
attribute [local go_sem] Oper.semAt_some

theorem calls_marks {P : Program} {f : FuncId} {fn : Func} {c : Code} {args : Array Value} {w : World} {R : Ending → World → Prop}
    (hf : P.funcs[f]? = some fn) (hb : fn.body = some c)
    (h : c.wp P (bodyPostM Fence.wide 9 P fn R) { tmps := args ++ Array.replicate (fn.ntmps - args.size) undef, defers := [] } w) : Calls P f args w R :=
  (callsIn_wide (n := 9)).1 (callsIn_of_wp_marks hf hb trivial (wpIn_wide.2 h))

theorem nearM_eq {L : List (List Int)} (hG : GraphP L) : nearM (rowM L) = nearB L := by
  funext a b
  show (rowM L a).testBit b = hasB (nthR L a) (b : Int)
  have hs : ∀ v, v < L.length → SetP (nthR L v) L.length := fun v hv => (hG.2.1 v hv).1
  have hz := hG.1
  by_cases ha : a < L.length
  · have h1 := rowM_edge hG ha (b : Int)
    by_cases hb : b < 16
    · have e : hasM (rowM L a) (b : Int) = (rowM L a).testBit b := by unfold hasM; rw [decide_eq_true (by omega)]; simp
      rw [← e, rowM_has hs ha hb]
    · have e1 : (rowM L a).testBit b = false := Nat.testBit_lt_two_pow (Nat.lt_of_lt_of_le (rowM_lt (by omega) hs a) (Nat.pow_le_pow_right (n := 2) (by omega) (by omega : 16 ≤ b)))
      have e2 : hasM (rowM L a) (b : Int) = false := by unfold hasM; rw [decide_eq_false (by omega)]; rfl
      rw [e1]
      cases hh : hasB (nthR L a) (b : Int) with
      | false => rfl
      | true =>
        obtain ⟨i, hi, e⟩ := (hasB_iff _ _).1 hh
        have := (hs a ha i hi).2.1
        omega
  · have e1 : rowM L a = 0 := by unfold rowM; rw [if_neg ha]
    have e2 : nthR L a = [] := by unfold nthR; rw [List.getD_eq_getElem?_getD, List.getElem?_eq_none (by omega)]; rfl
    rw [e1, e2]
    simp [hasB]
theorem bitS_whole (n : Nat) : bitS (2 ^ n - 1) = allS n := by
  funext u
  show (2 ^ n - 1).testBit u = allS n u
  rw [whole_bit, Bool.eq_iff_iff, decide_eq_true_iff, allS_iff]

open Classical in
/-- The distances of those that have come, -1 for all others. -/
noncomputable def doneTo (A : Nat → Nat → Bool) (S : Nat → Bool) (v : Nat) (pre : List (Nat × Nat)) (j : Nat) : Int := if ∃ d, (j, d) ∈ pre then dOf A S v j else -1
open Classical in
theorem doneTo_nil (A : Nat → Nat → Bool) (S : Nat → Bool) (v j : Nat) : doneTo A S v [] j = -1 := by unfold doneTo; rw [if_neg (by simp)]
open Classical in
theorem doneTo_at {A : Nat → Nat → Bool} {S : Nat → Bool} {v : Nat} {pre : List (Nat × Nat)} {p : Nat × Nat} (h : AtD A S v p.2 p.1) : doneTo A S v (pre ++ [p]) p.1 = (p.2 : Int) := by
  unfold doneTo
  rw [if_pos ⟨p.2, by simp⟩]
  exact dOf_at h
open Classical in
theorem doneTo_other {A : Nat → Nat → Bool} {S : Nat → Bool} {v : Nat} {pre : List (Nat × Nat)} {p : Nat × Nat} {j : Nat} (h : j ≠ p.1) : doneTo A S v (pre ++ [p]) j = doneTo A S v pre j := by
  unfold doneTo
  have : (∃ d, (j, d) ∈ pre ++ [p]) ↔ ∃ d, (j, d) ∈ pre := by
    constructor
    · rintro ⟨d, hd⟩
      rcases List.mem_append.1 hd with hd | hd
      · exact ⟨d, hd⟩
      · simp at hd; rw [← hd] at h; exact absurd rfl h
    · rintro ⟨d, hd⟩; exact ⟨d, List.mem_append.2 (.inl hd)⟩
  simp only [this]
open Classical in
theorem doneTo_all {A : Nat → Nat → Bool} {S : Nat → Bool} {v : Nat} (hS : ∀ u, S u = true → u < 16) (j : Nat) : doneTo A S v (visTo A S v 17) j = dOf A S v j := by
  unfold doneTo
  by_cases h : ∃ d, (j, d) ∈ visTo A S v 17
  · rw [if_pos h]
  · rw [if_neg h]
    symm
    refine dOf_none (fun k hk => h ⟨k, (visTo_mem hS).2 ⟨?_, hk⟩⟩)
    have := atD_lt hS hk
    show k < 17
    omega

end Go.Proofs.Ytojbaepcflkgeaa
