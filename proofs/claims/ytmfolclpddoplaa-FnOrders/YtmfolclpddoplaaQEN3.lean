/- The texts EN3, EN4, joined. -/
import Derived.Test.YtmfolclpddoplaaQEN1
import Derived.Test.YtmfolclpddoplaaQX2
import Derived.Test.YtmfolclpddoplaaQM1
import Derived.Test.YtmfolclpddoplaaQF1

/- Walks: the iterator over all lists. -/
namespace Go.Proofs.Ytmfolclpddoplaa
open Go.RowKit Go.Shelf

theorem made_row (w : World) (B sz : Nat) (hB : B ≤ w.heap.size) (hm : sz ≤ maxLen) : OwnRow 2 (w.alloc (.cells (madeCells #[.int .i64 0] sz) 2)) B (.slice (some ⟨w.heap.size, 0, none⟩) 0 sz) [] :=
  ⟨by simp, by simp, Or.inr ⟨w.heap.size, sz, madeCells #[.int .i64 0] sz, rfl, hB, World.alloc_heap_new w _, Nat.zero_le _, hm, by simp [size_madeCells], fun i hi => absurd hi (by simp)⟩⟩

end Go.Proofs.Ytmfolclpddoplaa

/- Walks: who is not in a list, who has room behind it; the choice by which a graph stands for a pattern. -/
namespace Go.Proofs.Ytmfolclpddoplaa
open Go.RowKit Go.Shelf

/-- All of n vertices but the first k of xs. -/
def unTo (n : Nat) (xs : List Int) : Nat → Nat
  | 0 => 2 ^ n - 1
  | k + 1 => clrM (unTo n xs k) (2 ^ (nth xs k).toNat)
theorem unTo_lt {n : Nat} (hn : n ≤ 16) (xs : List Int) (k : Nat) : unTo n xs k < 65536 := by
  induction k with
  | zero => exact whole_lt hn
  | succ k ih => exact clrM_lt _ ih
theorem unTo_bit {n : Nat} (hn : n ≤ 16) {xs : List Int} (hx : InL xs) {k : Nat} (hk : k ≤ xs.length) (v : Nat) : (unTo n xs k).testBit v = true ↔ v < n ∧ ∀ j, j < k → nth xs j ≠ (v : Int) := by
  induction k with
  | zero => rw [unTo, whole_bit, decide_eq_true_iff]; exact ⟨fun h => ⟨h, fun j hj => absurd hj (by omega)⟩, fun h => h.1⟩
  | succ k ih =>
    have hxk := hx k (by omega)
    rw [unTo, clrM_bit (unTo_lt hn xs k) (pow_lt16 (by omega)), Bool.and_eq_true, ih (by omega), Nat.testBit_two_pow, Bool.not_eq_true', decide_eq_false_iff_not]
    constructor
    · rintro ⟨⟨h1, h2⟩, h3⟩
      refine ⟨h1, fun j hj => ?_⟩
      rcases Nat.lt_succ_iff_lt_or_eq.1 hj with h | rfl
      · exact h2 j h
      · omega
    · rintro ⟨h1, h2⟩
      exact ⟨⟨h1, fun j hj => h2 j (by omega)⟩, fun e => h2 k (by omega) (by omega)⟩
/-- All of n vertices but those of xs. -/
def unN (n : Nat) (xs : List Int) : Nat := unTo n xs xs.length
theorem unN_bit {n : Nat} (hn : n ≤ 16) {xs : List Int} (hx : InL xs) (v : Nat) : (unN n xs).testBit v = true ↔ v < n ∧ hasB xs (v : Int) = false := by
  unfold unN
  rw [unTo_bit hn hx (Nat.le_refl _), ← Bool.not_eq_true, hasB_iff]
  exact ⟨fun h => ⟨h.1, fun ⟨j, hj, e⟩ => h.2 j hj e⟩, fun h => ⟨h.1, fun j hj e => h.2 ⟨j, hj, e⟩⟩⟩

/-- By the masks of a pattern: is the first near the second? -/
def patM (Mp : Nat → Nat) (i w : Nat) : Bool := (Mp w).testBit i
/-- By the masks of a graph. -/
def hostM (M : Nat → Nat) (a v : Nat) : Bool := (M a).testBit v
/-- Who has room, as far as the first k of xs tell. -/
def rmTo (Mp : Nat → Nat) (n : Nat) (M : Nat → Nat) (xs : List Int) (w k : Nat) : Nat := pm (fun v => decide (v < n) && fitTo (patM Mp) (hostM M) xs w v k)
theorem rmTo_lt (Mp : Nat → Nat) (n : Nat) (M : Nat → Nat) (xs : List Int) (w k : Nat) : rmTo Mp n M xs w k < 65536 := pm_lt _
theorem rmTo_bit {Mp : Nat → Nat} {n : Nat} {M : Nat → Nat} {xs : List Int} {w k : Nat} (hn : n ≤ 16) (v : Nat) : (rmTo Mp n M xs w k).testBit v = true ↔ v < n ∧ fitTo (patM Mp) (hostM M) xs w v k = true := by
  unfold rmTo
  rw [pm_bit, Bool.and_eq_true, Bool.and_eq_true, decide_eq_true_iff, decide_eq_true_iff]
  exact ⟨fun h => h.2, fun h => ⟨by omega, h⟩⟩
theorem rmTo_zero {Mp : Nat → Nat} {n : Nat} {M : Nat → Nat} {xs : List Int} {w : Nat} (hn : n ≤ 16) (hx : InL xs) : unN n xs = rmTo Mp n M xs w 0 := bit_ext fun v => by
  rw [unN_bit hn hx, rmTo_bit hn, fitTo, Bool.not_eq_true']
theorem rmTo_and {Mp : Nat → Nat} {n : Nat} {M : Nat → Nat} {xs : List Int} {w k : Nat} (hn : n ≤ 16) (h : (Mp w).testBit k = true) : rmTo Mp n M xs w k &&& M (nth xs k).toNat = rmTo Mp n M xs w (k + 1) := bit_ext fun v => by
  rw [Nat.testBit_and, Bool.and_eq_true, rmTo_bit hn, rmTo_bit hn, fitTo, Bool.and_eq_true, beq_iff_eq, show patM Mp k w = true from h]
  exact ⟨fun h => ⟨h.1.1, h.1.2, h.2.symm⟩, fun h => ⟨⟨h.1, h.2.1⟩, h.2.2.symm⟩⟩
theorem rmTo_not {Mp : Nat → Nat} {n : Nat} {M : Nat → Nat} (hM : ∀ i, M i < 65536) {xs : List Int} {w k : Nat} (hn : n ≤ 16) (h : (Mp w).testBit k = false) : clrM (rmTo Mp n M xs w k) (M (nth xs k).toNat) = rmTo Mp n M xs w (k + 1) := bit_ext fun v => by
  rw [clrM_bit (rmTo_lt _ _ _ _ _ _) (hM _), Bool.and_eq_true, rmTo_bit hn, rmTo_bit hn, fitTo, Bool.and_eq_true, beq_iff_eq, show patM Mp k w = false from h, Bool.not_eq_true']
  exact ⟨fun h => ⟨h.1.1, h.1.2, h.2.symm⟩, fun h => ⟨⟨h.1, h.2.1⟩, h.2.2.symm⟩⟩

theorem NetAt.but {T : Nat → Prop} {w w' : World} {b n : Nat} {M : Nat → Nat} (h : NetAt w b n M) (hb : KeepsBut T w w') (hT : ¬ T b) : NetAt w' b n M := ⟨hb.cell hT h.1, fun i hi => hb.cell hT (h.2 i hi)⟩

end Go.Proofs.Ytmfolclpddoplaa
