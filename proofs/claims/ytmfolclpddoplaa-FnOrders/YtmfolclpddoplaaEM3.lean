/- Walks: small graphs; the model's EmbedsIn, AlikeIn, FreeOf. -/
import Derived.Test.YtmfolclpddoplaaQEM1
import Derived.Test.YtmfolclpddoplaaQEN7

namespace Go.Proofs.Ytmfolclpddoplaa
open Go.RowKit

/-- At most eight vertices. -/
def SmallP (L : List (List Int)) : Prop := GraphP L ∧ L.length ≤ 8
instance (L : List (List Int)) : Decidable (SmallP L) := by unfold SmallP; infer_instance
/-- The lists by which Lg stands for Lp. -/
def stands (Lp Lg : List (List Int)) : List (List Int) := fitsL (adjB Lp) Lp.length Lg.length (adjB Lg)
def embL (Lp Lg : List (List Int)) : List Int := if SmallP Lp ∧ GraphP Lg then firstL (stands Lp Lg) else []
def embB (Lp Lg : List (List Int)) : Bool := decide (SmallP Lp ∧ GraphP Lg ∧ stands Lp Lg ≠ [])
def freeB (Lg Lp : List (List Int)) : Bool := decide (GraphP Lg ∧ SmallP Lp ∧ stands Lp Lg = [])
def alL (La Lb : List (List Int)) : List Int := if SmallP La ∧ SmallP Lb ∧ La.length = Lb.length then firstL (stands Lb La) else []
def alB (La Lb : List (List Int)) : Bool := decide (SmallP La ∧ SmallP Lb ∧ La.length = Lb.length ∧ stands Lb La ≠ [])
theorem stands_len {Lp Lg : List (List Int)} {y : List Int} (h : y ∈ stands Lp Lg) : y.length = Lp.length := by have := enum_len h; simpa using this
theorem first_len {Lp Lg : List (List Int)} : (firstL (stands Lp Lg)).length ≤ Lp.length := by
  by_cases h : stands Lp Lg = []
  · rw [h]; simp [firstL]
  · rw [stands_len (firstL_mem h)]; exact Nat.le_refl _
theorem first_pos {Lp Lg : List (List Int)} (hp : 1 ≤ Lp.length) : decide ((0 : Int) < ((firstL (stands Lp Lg)).length : Int)) = decide (stands Lp Lg ≠ []) := by
  by_cases h : stands Lp Lg = []
  · rw [decide_eq_false (p := stands Lp Lg ≠ []) (fun hn => hn h), h]; simp [firstL]
  · rw [decide_eq_true (p := stands Lp Lg ≠ []) h, decide_eq_true_iff, stands_len (firstL_mem h)]; omega
theorem embL_small (Lp Lg : List (List Int)) : (embL Lp Lg).length ≤ 1048576 := by
  unfold embL
  split
  · rename_i h; have := first_len (Lp := Lp) (Lg := Lg); have := h.1.2; omega
  · simp
theorem alL_small (La Lb : List (List Int)) : (alL La Lb).length ≤ 1048576 := by
  unfold alL
  split
  · rename_i h; have := first_len (Lp := Lb) (Lg := La); have := h.2.1.2; omega
  · simp

theorem empty_own (w : World) (B : Nat) (hB : B ≤ w.heap.size) : OwnRow 2 (w.alloc (.cells #[] 2)) B (.slice (some ⟨w.heap.size, 0, none⟩) 0 0) [] :=
  ⟨by simp, by simp, .inr ⟨w.heap.size, 0, #[], rfl, hB, heap_alloc_new w _, Nat.zero_le _, Nat.zero_le _, rfl, fun i hi => absurd hi (by simp)⟩⟩

end Go.Proofs.Ytmfolclpddoplaa
