/- Plain facts: the greatest cliques that hold a set, one after another. -/
import Derived.Test.YtmfolclpddoplaaEC3

namespace Go.Proofs.Ytmfolclpddoplaa
open Go.RowKit

/-- Those of a list that are near v. -/
def meetA (A : Nat → Nat → Bool) (xs : List Int) (v : Int) : List Int := xs.filter (fun x => A v.toNat x.toNat)
/-- The greatest cliques that hold a set and others of those left alone; none of out may be put to them. -/
def cqF (A : Nat → Nat → Bool) : Nat → List Int → List Int → List Int → List (List Int)
  | 0, _, _, _ => []
  | f + 1, set, left, out => if left = [] ∧ out = [] then [set] else (List.range left.length).flatMap (fun i => cqF A f (set ++ [nth left i]) (meetA A (left.drop (i + 1)) (nth left i)) (meetA A (out ++ left.take i) (nth left i)))
/-- .. of the first k of those left. -/
def cqTo (A : Nat → Nat → Bool) (f : Nat) (set left out : List Int) (k : Nat) : List (List Int) :=
  (List.range k).flatMap (fun i => cqF A f (set ++ [nth left i]) (meetA A (left.drop (i + 1)) (nth left i)) (meetA A (out ++ left.take i) (nth left i)))
theorem cqTo_succ (A : Nat → Nat → Bool) (f : Nat) (set left out : List Int) (k : Nat) : cqTo A f set left out (k + 1) = cqTo A f set left out k ++ cqF A f (set ++ [nth left k]) (meetA A (left.drop (k + 1)) (nth left k)) (meetA A (out ++ left.take k) (nth left k)) := by
  unfold cqTo
  rw [List.range_succ, List.flatMap_append]
  simp
theorem cqF_leaf (A : Nat → Nat → Bool) (f : Nat) (set : List Int) : cqF A (f + 1) set [] [] = [set] := by rw [cqF, if_pos ⟨rfl, rfl⟩]
theorem cqF_all {A : Nat → Nat → Bool} {f : Nat} {set left out : List Int} (h : ¬ (left = [] ∧ out = [])) : cqF A (f + 1) set left out = cqTo A f set left out left.length := by rw [cqF, if_neg h]; rfl
theorem meetA_len (A : Nat → Nat → Bool) (xs : List Int) (v : Int) : (meetA A xs v).length ≤ xs.length := List.length_filter_le _ _
theorem meetA_mem {A : Nat → Nat → Bool} {xs : List Int} {v x : Int} : x ∈ meetA A xs v ↔ x ∈ xs ∧ A v.toNat x.toNat = true := by
  unfold meetA
  rw [List.mem_filter]
/-- If someone of out is near all that are left, nothing is found. -/
theorem cqF_none {A : Nat → Nat → Bool} (hs : ∀ i j, A i j = A j i) : ∀ (f : Nat) (set left out : List Int), (∃ v ∈ out, ∀ u ∈ left, A v.toNat u.toNat = true) → cqF A f set left out = []
  | 0, _, _, _, _ => rfl
  | f + 1, set, left, out, ⟨v, hv, hl⟩ => by
    rw [cqF_all (fun h => by rw [h.2] at hv; cases hv)]
    unfold cqTo
    rw [List.flatMap_eq_nil_iff]
    intro i hi
    rw [List.mem_range] at hi
    refine cqF_none hs f _ _ _ ⟨v, meetA_mem.2 ⟨List.mem_append_left _ hv, ?_⟩, fun u hu => ?_⟩
    · rw [hs]; exact hl _ (nth_mem hi)
    · exact hl _ (List.mem_of_mem_drop (meetA_mem.1 hu).1)

end Go.Proofs.Ytmfolclpddoplaa
