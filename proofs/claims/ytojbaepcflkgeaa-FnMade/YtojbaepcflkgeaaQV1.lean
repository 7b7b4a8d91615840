/- The texts V1, V2, joined. -/
import Derived.Test.YtojbaepcflkgeaaQLater
import Derived.Test.YtojbaepcflkgeaaQE1

/- Walks: LoopOk, of the model. -/
namespace Go.Proofs.Ytojbaepcflkgeaa
open Go.RowKit

/-- Element k is a vertex, not among the first k, and a neighbour of the one before it. -/
def PathAt (L : List (List Int)) (xs : List Int) (k : Nat) : Prop :=
  inB (nth xs k) 0 ((L.length : Int) - 1) = true ∧ hasB (xs.take k) (nth xs k) = false ∧ (0 < k → hasB (nthR L (nth xs (k - 1)).toNat) (nth xs k) = true)
instance (L : List (List Int)) (xs : List Int) (k : Nat) : Decidable (PathAt L xs k) := by unfold PathAt; infer_instance
def PathP (L : List (List Int)) (xs : List Int) : Prop := ∀ k, k < xs.length → PathAt L xs k
instance (L : List (List Int)) (xs : List Int) : Decidable (PathP L xs) := by unfold PathP; infer_instance

end Go.Proofs.Ytojbaepcflkgeaa

/- Walks: LoopOk, of the model and of the program. -/
namespace Go.Proofs.Ytojbaepcflkgeaa
open Go.RowKit

/-- What LoopOk answers. -/
def loopB (L : List (List Int)) (xs : List Int) : Bool :=
  decide (GraphP L) && decide (3 ≤ xs.length) && decide (xs.length ≤ L.length) && decide (PathP L xs) && hasB (nthR L (nth xs 0).toNat) (nth xs (xs.length - 1))

/-- The element before element k, the last one before the first. -/
def prevL (xs : List Int) (k : Nat) : Int := if k = 0 then nth xs (xs.length - 1) else nth xs (k - 1)
/-- What the program asks of element k. -/
def GoodAt (L : List (List Int)) (xs : List Int) (k : Nat) : Prop := hasB (xs.take k) (nth xs k) = false ∧ edgeB L (prevL xs k) (nth xs k) = true

theorem hasM_take {xs : List Int} {k : Nat} (hk : k ≤ xs.length) (h : ∀ j, j < k → 0 ≤ nth xs j ∧ nth xs j < 16) (v : Int) : hasM (maskTo xs k) v = hasB (xs.take k) v := by
  have h3 := maskTo_bit xs k v.toNat (fun j hj => (h j hj).1)
  rw [Bool.eq_iff_iff, hasB_take hk]
  unfold hasM
  rw [Bool.and_eq_true, decide_eq_true_iff, h3]
  constructor
  · rintro ⟨_, j, hj, e⟩; exact ⟨j, hj, by omega⟩
  · rintro ⟨j, hj, e⟩; have := h j hj; exact ⟨by omega, j, hj, by omega⟩

theorem edgeB_in {L : List (List Int)} {u x : Int} (h : edgeB L u x = true) : GraphP L ∧ (0 ≤ u ∧ u < (L.length : Int)) ∧ (0 ≤ x ∧ x < (L.length : Int)) ∧ hasB (nthR L u.toNat) x = true := by
  unfold edgeB at h
  simp only [Bool.and_eq_true, decide_eq_true_iff, inB] at h
  obtain ⟨⟨⟨h1, h2⟩, h3⟩, h4⟩ := h
  exact ⟨h1, by omega, by omega, h4⟩
theorem edgeB_of {L : List (List Int)} {u x : Int} (hG : GraphP L) (hu : 0 ≤ u ∧ u < (L.length : Int)) (hx : 0 ≤ x ∧ x < (L.length : Int)) (h : hasB (nthR L u.toNat) x = true) : edgeB L u x = true := by
  unfold edgeB
  simp only [Bool.and_eq_true, decide_eq_true_iff, inB]
  exact ⟨⟨⟨hG, by omega⟩, by omega⟩, h⟩
theorem hasB_back {L : List (List Int)} (hG : GraphP L) {u x : Int} (hu : 0 ≤ u ∧ u < (L.length : Int)) (hx : 0 ≤ x ∧ x < (L.length : Int)) (h : hasB (nthR L u.toNat) x = true) : hasB (nthR L x.toNat) u = true := by
  obtain ⟨i, hi, e⟩ := (hasB_iff _ _).1 h
  have := hG.2.2 u.toNat (by omega) i hi
  rw [e] at this
  have e2 : ((u.toNat : Nat) : Int) = u := by omega
  rwa [e2] at this

/-- Numbers below n that are all different are n at most. -/
theorem apart_le (n : Nat) : ∀ (xs : List Int), (∀ k, k < xs.length → (0 ≤ nth xs k ∧ nth xs k < (n : Int)) ∧ hasB (xs.take k) (nth xs k) = false) → xs.length ≤ n := by
  intro xs h
  have hnd : xs.Nodup := by
    rw [List.nodup_iff_pairwise_ne, List.pairwise_iff_getElem]
    intro i j hi hj hij e
    have h2 := (h j hj).2
    have : hasB (xs.take j) (nth xs j) = true := by rw [hasB_take (by omega)]; exact ⟨i, hij, by rw [nth_eq hi, nth_eq hj]; exact e⟩
    rw [this] at h2; cases h2
  have hsub : ∀ x ∈ xs, x ∈ (List.range n).map (fun i : Nat => (i : Int)) := by
    intro x hx
    obtain ⟨i, hi, rfl⟩ := List.getElem_of_mem hx
    have := (h i hi).1
    rw [nth_eq hi] at this
    rw [List.mem_map]
    exact ⟨xs[i].toNat, by rw [List.mem_range]; omega, by omega⟩
  have := hnd.length_le_of_subset (fun x hx => hsub x hx)
  simpa using this

theorem loopB_good {L : List (List Int)} {xs : List Int} (h3 : 3 ≤ xs.length) : loopB L xs = true ↔ ∀ k, k < xs.length → GoodAt L xs k := by
  unfold loopB
  simp only [Bool.and_eq_true, decide_eq_true_iff]
  constructor
  · rintro ⟨⟨⟨⟨hG, -⟩, -⟩, hP⟩, hl⟩ k hk
    have hin : ∀ j, j < xs.length → 0 ≤ nth xs j ∧ nth xs j < (L.length : Int) := fun j hj => by have := (hP j hj).1; simp [inB] at this; omega
    refine ⟨(hP k hk).2.1, ?_⟩
    by_cases hk0 : k = 0
    · subst hk0
      have e : prevL xs 0 = nth xs (xs.length - 1) := rfl
      rw [e]
      exact edgeB_of hG (hin _ (by omega)) (hin _ hk) (hasB_back hG (hin _ hk) (hin _ (by omega)) hl)
    · have e : prevL xs k = nth xs (k - 1) := by unfold prevL; rw [if_neg hk0]
      rw [e]
      exact edgeB_of hG (hin _ (by omega)) (hin _ hk) ((hP k hk).2.2 (by omega))
  · intro h
    have hG := (edgeB_in (h 0 (by omega)).2).1
    have hin : ∀ j, j < xs.length → 0 ≤ nth xs j ∧ nth xs j < (L.length : Int) := fun j hj => (edgeB_in (h j hj).2).2.2.1
    refine ⟨⟨⟨⟨hG, h3⟩, apart_le _ _ (fun k hk => ⟨hin k hk, (h k hk).1⟩)⟩, ?_⟩, ?_⟩
    · intro k hk
      refine ⟨by have := hin k hk; simp [inB]; omega, (h k hk).1, fun h0 => ?_⟩
      have h2 := (edgeB_in (h k hk).2).2.2.2
      have e : prevL xs k = nth xs (k - 1) := by unfold prevL; rw [if_neg (by omega)]
      rwa [e] at h2
    · have h2 := edgeB_in (h 0 (by omega)).2
      have e : prevL xs 0 = nth xs (xs.length - 1) := rfl
      rw [e] at h2
      exact hasB_back hG h2.2.1 h2.2.2.1 h2.2.2.2

end Go.Proofs.Ytojbaepcflkgeaa
