/- Plain facts: the bags and the links of an order. -/
import Derived.Test.YtohjfcfcopbmoaaDB1
import Derived.Test.YtohjfcfcopbmoaaQEO1
import Derived.Test.YtohjfcfcopbmoaaM6

namespace Go.Proofs.Ytohjfcfcopbmoaa
open Go.RowKit

/-- The later neighbours of vertex i of the order. -/
def dbS (L : List (List Int)) (xs : List Int) (i : Nat) (u : Nat) : Bool := laterA (adjB L) xs (vtxN xs i) u
/-- The place of the first that holds p from place i + 1 on; the end where there is none. -/
def dbF (p : Nat → Bool) (xs : List Int) (i : Nat) : Nat := i + 1 + (xs.drop (i + 1)).findIdx (fun z => p z.toNat)
/-- The bag with which bag i is linked. -/
def dbTo (L : List (List Int)) (xs : List Int) (i : Nat) : Nat := if pm (dbS L xs i) = 0 then i + 1 else dbF (dbS L xs i) xs i
/-- The first bags. -/
def dbB (L : List (List Int)) (xs : List Int) (k : Nat) : List (List Int) := (List.range k).map (fun i => listM (pm (dbS L xs i) ||| 2 ^ vtxN xs i))
/-- The first links. -/
def dbK (L : List (List Int)) (xs : List Int) (k : Nat) : List (List Int) := (List.range (min k (xs.length - 1))).map (fun i : Nat => [(i : Int), (dbTo L xs i : Int)])
theorem dbB_len (L : List (List Int)) (xs : List Int) (k : Nat) : (dbB L xs k).length = k := by simp [dbB]
theorem dbB_zero (L : List (List Int)) (xs : List Int) : dbB L xs 0 = [] := by simp [dbB]
theorem dbK_zero (L : List (List Int)) (xs : List Int) : dbK L xs 0 = [] := by simp [dbK]
theorem dbB_succ (L : List (List Int)) (xs : List Int) (k : Nat) : dbB L xs (k + 1) = dbB L xs k ++ [listM (pm (dbS L xs k) ||| 2 ^ vtxN xs k)] := by
  unfold dbB
  rw [List.range_succ, List.map_append]
  rfl
theorem dbK_len (L : List (List Int)) (xs : List Int) (k : Nat) : (dbK L xs k).length = min k (xs.length - 1) := by simp [dbK]
theorem dbK_succ (L : List (List Int)) {xs : List Int} {k : Nat} (h : k + 1 < xs.length) : dbK L xs (k + 1) = dbK L xs k ++ [[(k : Int), (dbTo L xs k : Int)]] := by
  unfold dbK
  rw [show min (k + 1) (xs.length - 1) = k + 1 by omega, show min k (xs.length - 1) = k by omega, List.range_succ, List.map_append]
  rfl
theorem dbK_last (L : List (List Int)) {xs : List Int} {k : Nat} (h : ¬ k + 1 < xs.length) : dbK L xs (k + 1) = dbK L xs k := by
  unfold dbK
  rw [show min (k + 1) (xs.length - 1) = min k (xs.length - 1) by omega]
theorem dbK_first (L : List (List Int)) (xs : List Int) (k : Nat) : FirstLt (dbK L xs k) (k : Int) := fun i hi => by
  have hi' : i < min k (xs.length - 1) := by rwa [dbK_len] at hi
  have e : nthR (dbK L xs k) i = [(i : Int), (dbTo L xs i : Int)] := by simp [dbK, nthR, hi']
  rw [e]
  refine ⟨rfl, ?_⟩
  simp only [nth, List.getD_cons_zero]
  omega
theorem dbS_lt {L : List (List Int)} (hG : GraphP L) (xs : List Int) (i : Nat) {u : Nat} (h : dbS L xs i u = true) : u < L.length := by
  unfold dbS laterA at h
  rw [Bool.and_eq_true] at h
  exact ((fillX_rel (adjB_rel hG) xs).range _ _ h.1).2
/-- A later neighbour stands behind. -/
theorem dbS_behind {L : List (List Int)} {xs : List Int} (hG : GraphP L) (hO : OrdP xs L.length) {i u : Nat} (hi : i < xs.length) (h : dbS L xs i u = true) : ∃ t, i < t ∧ t < xs.length ∧ nth xs t = (u : Int) := by
  have hu := dbS_lt hG xs i h
  obtain ⟨h1, h2⟩ := ordP_idx hO hu
  refine ⟨xs.idxOf (u : Int), ?_, h1, h2⟩
  obtain ⟨v, hv, e⟩ := ordP_at hO hi
  unfold dbS laterA behB at h
  rw [Bool.and_eq_true, decide_eq_true_iff] at h
  have h3 := ordP_pos hO hi
  have h4 : vtxN xs i = v := by unfold vtxN; rw [e, Int.toNat_natCast]
  rw [h4, ← e, h3] at h
  exact h.2
theorem pm_zero_iff {p : Nat → Bool} (hp : ∀ u, p u = true → u < 16) : pm p = 0 ↔ ∀ u, p u = false := by
  constructor
  · intro h u
    cases hu : p u with
    | false => rfl
    | true =>
      have h1 := pm_bit p u
      rw [h, hu, decide_eq_true (hp u hu)] at h1
      simp at h1
  · intro h
    apply Nat.eq_of_testBit_eq
    intro j
    rw [pm_bit, h j]
    simp
theorem dbF_at {p : Nat → Bool} {xs : List Int} {i t : Nat} (hi : i < t) (ht : t < xs.length) (hp : p (vtxN xs t) = true) (hn : ∀ j, i < j → j < t → p (vtxN xs j) = false) : dbF p xs i = t := by
  unfold dbF
  have e : (xs.drop (i + 1)).findIdx (fun z => p z.toNat) = t - (i + 1) := by
    rw [List.findIdx_eq (by rw [List.length_drop]; omega)]
    refine ⟨?_, fun j hj => ?_⟩
    · rw [List.getElem_drop, ← nth_eq (by omega)]
      have h9 := hp
      unfold vtxN at h9
      rw [show i + 1 + (t - (i + 1)) = t by omega]
      exact h9
    · rw [List.getElem_drop, ← nth_eq (by omega)]
      have := hn (i + 1 + j) (by omega) (by omega)
      unfold vtxN at this
      simp [this]
  rw [e]; omega
theorem dbTo_at {L : List (List Int)} {xs : List Int} (hG : GraphP L) {i t u : Nat} (hu : dbS L xs i u = true) (hi : i < t) (ht : t < xs.length) (hp : dbS L xs i (vtxN xs t) = true) (hn : ∀ j, i < j → j < t → dbS L xs i (vtxN xs j) = false) : dbTo L xs i = t := by
  unfold dbTo
  rw [if_neg, dbF_at hi ht hp hn]
  intro h
  have h1 := (pm_zero_iff (fun u h => by have := dbS_lt hG xs i h; have := hG.1; omega)).1 h u
  rw [hu] at h1
  cases h1
theorem dbTo_none {L : List (List Int)} {xs : List Int} {i : Nat} (h : pm (dbS L xs i) = 0) : dbTo L xs i = i + 1 := if_pos h
end Go.Proofs.Ytohjfcfcopbmoaa
