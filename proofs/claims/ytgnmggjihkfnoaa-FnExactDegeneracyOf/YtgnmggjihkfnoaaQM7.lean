/- The texts M7, M8, joined. -/
import Derived.Test.YtgnmggjihkfnoaaQM4
import Derived.Deep.RegionHeld3

/- Walks: all vertices, all but one; a vertex cut. -/
namespace Go.Proofs.Ytgnmggjihkfnoaa
open Go.RowKit

/-- The numbers below n. -/
def allL (n : Nat) : List Int := (List.range n).map (fun i : Nat => (i : Int))
theorem allL_len (n : Nat) : (allL n).length = n := by simp [allL]
theorem allL_succ (n : Nat) : allL (n + 1) = allL n ++ [(n : Int)] := by simp [allL, List.range_succ]
theorem allL_mem (n : Nat) (z : Int) : z ∈ allL n ↔ ∃ i : Nat, i < n ∧ (i : Int) = z := by simp [allL]
theorem allL_pair (n : Nat) : (allL n).Pairwise (· < ·) := by
  unfold allL
  rw [List.pairwise_map]
  exact List.Pairwise.imp (fun h => by omega) List.pairwise_lt_range

/-- A list without x. -/
def wo (xs : List Int) (x : Int) : List Int := xs.filter (fun y => y != x)
theorem wo_len (xs : List Int) (x : Int) : (wo xs x).length ≤ xs.length := List.length_filter_le _ _
theorem wo_mem (xs : List Int) (x z : Int) : z ∈ wo xs x ↔ z ∈ xs ∧ z ≠ x := by simp [wo]
theorem wo_take {xs : List Int} {k : Nat} (x : Int) (hk : k < xs.length) : wo (xs.take (k + 1)) x = wo (xs.take k) x ++ if (nth xs k != x) = true then [nth xs k] else [] := by
  rw [List.take_succ_eq_append_getElem hk, nth_eq hk]
  unfold wo
  rw [List.filter_append]
  congr 1
  by_cases h : (xs[k] != x) = true
  · rw [if_pos h]; simp only [List.filter_cons, h, if_true, List.filter_nil]
  · rw [if_neg h]; simp only [List.filter_cons, h, List.filter_nil]; rfl

/-- The vertices below n but x, rising. -/
def restL (n x : Nat) : List Int := listM (clrM (2 ^ n - 1) (2 ^ x))
theorem restL_mem {n x : Nat} (hn : n ≤ 16) (hx : x < n) (z : Int) : z ∈ restL n x ↔ ∃ i : Nat, i < n ∧ i ≠ x ∧ (i : Int) = z := by
  unfold restL
  rw [listM_mem]
  constructor
  · rintro ⟨i, h1, h2, h3⟩
    rw [clrM_bit (whole_lt hn) (pow_lt16 (by omega)), whole_bit, Nat.testBit_two_pow] at h2
    simp at h2
    exact ⟨i, h2.1, fun e => h2.2 e.symm, h3⟩
  · rintro ⟨i, h1, h2, h3⟩
    refine ⟨i, by omega, ?_, h3⟩
    rw [clrM_bit (whole_lt hn) (pow_lt16 (by omega)), whole_bit, Nat.testBit_two_pow]
    simp
    exact ⟨h1, fun e => h2 e.symm⟩
theorem wo_all {n x : Nat} (hn : n ≤ 16) (hx : x < n) : wo (allL n) (x : Int) = restL n x := by
  refine sets_eq (SetP.mk ?_ ?_) (listM_set _) (fun z => ?_)
  · exact (allL_pair n).sublist List.filter_sublist
  · intro z hz
    obtain ⟨i, h1, rfl⟩ := (allL_mem n z).1 ((wo_mem _ _ _).1 hz).1
    omega
  · rw [wo_mem, allL_mem, restL_mem hn hx]
    constructor
    · rintro ⟨⟨i, h1, rfl⟩, h2⟩; exact ⟨i, h1, fun e => h2 (by rw [e]), rfl⟩
    · rintro ⟨i, h1, h2, rfl⟩; exact ⟨⟨i, h1, rfl⟩, fun e => h2 (by omega)⟩
theorem restL_len (n x : Nat) : (restL n x).length ≤ 16 := listM_len _
theorem restL_pos {n x : Nat} (hn : n ≤ 16) (hx : x < n) (h2 : 2 ≤ n) : 0 < (restL n x).length := by
  have : ((if x = 0 then 1 else 0 : Nat) : Int) ∈ restL n x := by
    rw [restL_mem hn hx]
    refine ⟨if x = 0 then 1 else 0, ?_, ?_, rfl⟩
    · split <;> omega
    · split <;> omega
  exact List.length_pos_of_mem this
theorem restL_in {n x : Nat} (hn : n ≤ 16) (hx : x < n) (i : Nat) (hi : i < (restL n x).length) : 0 ≤ nth (restL n x) i ∧ nth (restL n x) i < (n : Int) := by
  obtain ⟨j, h1, _, h3⟩ := (restL_mem hn hx _).1 (nth_mem hi)
  rw [← h3]; omega

end Go.Proofs.Ytgnmggjihkfnoaa

/- Walks: a vertex cut. -/
namespace Go.Proofs.Ytgnmggjihkfnoaa
open Go.RowKit

/-- May this vertex be cut? -/
def cutB (L : List (List Int)) (x : Int) : Bool := decide (GraphP L) && inB x 0 ((L.length : Int) - 1) && !((L.length : Int) == 1)
theorem cutB_yes {L : List (List Int)} {x : Int} (h : cutB L x = true) : GraphP L ∧ 0 ≤ x ∧ x < (L.length : Int) ∧ 2 ≤ L.length ∧ L.length ≤ 16 := by
  unfold cutB inB at h
  simp at h
  have := h.1.1.1
  exact ⟨h.1.1, h.1.2.1, by omega, by omega, by omega⟩
/-- The graph without the vertex. -/
def cutL (L : List (List Int)) (x : Int) : List (List Int) := pickL L (restL L.length x.toNat) (cutB L x)
theorem cutL_small (L : List (List Int)) (x : Int) : Small (cutL L x) := pickL_small (fun _ => restL_len _ _)
theorem cutL_no {L : List (List Int)} {x : Int} (h : cutB L x = false) : cutL L x = [] := by rw [cutL, h]; rfl

end Go.Proofs.Ytgnmggjihkfnoaa
