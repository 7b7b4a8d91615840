/- Plain facts: masks and rows counted. -/
import Derived.Test.YtojbaepcflkgeaaQE1
import Derived.Test.YtojbaepcflkgeaaQF6
import Derived.Test.YtojbaepcflkgeaaQF4

namespace Go.Proofs.Ytojbaepcflkgeaa
open Go.RowKit

theorem listTo_bits (M k : Nat) : (listTo M k).length = bitsTo M k := by
  induction k with
  | zero => rfl
  | succ k ih =>
    rw [listTo_succ, List.length_append, ih]
    show _ = bitsTo M k + _
    by_cases h : M.testBit k = true
    · simp [h]
    · simp [h]

theorem row_listM {L : List (List Int)} (hG : GraphP L) {u : Nat} (hu : u < L.length) : listM (rowM L u) = nthR L u := by
  have hs := (hG.2.1 u hu).1
  have hp : SetP (nthR L u) 16 := SetP.mk hs.pairwise (fun x hx => by have := hs.bounds x hx; have := hG.1; omega)
  refine sets_eq (listM_set _) hp (fun z => ?_)
  rw [listM_mem, rowM, if_pos hu]
  constructor
  · rintro ⟨i, hi, hb, rfl⟩
    obtain ⟨j, hj, hz⟩ := (maskTo_bit _ _ i (fun j hj => (hs.bounds _ (nth_mem hj)).1)).1 hb
    rw [← hz]; exact nth_mem hj
  · intro hz
    have hb := hp.bounds z hz
    obtain ⟨j, hj, hjz⟩ := List.mem_iff_getElem.1 hz
    refine ⟨z.toNat, by omega, (maskTo_bit _ _ _ (fun j hj => (hs.bounds _ (nth_mem hj)).1)).2 ⟨j, hj, ?_⟩, by omega⟩
    rw [nth_eq hj, hjz]; omega

theorem row_bits {L : List (List Int)} (hG : GraphP L) {u : Nat} (hu : u < L.length) : bitsTo (rowM L u) 16 = (nthR L u).length := by
  rw [← row_listM hG hu, ← listTo_bits]; rfl

theorem sumTo_lt {f : Nat → Nat} {u : Nat} : ∀ n, (∀ i, i < n → f i ≤ 1) → u < n → f u = 0 → sumTo f n < n
  | 0, _, h, _ => by omega
  | n + 1, h, hu, h0 => by
    have hle : ∀ m, (∀ i, i < m → f i ≤ 1) → sumTo f m ≤ m := by
      intro m
      induction m with
      | zero => intro _; simp [sumTo]
      | succ m ih => intro hm; have := ih (fun i hi => hm i (by omega)); have := hm m (by omega); simp only [sumTo]; omega
    by_cases e : u = n
    · subst e
      have := hle u (fun i hi => h i (by omega))
      simp only [sumTo]; omega
    · have := sumTo_lt n (fun i hi => h i (by omega)) (by omega) h0
      have := h n (by omega)
      simp only [sumTo]; omega
theorem row_len_lt {L : List (List Int)} (hG : GraphP L) {u : Nat} (hu : u < L.length) : (nthR L u).length < L.length := by
  rw [← row_bits hG hu, deg_bits hG hu]
  exact sumTo_lt _ (fun i _ => by unfold adj; split <;> omega) hu (adj_diag hG u hu)


end Go.Proofs.Ytojbaepcflkgeaa
