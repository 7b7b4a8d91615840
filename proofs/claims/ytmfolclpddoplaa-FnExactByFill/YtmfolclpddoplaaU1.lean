/- Plain facts: a graph under other names has as many edges. -/
import Derived.Test.YtmfolclpddoplaaQM4
import Derived.Test.YtmfolclpddoplaaQM7
import Derived.Test.YtmfolclpddoplaaQD5
import Derived.Test.YtmfolclpddoplaaQM9
import Derived.Test.YtmfolclpddoplaaQH0

namespace Go.Proofs.Ytmfolclpddoplaa
open Go.RowKit

theorem pick_graph {L : List (List Int)} {xs : List Int} (hG : GraphP L) (h1 : 1 ≤ xs.length) (h16 : xs.length ≤ 16) : GraphP (adjL xs.length (pickA L xs)) :=
  adjL_graph ⟨h1, h16⟩ (fun i j h => (pickA_range h).2) (pickA_sym hG xs) (pickA_self hG xs)
/-- The number of edges by who is near whom. -/
theorem many_adj {L : List (List Int)} (hG : GraphP L) : 2 * manyN L = ((sumTo (fun i => sumTo (fun j => if adjB L i j then 1 else 0) L.length) L.length : Nat) : Int) := by
  have hz := hG.1
  have h1 := bits_edges hG
  have h2 := sumTo_split (fun i => bitsTo (rowM L i) 16) L.length (16 - L.length) (fun i h1 _ => by
    have : rowM L i = 0 := by unfold rowM; exact if_neg (by omega)
    show bitsTo (rowM L i) 16 = 0
    rw [this, bitsTo_zero])
  rw [show L.length + (16 - L.length) = 16 from by omega] at h2
  rw [h2] at h1
  have h3 : sumTo (fun i => bitsTo (rowM L i) 16) L.length = sumTo (fun i => sumTo (fun j => if adjB L i j then 1 else 0) L.length) L.length := sumTo_congr (fun i hi => by
    rw [bitsTo_sum]
    have := sumTo_split (fun j => if (rowM L i).testBit j then 1 else 0) L.length (16 - L.length) (fun j hj _ => by
      have : (rowM L i).testBit j = false := by
        show adjB L i j = false
        cases hb : adjB L i j with
        | false => rfl
        | true => exact absurd (adjB_range hG hb).2 (by omega)
      rw [this]; rfl)
    rw [show L.length + (16 - L.length) = 16 from by omega] at this
    exact this)
  rw [h3] at h1
  have e1 : manyN L = ((edgesTo L L.length).length : Int) := by unfold manyN; rw [edgesL, if_pos hG]
  rw [e1, h1]
  omega

/-- A sum over a list of numbers. -/
def sumL (f : Int → Nat) (xs : List Int) : Nat := (xs.map f).sum
theorem sumL_perm {f : Int → Nat} {xs ys : List Int} (h : xs.Perm ys) : sumL f xs = sumL f ys := (h.map f).sum_nat
theorem sumL_to (f : Int → Nat) (xs : List Int) : sumL f xs = sumTo (fun i => f (nth xs i)) xs.length := by
  have key : ∀ k, k ≤ xs.length → sumL f (xs.take k) = sumTo (fun i => f (nth xs i)) k := by
    intro k
    induction k with
    | zero => intro _; simp [sumL, sumTo]
    | succ k ih =>
      intro hk
      rw [take_snoc (by omega)]
      simp only [sumTo, ← ih (by omega)]
      simp [sumL]
  have := key xs.length (Nat.le_refl _)
  rwa [List.take_length] at this
theorem ord_perm {xs : List Int} {n : Nat} (h : OrdP xs n) : xs.Perm (allL n) := by
  have hnd : xs.Nodup := by
    rw [List.nodup_iff_pairwise_ne, List.pairwise_iff_getElem]
    intro i j hi hj hij e
    have hh := (h.2 j hj).2
    have : hasB (xs.take j) (nth xs j) = true := (hasB_take (Nat.le_of_lt hj) _).2 ⟨i, hij, by rw [nth_eq hi, nth_eq hj]; exact e⟩
    rw [this] at hh
    cases hh
  have hnd2 : (allL n).Nodup := by
    rw [List.nodup_iff_pairwise_ne]
    exact (allL_pair n).imp (fun h => by omega)
  have hsub : ∀ z, z ∈ xs → z ∈ allL n := by
    intro z hz
    obtain ⟨i, hi, rfl⟩ := List.mem_iff_getElem.1 hz
    have := (h.2 i hi).1
    rw [nth_eq hi] at this
    have h2 : 0 ≤ xs[i] ∧ xs[i] ≤ (n : Int) - 1 := by simpa [inB] using this
    exact (allL_mem _ _).2 ⟨xs[i].toNat, by omega, by omega⟩
  rw [List.perm_ext_iff_of_nodup hnd hnd2]
  intro z
  refine ⟨hsub z, fun hz => ?_⟩
  rcases Classical.em (z ∈ xs) with h1 | h1
  · exact h1
  · exfalso
    have h3 : (z :: xs).Nodup := List.nodup_cons.2 ⟨h1, hnd⟩
    have h4 : (z :: xs) ⊆ allL n := by
      intro y hy
      rcases List.mem_cons.1 hy with rfl | hy
      · exact hz
      · exact hsub y hy
    have := h3.length_le_of_subset h4
    rw [List.length_cons, allL_len, h.1] at this
    omega
/-- Renaming by an order keeps the number of edges. -/
theorem renamed_many {L : List (List Int)} {xs : List Int} (hG : GraphP L) (h : OrdP xs L.length) : GraphP (adjL xs.length (pickA L xs)) ∧ manyN (adjL xs.length (pickA L xs)) = manyN L := by
  have hz := hG.1
  have hl := h.1
  have hG2 := pick_graph (xs := xs) hG (by omega) (by omega)
  refine ⟨hG2, ?_⟩
  have h1 := many_adj hG
  have h2 := many_adj hG2
  rw [adjL_len] at h2
  have e2 : sumTo (fun i => sumTo (fun j => if adjB (adjL xs.length (pickA L xs)) i j then 1 else 0) xs.length) xs.length = sumL (fun a => sumL (fun b => if adjB L a.toNat b.toNat then 1 else 0) xs) xs := by
    rw [sumL_to]
    refine sumTo_congr (fun i hi => ?_)
    rw [sumL_to]
    refine sumTo_congr (fun j hj => ?_)
    rw [adjB_adjL hG2 hi (by omega)]
    unfold pickA
    rw [decide_eq_true hi, decide_eq_true hj]
    rfl
  have hnth : ∀ i, i < L.length → nth (allL L.length) i = (i : Int) := fun i hi => by simp [nth, allL, hi]
  have e1 : sumTo (fun i => sumTo (fun j => if adjB L i j then 1 else 0) L.length) L.length = sumL (fun a => sumL (fun b => if adjB L a.toNat b.toNat then 1 else 0) (allL L.length)) (allL L.length) := by
    rw [sumL_to, allL_len]
    refine sumTo_congr (fun i hi => ?_)
    rw [sumL_to, allL_len]
    refine sumTo_congr (fun j hj => ?_)
    rw [hnth i hi, hnth j hj, Int.toNat_natCast, Int.toNat_natCast]
  have hp := ord_perm h
  have e3 : sumL (fun a => sumL (fun b => if adjB L a.toNat b.toNat then 1 else 0) xs) xs = sumL (fun a => sumL (fun b => if adjB L a.toNat b.toNat then 1 else 0) (allL L.length)) (allL L.length) := by
    rw [sumL_perm hp]
    unfold sumL
    congr 1
    refine List.map_congr_left (fun a _ => ?_)
    exact sumL_perm hp
  rw [e2, e3, ← e1] at h2
  omega

end Go.Proofs.Ytmfolclpddoplaa
