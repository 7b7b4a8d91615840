/- Plain facts: a loop of four or more vertices has no chord just if each of its vertices has two neighbours on it. -/
import Derived.Test.YtmfolclpddoplaaQV1
import Derived.Test.YtmfolclpddoplaaEC3

namespace Go.Proofs.Ytmfolclpddoplaa
open Go.RowKit

theorem sumTo_out (f : Nat → Nat) {a : Nat} : ∀ {n : Nat}, a < n → sumTo f n = sumTo (fun j => if j = a then 0 else f j) n + f a
  | 0, h => absurd h (by omega)
  | n + 1, h => by
    rw [sumTo, sumTo]
    by_cases e : a = n
    · subst e
      rw [if_pos rfl]
      have : sumTo (fun j => if j = a then 0 else f j) a = sumTo f a := sumTo_congr (fun i hi => by rw [if_neg (by omega)])
      omega
    · have := sumTo_out f (n := n) (a := a) (by omega)
      rw [if_neg (by omega)]
      omega
theorem szB_out {q : Nat → Bool} {a : Nat} (ha : a < 16) (h : q a = true) : szB q = szB (fun u => q u && u != a) + 1 := by
  rw [szB_sum, szB_sum, sumTo_out _ ha, h]
  congr 1
  refine sumTo_congr (fun j _ => ?_)
  by_cases e : j = a
  · subst e; simp
  · have : (j != a) = true := by rw [bne_iff_ne]; exact e
    rw [if_neg e, this, Bool.and_true]
theorem szB_none {q : Nat → Bool} : szB q = 0 ↔ ∀ j, j < 16 → q j = false := by
  rw [szB_sum]
  constructor
  · intro h j hj
    have := sumTo_zeros h j hj
    cases hq : q j with
    | false => rfl
    | true => rw [hq] at this; simp at this
  · intro h
    exact sumTo_zero (fun j hj => by rw [h j hj]; rfl)

open Classical in
/-- No chord among the pairs of the first i vertices, and of the next one with the first k. -/
noncomputable def noCh (A : Nat → Nat → Bool) (xs : List Int) : Bool :=
  decide (∀ i k, i < xs.length → k + 1 < i → ¬ (k = 0 ∧ i + 1 = xs.length) → A (vtxN xs k) (vtxN xs i) = false)

/-- What is known of a loop. -/
structure LoopF (A : Nat → Nat → Bool) (xs : List Int) : Prop where
  len : 3 ≤ xs.length
  lt : ∀ i, i < xs.length → vtxN xs i < 16
  at_ : ∀ i, i < xs.length → nth xs i = (vtxN xs i : Int)
  inj : ∀ i j, i < xs.length → j < xs.length → vtxN xs i = vtxN xs j → i = j
  step : ∀ i, i + 1 < xs.length → A (vtxN xs i) (vtxN xs (i + 1)) = true
  close : A (vtxN xs 0) (vtxN xs (xs.length - 1)) = true
theorem loop_facts {L : List (List Int)} {xs : List Int} (h : loopB L xs = true) : GraphP L ∧ LoopF (adjB L) xs ∧ xs.length ≤ L.length ∧ ∀ i, i < xs.length → vtxN xs i < L.length := by
  unfold loopB at h
  simp only [Bool.and_eq_true, decide_eq_true_eq] at h
  obtain ⟨⟨⟨⟨hG, h3⟩, hle⟩, hp⟩, hc⟩ := h
  have hz := hG.1
  have hrange : ∀ i, i < xs.length → 0 ≤ nth xs i ∧ nth xs i < (L.length : Int) := fun i hi => by
    have := (hp i hi).1
    simp [inB] at this
    omega
  have hat : ∀ i, i < xs.length → nth xs i = (vtxN xs i : Int) := fun i hi => by
    have := hrange i hi
    unfold vtxN; omega
  have hlt : ∀ i, i < xs.length → vtxN xs i < L.length := fun i hi => by
    have := hrange i hi
    unfold vtxN; omega
  have hne : ∀ i j, i < j → j < xs.length → vtxN xs i ≠ vtxN xs j := fun i j hij hj e => by
    have h2 := hasB_false.1 (hp j hj).2.1
    refine h2 ?_
    rw [hat j hj, ← e, ← hat i (by omega)]
    have hi2 : i < (xs.take j).length := by rw [List.length_take]; omega
    have : nth xs i = (xs.take j)[i] := by rw [nth_eq (show i < xs.length by omega), List.getElem_take]
    rw [this]
    exact List.getElem_mem hi2
  refine ⟨hG, ⟨h3, fun i hi => by have := hlt i hi; omega, hat, fun i j hi hj e => ?_, fun i hi => ?_, ?_⟩, hle, hlt⟩
  · rcases Nat.lt_trichotomy i j with h | h | h
    · exact absurd e (hne i j h hj)
    · exact h
    · exact absurd e.symm (hne j i h hi)
  · have := (hp (i + 1) hi).2.2 (by omega)
    rw [Nat.add_sub_cancel, hat (i + 1) hi] at this
    rw [← adjB_has hG (hlt i (by omega)) (by have := hlt (i + 1) hi; omega)]
    exact this
  · rw [hat (xs.length - 1) (by omega)] at hc
    rw [← adjB_has hG (hlt 0 (by omega)) (by have := hlt (xs.length - 1) (by omega); omega)]
    exact hc

theorem noCh_deg {A : Nat → Nat → Bool} (hs : ∀ i j, A i j = A j i) (hself : ∀ i, A i i = false) {xs : List Int} (h : LoopF A xs) (h4 : 4 ≤ xs.length) :
    noCh A xs = true ↔ ∀ i, i < xs.length → szB (fun u => A (vtxN xs i) u && hasB xs (u : Int)) = 2 := by
  have hin : ∀ j, j < xs.length → hasB xs ((vtxN xs j : Nat) : Int) = true := fun j hj => by
    rw [hasB_mem, ← h.at_ j hj]; exact nth_mem hj
  obtain ⟨p, hp⟩ : ∃ p : Nat → Nat, p = fun i => if i = 0 then xs.length - 1 else i - 1 := ⟨_, rfl⟩
  obtain ⟨s, hsu⟩ : ∃ s : Nat → Nat, s = fun i => if i + 1 = xs.length then 0 else i + 1 := ⟨_, rfl⟩
  have hpl : ∀ i, i < xs.length → p i < xs.length ∧ A (vtxN xs i) (vtxN xs (p i)) = true := fun i hi => by
    rw [hp]
    by_cases e : i = 0
    · subst e
      exact ⟨by show xs.length - 1 < xs.length; omega, h.close⟩
    · have h1 := h.step (i - 1) (by omega)
      rw [show i - 1 + 1 = i by omega] at h1
      simp only [if_neg e]
      exact ⟨by omega, by rw [hs]; exact h1⟩
  have hsl : ∀ i, i < xs.length → s i < xs.length ∧ A (vtxN xs i) (vtxN xs (s i)) = true := fun i hi => by
    rw [hsu]
    by_cases e : i + 1 = xs.length
    · simp only [if_pos e]
      have hc := h.close
      rw [show xs.length - 1 = i by omega] at hc
      exact ⟨by omega, by rw [hs]; exact hc⟩
    · simp only [if_neg e]
      exact ⟨by omega, h.step i (by omega)⟩
  have hps : ∀ i, i < xs.length → p i ≠ s i := fun i hi => by
    rw [hp, hsu]
    show (if i = 0 then xs.length - 1 else i - 1) ≠ (if i + 1 = xs.length then 0 else i + 1)
    split <;> split <;> omega
  have hrest : ∀ i, i < xs.length → szB (fun u => A (vtxN xs i) u && hasB xs (u : Int)) = szB (fun u => ((A (vtxN xs i) u && hasB xs (u : Int)) && u != vtxN xs (p i)) && u != vtxN xs (s i)) + 1 + 1 := fun i hi => by
    obtain ⟨p1, p2⟩ := hpl i hi
    obtain ⟨s1, s2⟩ := hsl i hi
    have e1 := szB_out (q := fun u => A (vtxN xs i) u && hasB xs (u : Int)) (h.lt _ p1) (by show (A _ _ && hasB _ _) = true; rw [p2, hin _ p1]; rfl)
    have e2 := szB_out (q := fun u => (A (vtxN xs i) u && hasB xs (u : Int)) && u != vtxN xs (p i)) (h.lt _ s1) (by
      show ((A _ _ && hasB _ _) && _) = true
      rw [s2, hin _ s1]
      have : (vtxN xs (s i) != vtxN xs (p i)) = true := by
        rw [bne_iff_ne]
        intro e
        exact hps i hi (h.inj _ _ s1 p1 e).symm
      rw [this]; rfl)
    rw [e1, e2]
  have hdn : noCh A xs = true ↔ ∀ i k, i < xs.length → k + 1 < i → ¬ (k = 0 ∧ i + 1 = xs.length) → A (vtxN xs k) (vtxN xs i) = false := by
    classical
    unfold noCh
    exact decide_eq_true_iff
  rw [hdn]
  constructor
  · intro hn i hi
    rw [hrest i hi]
    have hz : szB (fun u => ((A (vtxN xs i) u && hasB xs (u : Int)) && u != vtxN xs (p i)) && u != vtxN xs (s i)) = 0 := by
      rw [szB_none]
      intro u hu
      cases hq : (((A (vtxN xs i) u && hasB xs (u : Int)) && u != vtxN xs (p i)) && u != vtxN xs (s i)) with
      | false => rfl
      | true =>
        exfalso
        rw [Bool.and_eq_true, Bool.and_eq_true, Bool.and_eq_true, bne_iff_ne, bne_iff_ne] at hq
        obtain ⟨⟨⟨ha, hm⟩, n1⟩, n2⟩ := hq
        obtain ⟨j, hj, ej⟩ := List.getElem_of_mem ((hasB_mem _ _).1 hm)
        have ev : vtxN xs j = u := by unfold vtxN; rw [nth_eq hj, ej]; omega
        subst ev
        have hij : i ≠ j := fun e => by subst e; rw [hself] at ha; cases ha
        have hnp : j ≠ p i := fun e => n1 (by rw [e])
        have hns : j ≠ s i := fun e => n2 (by rw [e])
        rw [hp] at hnp
        rw [hsu] at hns
        have hnp : j ≠ (if i = 0 then xs.length - 1 else i - 1) := hnp
        have hns : j ≠ (if i + 1 = xs.length then 0 else i + 1) := hns
        rcases Nat.lt_trichotomy i j with e | e | e
        · have := hn j i hj (by split at hns <;> split at hnp <;> omega) (by split at hns <;> split at hnp <;> omega)
          rw [this] at ha; cases ha
        · exact hij e
        · have := hn i j hi (by split at hns <;> split at hnp <;> omega) (by split at hns <;> split at hnp <;> omega)
          rw [hs, this] at ha; cases ha
    omega
  · intro hd i k hi hki hne
    cases ha : A (vtxN xs k) (vtxN xs i) with
    | false => rfl
    | true =>
      exfalso
      have h2 := hd i hi
      rw [hrest i hi] at h2
      have h3 : szB (fun u => ((A (vtxN xs i) u && hasB xs (u : Int)) && u != vtxN xs (p i)) && u != vtxN xs (s i)) = 0 := by omega
      have h4 := szB_none.1 h3 (vtxN xs k) (h.lt k (by omega))
      have h5 : (((A (vtxN xs i) (vtxN xs k) && hasB xs ((vtxN xs k : Nat) : Int)) && vtxN xs k != vtxN xs (p i)) && vtxN xs k != vtxN xs (s i)) = false := h4
      rw [hs, ha, hin k (by omega)] at h5
      have n1 : (vtxN xs k != vtxN xs (p i)) = true := by
        rw [bne_iff_ne]
        intro e
        have := h.inj _ _ (by omega) (hpl i hi).1 e
        rw [hp] at this
        have this : k = (if i = 0 then xs.length - 1 else i - 1) := this
        split at this <;> omega
      have n2 : (vtxN xs k != vtxN xs (s i)) = true := by
        rw [bne_iff_ne]
        intro e
        have := h.inj _ _ (by omega) (hsl i hi).1 e
        rw [hsu] at this
        have this : k = (if i + 1 = xs.length then 0 else i + 1) := this
        split at this <;> omega
      rw [n1, n2] at h5
      simp at h5

/-- What ChordlessOk answers. -/
noncomputable def chlB (L : List (List Int)) (xs : List Int) : Bool := loopB L xs && decide (4 ≤ xs.length) && noCh (adjB L) xs

end Go.Proofs.Ytmfolclpddoplaa
