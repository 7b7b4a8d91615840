/- Plain facts: lists of vertices as masks; what stays while rows of rows turn. -/
import Derived.Test.YtmfolclpddoplaaCL4
import Derived.Test.YtmfolclpddoplaaCL5
import Derived.Test.YtmfolclpddoplaaCQ1

namespace Go.Proofs.Ytmfolclpddoplaa
open Go.RowKit

/-- The mask of a list. -/
def mkB (z : List Int) : Nat := pm (fun u => hasB z (u : Int))
theorem mkB_lt (z : List Int) : mkB z < 65536 := pm_lt _
theorem mkB_nil : mkB [] = 0 := by
  apply Nat.eq_of_testBit_eq
  intro j
  unfold mkB
  rw [pm_bit, Nat.zero_testBit]
  simp [hasB_nil]
theorem pm_or (p q : Nat → Bool) : pm p ||| pm q = pm (fun u => p u || q u) := by
  apply Nat.eq_of_testBit_eq
  intro j
  rw [Nat.testBit_or, pm_bit, pm_bit, pm_bit]
  cases decide (j < 16) <;> simp
theorem pm_andB (p q : Nat → Bool) : pm p &&& pm q = pm (fun u => p u && q u) := by
  apply Nat.eq_of_testBit_eq
  intro j
  rw [Nat.testBit_and, pm_bit, pm_bit, pm_bit]
  cases decide (j < 16) <;> simp
theorem mkB_snoc (z : List Int) {x : Nat} (hx : x < 16) : mkB (z ++ [(x : Int)]) = mkB z ||| 2 ^ x := by
  apply Nat.eq_of_testBit_eq
  intro j
  unfold mkB
  rw [Nat.testBit_or, pm_bit, pm_bit, hasB_snoc, Nat.testBit_two_pow]
  by_cases e : x = j
  · subst e; simp [hx]
  · have : ((j : Int) == (x : Int)) = false := by rw [beq_eq_false_iff_ne]; omega
    rw [this]; simp [e]
theorem mkB_meet (A : Nat → Nat → Bool) (z : List Int) (x : Nat) : mkB z &&& pm (A x) = mkB (meetA A z (x : Int)) := by
  unfold mkB
  rw [pm_andB]
  refine pm_congr (fun j _ => ?_)
  rw [Bool.eq_iff_iff, Bool.and_eq_true, hasB_mem, hasB_mem, meetA_mem, Int.toNat_natCast, Int.toNat_natCast]
theorem mkB_zero {n : Nat} (hn : n ≤ 16) {z : List Int} (hz : VtxL n z) : mkB z = 0 ↔ z = [] := by
  constructor
  · intro h
    cases z with
    | nil => rfl
    | cons a t =>
      exfalso
      have ha := hz a List.mem_cons_self
      have hb : (mkB (a :: t)).testBit a.toNat = true := by
        unfold mkB
        rw [pm_bit, Bool.and_eq_true, decide_eq_true_iff, hasB_mem]
        exact ⟨by omega, by rw [show ((a.toNat : Nat) : Int) = a by omega]; exact List.mem_cons_self⟩
      rw [h] at hb; simp at hb
  · rintro rfl; exact mkB_nil
theorem mkB_prune {A : Nat → Nat → Bool} {n : Nat} (hn : n ≤ 16) {z : List Int} (hz : VtxL n z) (v : Nat) : clrM (mkB z) (pm (A v)) = 0 ↔ ∀ u ∈ z, A v u.toNat = true := by
  unfold mkB
  rw [clr_pm]
  constructor
  · intro h u hu
    have hb := hz u hu
    have h1 : (pm (fun j => hasB z (j : Int) && !A v j)).testBit u.toNat = false := by rw [h]; simp
    rw [pm_bit, decide_eq_true (by omega), Bool.true_and, show ((u.toNat : Nat) : Int) = u by omega, (hasB_mem _ _).2 hu, Bool.true_and] at h1
    simpa using h1
  · intro h
    apply Nat.eq_of_testBit_eq
    intro j
    rw [pm_bit, Nat.zero_testBit]
    cases hb : hasB z (j : Int) with
    | false => simp
    | true =>
      have := h _ ((hasB_mem _ _).1 hb)
      rw [Int.toNat_natCast] at this
      rw [this]; simp
theorem SetP.dropped {z : List Int} {n : Int} (h : SetP z n) (k : Nat) : SetP (z.drop k) n := SetP.mk (h.pairwise.sublist (List.drop_sublist _ _)) (fun x hx => h.bounds x (List.mem_of_mem_drop hx))
theorem SetP.meet {A : Nat → Nat → Bool} {z : List Int} {n v : Int} (h : SetP z n) : SetP (meetA A z v) n := SetP.mk (h.pairwise.sublist List.filter_sublist) (fun x hx => h.bounds x (meetA_mem.1 hx).1)
theorem SetP.vtx {z : List Int} {n : Nat} (h : SetP z n) : VtxL n z := fun x hx => by have := h.bounds x hx; omega
theorem mkB_cut {n : Nat} {z : List Int} (h : SetP z n) {k x : Nat} (hk : k < z.length) (hx : nth z k = (x : Int)) (hx16 : x < 16) : clrM (mkB (z.drop k)) (2 ^ x) = mkB (z.drop (k + 1)) := by
  unfold mkB
  rw [clr_pow _ hx16]
  have ed : z.drop k = (x : Int) :: z.drop (k + 1) := by rw [List.drop_eq_getElem_cons hk, ← nth_eq hk, hx]
  have hp := (h.dropped k).pairwise
  rw [ed, List.pairwise_cons] at hp
  refine pm_congr (fun j _ => ?_)
  rw [ed, Bool.eq_iff_iff, Bool.and_eq_true, hasB_mem, hasB_mem, bne_iff_ne, List.mem_cons]
  constructor
  · rintro ⟨h1 | h1, h2⟩
    · omega
    · exact h1
  · intro h1
    refine ⟨Or.inr h1, fun e => ?_⟩
    have := hp.1 _ h1
    omega
theorem mkB_list {n : Nat} (hn : n ≤ 16) {z : List Int} (h : SetP z n) : listM (mkB z) = z := (set_pm hn h).2.1
/-- What is found are sets. -/
theorem cqF_sets (A : Nat → Nat → Bool) {n : Nat} : ∀ (f : Nat) (set left out : List Int), SetP set n → SetP left n → (∀ x ∈ set, ∀ y ∈ left, x < y) → ∀ z ∈ cqF A f set left out, SetP z n
  | 0, _, _, _, _, _, _ => fun z hz => by simp [cqF] at hz
  | f + 1, set, left, out, hs, hl, hsl => fun z hz => by
    by_cases h : left = [] ∧ out = []
    · obtain ⟨rfl, rfl⟩ := h
      rw [cqF_leaf, List.mem_singleton] at hz
      subst hz; exact hs
    · rw [cqF_all h] at hz
      unfold cqTo at hz
      obtain ⟨i, hi, hz⟩ := List.mem_flatMap.1 hz
      rw [List.mem_range] at hi
      have hx := nth_mem hi
      have hp := hl.pairwise
      have ed : left.drop i = nth left i :: left.drop (i + 1) := by rw [List.drop_eq_getElem_cons hi, ← nth_eq hi]
      have hpd := (hl.dropped i).pairwise
      rw [ed, List.pairwise_cons] at hpd
      refine cqF_sets A f _ _ _ (SetP.mk ?_ (fun y hy => ?_)) (hl.dropped _).meet (fun y hy u hu => ?_) z hz
      · rw [List.pairwise_append]
        refine ⟨hs.pairwise, by simp, fun a ha b hb => ?_⟩
        rw [List.mem_singleton] at hb
        subst hb
        exact hsl a ha _ hx
      · rcases List.mem_append.1 hy with h1 | h1
        · exact hs.bounds y h1
        · rw [List.mem_singleton] at h1; subst h1; exact hl.bounds _ hx
      · have hu2 := (meetA_mem.1 hu).1
        rcases List.mem_append.1 hy with h1 | h1
        · exact hsl y h1 u (List.mem_of_mem_drop hu2)
        · rw [List.mem_singleton] at h1; subst h1; exact hpd.1 u hu2

/-- A row of numbers stays. -/
theorem OwnRow.kt {w w' : World} {B : Nat} {v : Value} {xs : List Int} (h : OwnRow 2 w B v xs) (hk : KeepsT w w') : OwnRow 2 w' B v xs := by
  obtain ⟨h1, h2, h3⟩ := h
  refine ⟨h1, h2, ?_⟩
  rcases h3 with h3 | ⟨g, cap, cur, e, hg, hh, r⟩
  · exact Or.inl h3
  · exact Or.inr ⟨g, cap, cur, e, hg, hk _ _ _ _ hh (by decide) (by decide), r⟩
theorem NetBlk.kt {w w' : World} {g n : Nat} {M : Nat → Nat} (h : NetBlk 65 w g n M) (hk : KeepsT w w') : NetBlk 65 w' g n M := hk _ _ _ _ h (by decide) (by decide)
theorem BoxM.kt {w w' : World} {b : Nat} {v : Value} (h : BoxT 62 w b v) (hk : KeepsT w w') : BoxT 62 w' b v := hk _ _ _ _ h (by decide) (by decide)
theorem KeepsT.setNew {A B : World} (h : KeepsT A B) {b i : Nat} {v : Value} (hb : A.heap.size ≤ b) : KeepsT A (B.setCell ⟨b, i, none⟩ v) := fun k cs U fr hk h1 h2 => by
  have := (Array.getElem?_eq_some_iff.1 hk).1
  rw [Below.heap_setCell B ⟨b, i, none⟩ v k (by simp; omega)]
  exact h k cs U fr hk h1 h2

end Go.Proofs.Ytmfolclpddoplaa
