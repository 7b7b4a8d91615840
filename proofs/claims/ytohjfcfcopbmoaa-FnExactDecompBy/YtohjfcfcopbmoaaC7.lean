/- Walks: SameGraph, of the program. -/
import Derived.Test.YtohjfcfcopbmoaaQC1
import Derived.Test.YtohjfcfcopbmoaaQLater
import Derived.WalkKit
import Derived.Laws.StructEq

namespace Go.Proofs.Ytohjfcfcopbmoaa
open Go.RowKit

/-- A strictly increasing list is known by its elements. -/
theorem set_ext {xs ys : List Int} {n : Nat} (hn : n ≤ 16) (hx : SetP xs n) (hy : SetP ys n) (h : ∀ u : Nat, u < 16 → hasB xs u = hasB ys u) : xs = ys := by
  have mono : ∀ {zs : List Int}, SetP zs n → ∀ j i, i < j → j < zs.length → nth zs i < nth zs j := by
    intro zs hz j
    induction j with
    | zero => intro i hi; omega
    | succ j ih =>
      intro i hi hj
      have h1 := (hz (j + 1) hj).2.2 (by omega)
      simp at h1
      by_cases e : i = j
      · subst e; exact h1
      · have := ih i (by omega) (by omega); omega
  have sub : ∀ {ps qs : List Int}, SetP ps n → (∀ u : Nat, u < 16 → hasB ps u = hasB qs u) → ∀ i, i < ps.length → ∃ j, j < qs.length ∧ nth qs j = nth ps i := by
    intro ps qs ha hab i hi
    have h1 := ha i hi
    obtain ⟨u, hu⟩ := Int.eq_ofNat_of_zero_le h1.1
    have h2 := hab u (by have := h1.2.1; omega)
    have h3 : hasB ps u = true := (hasB_iff _ _).2 ⟨i, hi, hu⟩
    rw [h3] at h2
    obtain ⟨j, hj, e⟩ := (hasB_iff _ _).1 h2.symm
    exact ⟨j, hj, by rw [e, hu]⟩
  have eqAt : ∀ i, i < xs.length → i < ys.length → nth xs i = nth ys i := by
    intro i
    induction i using Nat.strongRecOn with
    | _ i ih =>
      intro h1 h2
      obtain ⟨j, hj, e⟩ := sub hx h i h1
      obtain ⟨k, hk, e'⟩ := sub hy (fun u hu => (h u hu).symm) i h2
      rcases Nat.lt_trichotomy j i with hji | hji | hji
      · have e3 := ih j hji (by omega) hj
        have := mono hx i j hji h1
        omega
      · subst hji; exact e.symm
      · have h5 := mono hy j i hji hj
        rcases Nat.lt_trichotomy k i with hki | hki | hki
        · have e3 := ih k hki hk (by omega)
          have := mono hy i k hki h2
          omega
        · subst hki; exact e'
        · have := mono hx k i hki hk
          omega
  have lens : xs.length = ys.length := by
    rcases Nat.lt_trichotomy xs.length ys.length with hl | hl | hl
    · exfalso
      obtain ⟨k, hk, e⟩ := sub hy (fun u hu => (h u hu).symm) xs.length hl
      have e3 := eqAt k hk (by omega)
      have := mono hy xs.length k (by omega) hl
      omega
    · exact hl
    · exfalso
      obtain ⟨k, hk, e⟩ := sub hx h ys.length hl
      have e3 := eqAt k (by omega) hk
      have := mono hx ys.length k (by omega) hl
      omega
  exact nth_ext lens (fun i hi => eqAt i hi (by omega))

end Go.Proofs.Ytohjfcfcopbmoaa
