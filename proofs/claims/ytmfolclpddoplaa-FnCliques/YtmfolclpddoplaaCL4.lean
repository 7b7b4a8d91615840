/- Walks: CliquesOf of the model. -/
import Derived.Test.YtmfolclpddoplaaCL3
import Derived.Test.YtmfolclpddoplaaQM7

namespace Go.Proofs.Ytmfolclpddoplaa
open Go.RowKit

/-- What CliquesOf answers. -/
def cqlL (L : List (List Int)) : List (List Int) := if GraphP L then cqF (adjB L) 17 [] (allL L.length) [] else []
theorem cqF_rows (A : Nat → Nat → Bool) : ∀ (f : Nat) (set left out : List Int), ∀ z ∈ cqF A f set left out, z.length ≤ set.length + left.length
  | 0, _, _, _ => fun z hz => by simp [cqF] at hz
  | f + 1, set, left, out => fun z hz => by
    by_cases h : left = [] ∧ out = []
    · obtain ⟨rfl, rfl⟩ := h
      rw [cqF_leaf, List.mem_singleton] at hz
      subst hz; simp
    · rw [cqF_all h] at hz
      unfold cqTo at hz
      obtain ⟨i, hi, hz⟩ := List.mem_flatMap.1 hz
      rw [List.mem_range] at hi
      have h1 := cqF_rows A f _ _ _ z hz
      have h3 := meetA_len A (left.drop (i + 1)) (nth left i)
      rw [List.length_drop] at h3
      rw [List.length_append, List.length_singleton] at h1
      omega
theorem nthR_memL {L : List (List Int)} {i : Nat} (h : i < L.length) : nthR L i ∈ L := nthR_mem h
theorem cqlL_small (L : List (List Int)) : Small (cqlL L) := by
  unfold cqlL
  split
  · rename_i hG
    have hz := hG.1
    have h1 := cqF_len (adjB L) 17 [] (allL L.length) []
    have hp : 2 ^ (allL L.length).length ≤ 2 ^ 16 := Nat.pow_le_pow_right (by omega) (by rw [allL_len]; exact hz.2)
    have h2 : (cqF (adjB L) 17 [] (allL L.length) []).length ≤ 65536 := Nat.le_trans h1 (Nat.le_trans hp (by decide))
    refine ⟨by omega, fun i hi => ?_⟩
    have := cqF_rows (adjB L) 17 [] (allL L.length) [] _ (nthR_mem hi)
    rw [allL_len] at this
    simp at this
    omega
  · exact ⟨by simp, fun i hi => absurd hi (by simp)⟩
theorem row_none (w : World) (b : Nat) : RowAt w (.slice (some ⟨b, 0, none⟩) 0 0) [] := ⟨by simp, by simp, Or.inl ⟨rfl, _, _, rfl, by simp⟩⟩

set_option maxHeartbeats 4000000 in
set_option maxRecDepth 100000 in
theorem specCliquesOf_any (v : Value) (L : List (List Int)) (w : World) (h : GridAt w v L) : Calls Try.prog 32 #[.agg #[v]] w (GaveGrid w (cqlL L)) := by
  obtain ⟨a0, c0, rfl⟩ := h.slice
  have HGK : Hid (∀ W, Below w.heap.size w W → GridAt W (.slice a0 L.length c0) L) := fun W hb => h.keep hb
  have HB0 : Hid (Below w.heap.size w (w.alloc (.cells #[.slice a0 L.length c0] 29))) := (Below.refl _ _).alloc (Nat.le_refl _) _
  have HX0 : Hid (BoxAt (w.alloc (.cells #[.slice a0 L.length c0] 29)) w.heap.size (.slice a0 L.length c0)) := BoxAt.new _ _ _
  clear h
  go_enter Try.func32, Try.ntmps32
  go_wp2_with fail
  refine (specGraphOk_any _ _ _ (HGK.out _ HB0.out)).mono ?_
  rintro e w1 ⟨rfl, hb1⟩
  have HB1 : Hid (Below w.heap.size w w1) := HB0.out.trans (hb1.mono HB0.out.size)
  have HKB : Hid (∀ W, Below w1.heap.size w1 W → W.cell? ⟨w.heap.size, 0, none⟩ = some (.slice a0 L.length c0)) := fun W hb => ((HX0.out.keep hb1).keep hb).1
  have HBW : Hid (∀ W, Below w1.heap.size w1 W → Below w.heap.size w W) := fun W hb => HB1.out.trans (hb.mono HB1.out.size)
  have ks := HKB.out _ (Below.refl _ _)
  clear hb1
  by_cases hG : GraphP L
  · have HF : Hid (cqlL L = cqF (adjB L) 17 [] (allL L.length) []) := if_pos hG
    have hz := hG.1
    have HGP := Lib.hid hG
    have HNE : Hid (¬ (allL L.length = [] ∧ ([] : List Int) = [])) := fun h => by
      have := congrArg List.length h.1
      rw [allL_len, List.length_nil] at this
      omega
    have HVA : Hid (VtxL L.length (allL L.length)) := fun x hx => by
      obtain ⟨i, hi, rfl⟩ := (allL_mem _ _).1 hx
      omega
    have HIX : Hid (∀ W b1 b2 v, Below w1.heap.size w1 W → RowAt W v (allL L.length) → Calls Try.prog 79 #[.agg #[.slice a0 L.length c0], .slice (some ⟨b1, 0, none⟩) 0 0, v, .slice (some ⟨b2, 0, none⟩) 0 0] W (GaveCq W W.heap.size (cqF (adjB L) 17 [] (allL L.length) []))) := fun W b1 b2 v hb hv =>
      l8Cliques_any a0 c0 L HGP.out 17 [] (allL L.length) [] _ v _ W W.heap.size (HGK.out _ (HBW.out _ hb)) (row_none _ _) (fun h => absurd h HNE.out) (Nat.le_refl _) hv (row_none _ _) (by rw [allL_len]; omega) (by omega) (by rw [allL_len]; simp; omega) (by rw [allL_len]; simp; omega) (fun x hx => absurd hx (by simp)) HVA.out (fun x hx => absurd hx (by simp))
    rw [decide_eq_true hG]
    clear hG
    go_wp2_with fail
    go_region_held3 (fun wy => wy.cell? ⟨w.heap.size, 0, none⟩ = some (.slice a0 L.length c0)) (first | exact ks | with_reducible exact HKB.out _ (by repeat (first | exact Below.refl _ _ | exact HB4.out | exact HB3.out | exact HB2.out | refine Below.drew ?_ | refine Below.alloc ?_ (by first | exact Nat.le_refl _ | (have h3 := HB3.out.size; simp; omega) | (have h2 := HB2.out.size; simp; omega) | (simp; done) | (simp; omega)) _)))
      (first
        | (go_at_call 65; refine (l1Size_any _ L _ (HGK.out _ (HBW.out _ (by repeat (first | exact Below.refl _ _ | exact HB4.out | exact HB3.out | exact HB2.out | refine Below.drew ?_ | refine Below.alloc ?_ (by first | exact Nat.le_refl _ | (have h3 := HB3.out.size; simp; omega) | (have h2 := HB2.out.size; simp; omega) | (simp; done) | (simp; omega)) _))))).mono ?_; rintro e w2 ⟨rfl, hb2⟩; have HB2 : Hid (Below w1.heap.size w1 w2) := Below.trans (by repeat (first | exact Below.refl _ _ | refine Below.drew ?_ | refine Below.alloc ?_ (by first | exact Nat.le_refl _ | (simp; done) | (simp; omega)) _)) (hb2.mono (by first | exact Nat.le_refl _ | (have h3 := HB3.out.size; simp; omega) | (have h2 := HB2.out.size; simp; omega) | (simp; done) | (simp; omega))); clear hb2)
        | (go_at_call 80; refine (l1All_any L.length _ hz.2).mono ?_; rintro e w3 ⟨n3, a3, c3, rfl, ho3, hb3⟩; have HB3 : Hid (Below w1.heap.size w1 w3) := Below.trans (by repeat (first | exact Below.refl _ _ | exact HB2.out | refine Below.drew ?_ | refine Below.alloc ?_ (by first | exact Nat.le_refl _ | (have h2 := HB2.out.size; simp; omega) | (simp; done) | (simp; omega)) _)) (hb3.mono (by first | exact Nat.le_refl _ | (have h2 := HB2.out.size; simp; omega) | (simp; done) | (simp; omega))); have HR3 := Lib.hid ho3.row; clear ho3 hb3)
        | (go_at_call 79; refine (HIX.out _ _ _ _ (by repeat (first | exact Below.refl _ _ | exact HB3.out | exact HB2.out | refine Below.drew ?_ | refine Below.alloc ?_ (by first | exact Nat.le_refl _ | (have h3 := HB3.out.size; simp; omega) | (have h2 := HB2.out.size; simp; omega) | (simp; done) | (simp; omega)) _)) (HR3.out.keep (by repeat (first | exact Below.refl _ _ | refine Below.drew ?_ | refine Below.alloc ?_ (by first | exact Nat.le_refl _ | (simp; done) | (simp; omega)) _)))).mono ?_; rintro e w4 ⟨n4, a4, c4, rfl, ho4, hb4⟩; have HB4 : Hid (Below w1.heap.size w1 w4) := Below.trans (by repeat (first | exact Below.refl _ _ | exact HB3.out | exact HB2.out | refine Below.drew ?_ | refine Below.alloc ?_ (by first | exact Nat.le_refl _ | (have h3 := HB3.out.size; simp; omega) | (have h2 := HB2.out.size; simp; omega) | (simp; done) | (simp; omega)) _)) (hb4.mono (by first | exact Nat.le_refl _ | (have h3 := HB3.out.size; simp; omega) | (have h2 := HB2.out.size; simp; omega) | (simp; done) | (simp; omega))); have HO4 : Hid (OwnGrid 2 31 w4 w.heap.size (.slice (some ⟨a4, 0, none⟩) n4 c4) (cqF (adjB L) 17 [] (allL L.length) [])) := ho4.mono (by have h3 := HB3.out.size; have h1 := HB1.out.size; simp; omega); clear ho4 hb4))
    all_goals (
      go_wp2
      go_ret
      exact ⟨_, _, _, rfl, by rw [HF.out]; exact HO4.out, HBW.out _ HB4.out⟩)
  · have HF : Hid (cqlL L = []) := if_neg hG
    rw [decide_eq_false hG]
    clear hG ks
    have HO1 : Hid (OwnGrid 2 31 (w1.alloc (.cells #[] 31)) w.heap.size (.slice (some ⟨w1.heap.size, 0, none⟩) 0 0) []) :=
      ⟨fun _ => undef, by simp, Or.inr ⟨w1.heap.size, 0, #[], rfl, HB1.out.size, heap_alloc_new w1 _, Nat.zero_le _, Nat.zero_le _, rfl, fun i hi => absurd hi (by simp)⟩, fun i hi => absurd hi (by simp), fun i j k _ hj => absurd hj (by simp)⟩
    go_wp2
    go_ret
    exact ⟨_, _, _, rfl, by rw [HF.out]; exact HO1.out, HB1.out.alloc HB1.out.size _⟩

end Go.Proofs.Ytmfolclpddoplaa
