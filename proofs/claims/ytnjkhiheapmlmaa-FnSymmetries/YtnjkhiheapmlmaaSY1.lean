/- Plain facts: symmetries go one after another; they keep degrees; the complement has as many. -/
import Derived.Test.YtnjkhiheapmlmaaQOB1
import Derived.Test.YtnjkhiheapmlmaaQCT1
import Derived.Test.YtnjkhiheapmlmaaQH0
import Derived.Test.YtnjkhiheapmlmaaQS1

namespace Go.Proofs.Ytnjkhiheapmlmaa

theorem stands_perm {L : List (List Int)} (hG : GraphP L) {z : List Int} (h : z ∈ stands L L) : PermP z L.length := by
  unfold stands at h
  rw [fits_mem hG.1.2] at h
  exact ⟨h.1, fun i hi => ⟨(h.2 i hi).1, (h.2 i hi).2.1⟩, fun i j hij hj => (h.2 j hj).2.2.1 i hij⟩
theorem stands_near {L : List (List Int)} (hG : GraphP L) {z : List Int} (h : z ∈ stands L L) {i j : Nat} (hi : i < L.length) (hj : j < L.length) : adjB L i j = adjB L (nth z i).toNat (nth z j).toNat := by
  unfold stands at h
  rw [fits_mem hG.1.2] at h
  rcases Nat.lt_trichotomy i j with e | e | e
  · exact (h.2 j hj).2.2.2 i e
  · subst e; rw [adjB_self hG, adjB_self hG]
  · rw [adjB_sym hG i j, adjB_sym hG (nth z i).toNat]; exact (h.2 i hi).2.2.2 j e
theorem stands_comp {L : List (List Int)} (hG : GraphP L) {z y : List Int} (hz : z ∈ stands L L) (hy : y ∈ stands L L) : (List.range L.length).map (fun i => nth y (nth z i).toNat) ∈ stands L L :=
  comp_fits hG.1.2 (adjB_sym hG) (adjB_sym hG) (stands_perm hG hz) (fun i j hi hj => stands_near hG hz hi hj) hy
theorem orb_idem {L : List (List Int)} (hG : GraphP L) {v : Nat} (hv : v < L.length) : orbN L (orbN L v) = orbN L v := by
  have h1 := orbN_le L v
  have h2 := orbN_le L (orbN L v)
  have hu : orbN L v < L.length := by omega
  obtain ⟨z, hz, ez⟩ := orbN_moves hG hv
  obtain ⟨y, hy, ey⟩ := orbN_moves hG hu
  have := orbN_least hG hv (u := orbN L (orbN L v)) ⟨_, stands_comp hG hz hy, by
    rw [nth_eq (by simpa using hv)]
    simp only [List.getElem_map, List.getElem_range]
    rw [ez, Int.toNat_natCast]
    exact ey⟩
  omega
theorem row_sum {L : List (List Int)} (hG : GraphP L) {u : Nat} (hu : u < L.length) : (nthR L u).length = sumTo (fun j => if adjB L u j then 1 else 0) L.length := by
  have hz := hG.1
  rw [← row_listM hG hu]
  have e : (listM (rowM L u)).length = bitsTo (rowM L u) 16 := listTo_bits (rowM L u) 16
  rw [e, bitsTo_sum]
  have := sumTo_split (fun j => if (rowM L u).testBit j then 1 else 0) L.length (16 - L.length) (fun j hj _ => by
    have : (rowM L u).testBit j = false := by
      show adjB L u j = false
      cases hb : adjB L u j with
      | false => rfl
      | true => exact absurd (adjB_range hG hb).2 (by omega)
    rw [this]; rfl)
  rw [show L.length + (16 - L.length) = 16 from by omega] at this
  exact this
theorem sym_deg {L : List (List Int)} (hG : GraphP L) {z : List Int} (hz : z ∈ stands L L) {v : Nat} (hv : v < L.length) : (nthR L v).length = (nthR L (nth z v).toNat).length := by
  have hp := stands_perm hG hz
  have hzv := hp.2.1 v hv
  rw [row_sum hG hv, row_sum hG (by omega)]
  have hl := hp.1
  have e1 := sumL_to (fun x => if adjB L (nth z v).toNat x.toNat then 1 else 0) z
  have e2 := sumL_to (fun x => if adjB L (nth z v).toNat x.toNat then 1 else 0) (allL L.length)
  rw [sumL_perm (ord_perm hp.ord), e2, hl, allL_len] at e1
  have a1 : sumTo (fun j => if adjB L v j then 1 else 0) L.length = sumTo (fun i => if adjB L (nth z v).toNat (nth z i).toNat then 1 else 0) L.length := sumTo_congr (fun i hi => by rw [stands_near hG hz hv hi])
  have a2 : sumTo (fun i => if adjB L (nth z v).toNat (nth (allL L.length) i).toNat then 1 else 0) L.length = sumTo (fun j => if adjB L (nth z v).toNat j then 1 else 0) L.length := sumTo_congr (fun i hi => by
    have : nth (allL L.length) i = (i : Int) := by rw [nth_eq (by rw [allL_len]; exact hi)]; simp [allL]
    rw [this, Int.toNat_natCast])
  rw [a1, ← a2]
  exact e1.symm
theorem orb_deg {L : List (List Int)} (hG : GraphP L) {v : Nat} (hv : v < L.length) : (nthR L v).length = (nthR L (orbN L v)).length := by
  obtain ⟨z, hz, e⟩ := orbN_moves hG hv
  have := sym_deg hG hz hv
  rw [e, Int.toNat_natCast] at this
  exact this
theorem comp_near {L : List (List Int)} (hG : GraphP L) {i j : Nat} (hi : i < L.length) (hj : j < L.length) (hij : i ≠ j) : adjB (compL L) i j = !adjB L i j := by
  have hz := hG.1
  have hGc := (comp_graph hG).1
  have e : adjB (compL L) i j = compA L i j := by
    rw [compL, if_pos hG] at hGc ⊢
    exact adjB_adjL hGc hi (by omega)
  rw [e]
  unfold compA
  rw [decide_eq_true hi, decide_eq_true hj]
  have : (i != j) = true := by rw [bne_iff_ne]; exact hij
  rw [this]; simp
theorem comp_mem {L : List (List Int)} (hG : GraphP L) {z : List Int} : z ∈ stands (compL L) (compL L) ↔ z ∈ stands L L := by
  have hl := (comp_graph hG).2
  unfold stands
  rw [hl, fits_mem hG.1.2, fits_mem hG.1.2]
  constructor
  · rintro ⟨h1, h2⟩
    refine ⟨h1, fun i hi => ?_⟩
    obtain ⟨a1, a2, a3, a4⟩ := h2 i hi
    refine ⟨a1, a2, a3, fun j hj => ?_⟩
    have hne := a3 j hj
    have b := h2 j (by omega)
    have := a4 j hj
    rw [comp_near hG (by omega) hi (by omega), comp_near hG (by omega) (by omega) (by omega)] at this
    simpa using this
  · rintro ⟨h1, h2⟩
    refine ⟨h1, fun i hi => ?_⟩
    obtain ⟨a1, a2, a3, a4⟩ := h2 i hi
    refine ⟨a1, a2, a3, fun j hj => ?_⟩
    have hne := a3 j hj
    have b := h2 j (by omega)
    rw [comp_near hG (by omega) hi (by omega), comp_near hG (by omega) (by omega) (by omega), a4 j hj]
theorem lex_nodup {Z : List (List Int)} (h : Z.Pairwise LexLt) : Z.Nodup := by
  rw [List.nodup_iff_pairwise_ne]
  exact h.imp (fun h e => by subst e; exact lex_asymm h h)
theorem symN_comp {L : List (List Int)} (h : SmallP L) : symN (compL L) = symN L := by
  obtain ⟨hc, hl⟩ := comp_graph h.1
  unfold symN
  rw [if_pos h, if_pos ⟨hc, by rw [hl]; exact h.2⟩]
  have hp : (stands (compL L) (compL L)).Perm (stands L L) := by
    refine (List.perm_ext_iff_of_nodup (lex_nodup (enum_sorted _ _)) (lex_nodup (enum_sorted _ _))).2 ?_
    intro z
    exact comp_mem h.1
  rw [hp.length_eq]
theorem symN_pos {L : List (List Int)} (h : SmallP L) : 0 < symN L ∧ symN L ≤ 4294967296 := by
  unfold symN
  rw [if_pos h]
  have h1 : (stands L L).length ≤ 4294967296 := enum_eight h.2 _
  have h2 : 0 < (stands L L).length := List.length_pos_of_mem (all_stands h.1)
  omega
theorem orbL_nth {L : List (List Int)} (h : SmallP L) {v : Nat} (hv : v < L.length) : nth (orbL L) v = ((orbN L v : Nat) : Int) := by
  rw [orbN_eq h.1 hv]
  unfold orbL
  rw [if_pos h, nth_eq (by simpa using hv)]
  simp
theorem orbL_len {L : List (List Int)} (h : SmallP L) : (orbL L).length = L.length := by
  unfold orbL
  rw [if_pos h]
  simp

end Go.Proofs.Ytnjkhiheapmlmaa
