/- Plain facts: orders, and the orders back. -/
import Derived.Test.YtgnmggjihkfnoaaQS1
import Derived.Test.YtgnmggjihkfnoaaEM3
import Derived.Test.YtgnmggjihkfnoaaQM4
import Derived.Test.YtgnmggjihkfnoaaQLater
import Derived.Test.YtgnmggjihkfnoaaQM9

namespace Go.Proofs.Ytgnmggjihkfnoaa

/-- The numbers below m, each once. -/
def PermP (xs : List Int) (m : Nat) : Prop := xs.length = m ∧ (∀ i, i < m → 0 ≤ nth xs i ∧ nth xs i < (m : Int)) ∧ ∀ i j, i < j → j < m → nth xs i ≠ nth xs j
theorem PermP.ord {xs : List Int} {m : Nat} (h : PermP xs m) : OrdP xs m := by
  refine ⟨h.1, fun k hk => ?_⟩
  rw [h.1] at hk
  refine ⟨?_, ?_⟩
  · have := h.2.1 k hk; unfold inB; rw [decide_eq_true_iff]; omega
  · rw [← Bool.not_eq_true, hasB_take (by rw [h.1]; omega)]
    rintro ⟨j, hj, e⟩
    exact h.2.2 j k hj hk e
theorem PermP.nodup {xs : List Int} {n : Nat} (h : PermP xs n) : xs.Nodup := by
  rw [List.nodup_iff_pairwise_ne, List.pairwise_iff_getElem]
  intro i j hi hj hij e
  have := h.1
  exact h.2.2 i j hij (by omega) (by rw [nth_eq hi, nth_eq hj]; exact e)
theorem PermP.onto {xs : List Int} {n : Nat} (h : PermP xs n) {v : Nat} (hv : v < n) : ∃ j, j < n ∧ nth xs j = (v : Int) := by
  rcases Classical.em (∃ j, j < n ∧ nth xs j = (v : Int)) with hx | hx
  · exact hx
  · exfalso
    have hnm : (v : Int) ∉ xs := fun hm => by
      obtain ⟨j, hj, e⟩ := List.getElem_of_mem hm
      exact hx ⟨j, by have := h.1; omega, by rw [nth_eq hj]; exact e⟩
    have hnd : ((v : Int) :: xs).Nodup := List.nodup_cons.2 ⟨hnm, h.nodup⟩
    have := hnd.length_le_of_subset (l₂ := (List.range n).map (fun i : Nat => (i : Int))) (fun x hxx => by
      rw [List.mem_map]
      rcases List.mem_cons.1 hxx with e | hm
      · exact ⟨v, by rw [List.mem_range]; exact hv, e.symm⟩
      · obtain ⟨j, hj, e⟩ := List.getElem_of_mem hm
        have := h.2.1 j (by have := h.1; omega)
        rw [nth_eq hj, e] at this
        exact ⟨x.toNat, by rw [List.mem_range]; omega, by omega⟩)
    simp at this
    have := h.1
    omega
/-- ys leads back, as far as the first k. -/
def BackP (xs ys : List Int) (n k : Nat) : Prop := ys.length = n ∧ ∀ i, i < k → nth ys (nth xs i).toNat = (i : Int)
theorem BackP.step {xs ys : List Int} {n k : Nat} (h : PermP xs n) (hb : BackP xs ys n k) (hk : k < n) : BackP xs (ys.set (nth xs k).toNat (k : Int)) n (k + 1) := by
  refine ⟨by rw [List.length_set]; exact hb.1, fun i hi => ?_⟩
  have hxk := h.2.1 k hk
  have hxi := h.2.1 i (by omega)
  by_cases e : i = k
  · subst e; rw [nth_set_same (by rw [hb.1]; omega)]
  · rw [nth_set_other (fun e2 => h.2.2 i k (by omega) hk (by omega))]
    exact hb.2 i (by omega)
theorem BackP.perm {xs ys : List Int} {n : Nat} (h : PermP xs n) (hb : BackP xs ys n n) : PermP ys n := by
  refine ⟨hb.1, fun v hv => ?_, fun v u hvu hu => ?_⟩
  · obtain ⟨j, hj, e⟩ := h.onto hv
    have := hb.2 j hj
    rw [e, Int.toNat_natCast] at this
    omega
  · obtain ⟨j, hj, e⟩ := h.onto (show v < n by omega)
    obtain ⟨i, hi, e2⟩ := h.onto hu
    have a := hb.2 j hj
    have b := hb.2 i hi
    rw [e, Int.toNat_natCast] at a
    rw [e2, Int.toNat_natCast] at b
    intro e3
    have : j = i := by omega
    subst this
    omega
theorem BackP.there {xs ys : List Int} {n : Nat} (h : PermP xs n) (hb : BackP xs ys n n) {v : Nat} (hv : v < n) : nth xs (nth ys v).toNat = (v : Int) := by
  obtain ⟨j, hj, e⟩ := h.onto hv
  have := hb.2 j hj
  rw [e, Int.toNat_natCast] at this
  rw [this, Int.toNat_natCast]
  exact e
theorem ord_true {L : List (List Int)} {xs : List Int} (hG : GraphP L) (h : PermP xs L.length) : orderB L xs = true := by
  unfold orderB
  rw [decide_eq_true hG, decide_eq_true h.ord]
  rfl
theorem ren_graph {L : List (List Int)} {xs : List Int} (hG : GraphP L) (h : PermP xs L.length) : GraphP (adjL xs.length (pickA L xs)) ∧ (adjL xs.length (pickA L xs)).length = L.length := by
  have hz := hG.1
  have := h.1
  exact ⟨pick_graph hG (by omega) (by omega), by rw [adjL_len]; exact h.1⟩
theorem ren_near {L : List (List Int)} {xs : List Int} (hG : GraphP L) (h : PermP xs L.length) {i j : Nat} (hi : i < L.length) (hj : j < L.length) : adjB (adjL xs.length (pickA L xs)) i j = adjB L (nth xs i).toNat (nth xs j).toNat := by
  have hz := hG.1
  have hl := h.1
  rw [adjB_adjL (ren_graph hG h).1 (by omega) (by omega)]
  unfold pickA
  rw [decide_eq_true (by omega), decide_eq_true (by omega)]
  rfl
theorem ren_back {L : List (List Int)} {xs ys : List Int} (hG : GraphP L) (h : PermP xs L.length) (hb : BackP xs ys L.length L.length) : adjL ys.length (pickA (adjL xs.length (pickA L xs)) ys) = L := by
  have hz := hG.1
  have hp := hb.perm h
  have hg := ren_graph hG h
  have hy := hp.1
  conv => rhs; rw [← graph_adjL hG]
  rw [hy]
  refine adjL_congr (fun i hi j hj => ?_)
  show (decide (i < ys.length) && decide (j < ys.length) && adjB (adjL xs.length (pickA L xs)) (nth ys i).toNat (nth ys j).toNat) = adjB L i j
  rw [decide_eq_true (p := i < ys.length) (by omega), Bool.true_and]
  by_cases hjl : j < L.length
  · rw [decide_eq_true (p := j < ys.length) (by omega), Bool.true_and]
    have a := hp.2.1 i hi
    have b := hp.2.1 j hjl
    rw [ren_near hG h (by omega) (by omega), hb.there h hi, hb.there h hjl, Int.toNat_natCast, Int.toNat_natCast]
  · rw [decide_eq_false (p := j < ys.length) (by omega), Bool.false_and]
    symm
    rw [← Bool.not_eq_true]
    intro hh
    exact hjl (adjB_range hG hh).2
theorem ren_alike {L : List (List Int)} {xs : List Int} (hG : GraphP L) (h8 : L.length ≤ 8) (h : PermP xs L.length) : alB L (adjL xs.length (pickA L xs)) = true := by
  have hz := hG.1
  obtain ⟨hg, hl⟩ := ren_graph hG h
  unfold alB
  rw [decide_eq_true_iff]
  refine ⟨⟨hG, h8⟩, ⟨hg, by omega⟩, hl.symm, fun e => ?_⟩
  have : xs ∈ stands (adjL xs.length (pickA L xs)) L := by
    unfold stands
    rw [fits_mem hz.2]
    refine ⟨by rw [hl]; exact h.1, fun i hi => ?_⟩
    rw [hl] at hi
    have a := h.2.1 i hi
    refine ⟨a.1, a.2, fun j hj => h.2.2 j i hj hi, fun j hj => ?_⟩
    exact ren_near hG h (by omega) hi
  rw [e] at this
  simp at this
theorem back_of {xs : List Int} {n : Nat} (h : PermP xs n) : ∃ ys, BackP xs ys n n := by
  have : ∀ k, k ≤ n → ∃ ys, BackP xs ys n k := by
    intro k
    induction k with
    | zero => intro _; exact ⟨List.replicate n 0, by simp, fun i hi => absurd hi (by omega)⟩
    | succ k ih =>
      intro hk
      obtain ⟨ys, hy⟩ := ih (by omega)
      exact ⟨_, hy.step h (by omega)⟩
  exact this n (Nat.le_refl _)

end Go.Proofs.Ytgnmggjihkfnoaa
