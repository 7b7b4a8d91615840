/- Plain facts: two graphs together: edges, parts, and the complement of both complements. -/
import Derived.Test.YtjbfoiolcpigfaaDoorQFP1
import Derived.Test.YtjbfoiolcpigfaaDoorQP2
import Derived.Test.YtjbfoiolcpigfaaDoorQS1

namespace Go.Proofs.YtjbfoiolcpigfaaDoor

theorem near_adj {L : List (List Int)} (hG : GraphP L) : nearB L = adjB L := (nearM_eq hG).symm
theorem near_adjL {n : Nat} {A : Nat → Nat → Bool} (hG : GraphP (adjL n A)) (hr : ∀ i j, A i j = true → i < n ∧ j < n) : nearB (adjL n A) = A := by
  rw [near_adj hG]
  have hz := hG.1
  rw [adjL_len] at hz
  funext i j
  by_cases hi : i < n
  · by_cases hj : j < 16
    · exact adjB_adjL hG hi hj
    · rw [Bool.eq_iff_iff]
      constructor
      · intro h; have := (adjB_range hG h).2; rw [adjL_len] at this; omega
      · intro h; have := hr i j h; omega
  · rw [Bool.eq_iff_iff]
    constructor
    · intro h; have := (adjB_range hG h).1; rw [adjL_len] at this; omega
    · intro h; have := hr i j h; omega
theorem head_iff {A : Nat → Nat → Bool} {n : Nat} (hA : ∀ a b, A a b = A b a) (hn : n ≤ 16) {v : Nat} (hv : v < n) : headN A n v = v ↔ ∀ u, Reach A (allS n) v u → v ≤ u := by
  constructor
  · intro h u hr
    have h1 := headN_eq hA hn hr
    have h2 := (headN_spec hA hn ((allS_iff _ _).1 hr.mem)).1
    omega
  · intro h
    have h1 := headN_spec hA hn hv
    have := h _ h1.2.1
    omega
theorem parts_count {L : List (List Int)} (hG : GraphP L) : (partsL L).length = (headsTo (adjB L) L.length L.length).length := by
  rw [partsL_heads hG, List.length_map, near_adj hG]
theorem sumTo_plus (f : Nat → Nat) (m n : Nat) : sumTo f (m + n) = sumTo f m + sumTo (fun i => f (m + i)) n := by
  induction n with
  | zero => rfl
  | succ n ih =>
    show sumTo f (m + n) + f (m + n) = _
    rw [ih]
    show sumTo f m + sumTo (fun i => f (m + i)) n + f (m + n) = sumTo f m + (sumTo (fun i => f (m + i)) n + f (m + n))
    omega

section
variable {L M : List (List Int)}
theorem bs_left (h1 : GraphP L) {v : Nat} (hv : v < L.length) (u : Nat) : Reach (bsA L M) (allS (L.length + M.length)) v u ↔ Reach (adjB L) (allS L.length) v u := by
  constructor
  · rintro ⟨k, h⟩
    refine ⟨k, ?_⟩
    induction k generalizing u with
    | zero => exact ⟨h.1, (allS_iff _ _).2 hv⟩
    | succ k ih =>
      obtain ⟨hs, w, hw, ha⟩ := h
      have h3 := ih w hw
      have h4 := (allS_iff _ _).1 (wk_in h3)
      unfold bsA at ha
      rw [if_pos h4] at ha
      exact ⟨(allS_iff _ _).2 (adjB_range h1 ha).2, w, h3, ha⟩
  · rintro ⟨k, h⟩
    refine ⟨k, ?_⟩
    induction k generalizing u with
    | zero => exact ⟨h.1, (allS_iff _ _).2 (by omega)⟩
    | succ k ih =>
      obtain ⟨hs, w, hw, ha⟩ := h
      have h4 := (allS_iff _ _).1 (wk_in hw)
      have h5 := (allS_iff _ _).1 hs
      refine ⟨(allS_iff _ _).2 (by omega), w, ih w hw, ?_⟩
      unfold bsA
      rw [if_pos h4]
      exact ha
theorem bs_right (h2 : GraphP M) {v : Nat} (hv : v < M.length) (u : Nat) : Reach (bsA L M) (allS (L.length + M.length)) (L.length + v) u ↔ ∃ u', u = L.length + u' ∧ Reach (adjB M) (allS M.length) v u' := by
  constructor
  · rintro ⟨k, h⟩
    have key : ∃ u', u = L.length + u' ∧ Wk (adjB M) (allS M.length) v k u' := by
      induction k generalizing u with
      | zero => exact ⟨v, h.1, rfl, (allS_iff _ _).2 hv⟩
      | succ k ih =>
        obtain ⟨hs, w, hw, ha⟩ := h
        obtain ⟨w', rfl, h3⟩ := ih w hw
        unfold bsA at ha
        rw [if_neg (by omega), Bool.and_eq_true, decide_eq_true_iff] at ha
        obtain ⟨h4, h5⟩ := ha
        rw [show L.length + w' - L.length = w' from by omega] at h5
        exact ⟨u - L.length, by omega, (allS_iff _ _).2 (adjB_range h2 h5).2, w', h3, h5⟩
    obtain ⟨u', e, hk⟩ := key
    exact ⟨u', e, k, hk⟩
  · rintro ⟨u', rfl, k, h⟩
    refine ⟨k, ?_⟩
    induction k generalizing u' with
    | zero => exact ⟨by rw [h.1], (allS_iff _ _).2 (by omega)⟩
    | succ k ih =>
      obtain ⟨hs, w, hw, ha⟩ := h
      have h5 := (allS_iff _ _).1 hs
      refine ⟨(allS_iff _ _).2 (by omega), L.length + w, ih w hw, ?_⟩
      unfold bsA
      rw [if_neg (by omega), show L.length + w - L.length = w from by omega, show L.length + u' - L.length = u' from by omega, ha, decide_eq_true (by omega)]
      rfl
theorem bs_heads (h1 : GraphP L) (h2 : GraphP M) (hs : L.length + M.length ≤ 16) : (headsTo (bsA L M) (L.length + M.length) (L.length + M.length)).length = (headsTo (adjB L) L.length L.length).length + (headsTo (adjB M) M.length M.length).length := by
  have e : ∀ v, v < L.length → (headN (bsA L M) (L.length + M.length) v == v) = (headN (adjB L) L.length v == v) := fun v hv => by
    rw [Bool.eq_iff_iff, beq_iff_eq, beq_iff_eq, head_iff (bsA_sym h1 h2) hs (by omega), head_iff (adjB_sym h1) (by omega) hv]
    exact ⟨fun h u hr => h u ((bs_left h1 hv u).2 hr), fun h u hr => h u ((bs_left h1 hv u).1 hr)⟩
  have e2 : ∀ v, v < M.length → (headN (bsA L M) (L.length + M.length) (L.length + v) == L.length + v) = (headN (adjB M) M.length v == v) := fun v hv => by
    rw [Bool.eq_iff_iff, beq_iff_eq, beq_iff_eq, head_iff (bsA_sym h1 h2) hs (by omega), head_iff (adjB_sym h2) (by omega) hv]
    constructor
    · intro h u hr
      have := h (L.length + u) ((bs_right h2 hv _).2 ⟨u, rfl, hr⟩)
      omega
    · intro h u hr
      obtain ⟨u', rfl, hr'⟩ := (bs_right h2 hv u).1 hr
      have := h u' hr'
      omega
  unfold headsTo
  rw [List.range_add, List.filter_append, List.length_append]
  congr 1
  · congr 1
    exact List.filter_congr (fun v hv => e v (List.mem_range.1 hv))
  · rw [List.filter_map, List.length_map]
    congr 1
    exact List.filter_congr (fun v hv => e2 v (List.mem_range.1 hv))
theorem bs_yes (h1 : GraphP L) (h2 : GraphP M) (hs : L.length + M.length ≤ 16) : bsB L M = true ∧ bsL L M = adjL (L.length + M.length) (bsA L M) ∧ joL L M = adjL (L.length + M.length) (joA L M L.length L.length) := by
  have hb : bsB L M = true := by unfold bsB; rw [decide_eq_true h1, decide_eq_true h2, decide_eq_true hs]; rfl
  exact ⟨hb, by unfold bsL; rw [if_pos hb, bsR_adj h1 h2 hs], by unfold joL; rw [if_pos hb]⟩
theorem bs_parts (h1 : GraphP L) (h2 : GraphP M) (hs : L.length + M.length ≤ 16) : (partsL (bsL L M)).length = (partsL L).length + (partsL M).length := by
  rw [(bs_yes h1 h2 hs).2.1]
  have hG := bs_graph h1 h2 hs
  rw [partsL_heads hG, List.length_map, near_adjL hG (fun i j h => bsA_range h1 h2 h), adjL_len, parts_count h1, parts_count h2]
  exact bs_heads h1 h2 hs
/-- Who is near whom in the join. -/
theorem jo_at (i j : Nat) : joA L M L.length L.length i j = (bsA L M i j || decide (i < L.length ∧ L.length ≤ j ∧ j < L.length + M.length) || decide (j < L.length ∧ L.length ≤ i ∧ i < L.length + M.length)) := by
  unfold joA acB
  congr 1
  · congr 1
    rw [decide_eq_decide]
    constructor
    · rintro ⟨a, b, c, _⟩; exact ⟨a, b, c⟩
    · rintro ⟨a, b, c⟩; exact ⟨a, b, c, .inl a⟩
  · rw [decide_eq_decide]
    constructor
    · rintro ⟨a, b, c, _⟩; exact ⟨a, b, c⟩
    · rintro ⟨a, b, c⟩; exact ⟨a, b, c, .inl a⟩
theorem jo_sym (h1 : GraphP L) (h2 : GraphP M) (i j : Nat) : joA L M L.length L.length i j = joA L M L.length L.length j i := by
  rw [jo_at, jo_at, bsA_sym h1 h2 i j, Bool.or_assoc, Bool.or_assoc]
  congr 1
  exact Bool.or_comm _ _
theorem jo_range (h1 : GraphP L) (h2 : GraphP M) {i j : Nat} (h : joA L M L.length L.length i j = true) : i < L.length + M.length ∧ j < L.length + M.length := by
  rw [jo_at, Bool.or_eq_true, Bool.or_eq_true, decide_eq_true_iff, decide_eq_true_iff] at h
  rcases h with (h | h) | h
  · exact bsA_range h1 h2 h
  · omega
  · omega
theorem jo_self (h1 : GraphP L) (h2 : GraphP M) (i : Nat) : joA L M L.length L.length i i = false := by
  rw [jo_at, bsA_self h1 h2, decide_eq_false (by omega)]
  rfl
theorem jo_graph (h1 : GraphP L) (h2 : GraphP M) (hs : L.length + M.length ≤ 16) : GraphP (adjL (L.length + M.length) (joA L M L.length L.length)) :=
  adjL_graph ⟨by have := h1.1; omega, hs⟩ (fun i j h => (jo_range h1 h2 h).2) (jo_sym h1 h2) (jo_self h1 h2)
theorem jo_parts (h1 : GraphP L) (h2 : GraphP M) (hs : L.length + M.length ≤ 16) : (partsL (joL L M)).length = 1 := by
  have z1 := h1.1
  have z2 := h2.1
  rw [(bs_yes h1 h2 hs).2.2]
  have hG := jo_graph h1 h2 hs
  rw [partsL_heads hG, List.length_map, near_adjL hG (fun i j h => jo_range h1 h2 h), adjL_len]
  have hS : ∀ v, v < L.length + M.length → allS (L.length + M.length) v = true := fun v hv => (allS_iff _ _).2 hv
  have hstep : ∀ {a b : Nat}, a < L.length + M.length → b < L.length + M.length → joA L M L.length L.length a b = true → Reach (joA L M L.length L.length) (allS (L.length + M.length)) a b := fun {a b} ha hb h => ⟨1, hS b hb, a, ⟨rfl, hS a ha⟩, h⟩
  have hgo : ∀ v, v < L.length + M.length → Reach (joA L M L.length L.length) (allS (L.length + M.length)) v 0 := by
    intro v hv
    by_cases h : v < L.length
    · refine (hstep hv (show L.length < L.length + M.length by omega) ?_).trans (hstep (by omega) (by omega) ?_)
      · rw [jo_at, decide_eq_true (show v < L.length ∧ L.length ≤ L.length ∧ L.length < L.length + M.length from ⟨h, Nat.le_refl _, by omega⟩)]; simp
      · rw [jo_at, decide_eq_true (show 0 < L.length ∧ L.length ≤ L.length ∧ L.length < L.length + M.length from ⟨by omega, Nat.le_refl _, by omega⟩)]; simp
    · refine hstep hv (by omega) ?_
      rw [jo_at, decide_eq_true (show 0 < L.length ∧ L.length ≤ v ∧ v < L.length + M.length from ⟨by omega, by omega, hv⟩)]; simp
  rw [headsTo_same (i := 1) (by omega) (fun v h3 h4 e => by
    have := (head_iff (jo_sym h1 h2) hs h4).1 e 0 (hgo v h4)
    omega)]
  have h0 : headN (joA L M L.length L.length) (L.length + M.length) 0 = 0 := by
    have := (headN_spec (jo_sym h1 h2) hs (show 0 < L.length + M.length by omega)).1
    omega
  unfold headsTo
  simp [List.range_succ, h0]
theorem bsA_ll {i : Nat} (hi : i < L.length) (j : Nat) : bsA L M i j = adjB L i j := by unfold bsA; rw [if_pos hi]
theorem bsA_rr (i j : Nat) : bsA L M (L.length + i) (L.length + j) = adjB M i j := by
  unfold bsA
  rw [if_neg (by omega), show L.length + i - L.length = i from by omega, show L.length + j - L.length = j from by omega, decide_eq_true (by omega)]
  rfl
theorem bsA_rl (i : Nat) {j : Nat} (hj : j < L.length) : bsA L M (L.length + i) j = false := by
  unfold bsA
  rw [if_neg (by omega), decide_eq_false (by omega)]
  rfl
theorem bs_many (h1 : GraphP L) (h2 : GraphP M) (hs : L.length + M.length ≤ 16) : manyN (bsL L M) = manyN L + manyN M := by
  rw [(bs_yes h1 h2 hs).2.1]
  have hG := bs_graph h1 h2 hs
  have a0 := many_adj hG
  have a1 := many_adj h1
  have a2 := many_adj h2
  rw [adjL_len, sumTo_plus] at a0
  have e1 : sumTo (fun i => sumTo (fun j => if adjB (adjL (L.length + M.length) (bsA L M)) i j then 1 else 0) (L.length + M.length)) L.length = sumTo (fun i => sumTo (fun j => if adjB L i j then 1 else 0) L.length) L.length := sumTo_congr (fun i hi => by
    have k1 : sumTo (fun j => if adjB (adjL (L.length + M.length) (bsA L M)) i j then 1 else 0) L.length = sumTo (fun j => if adjB L i j then 1 else 0) L.length := sumTo_congr (fun j hj => by
      rw [adjB_adjL hG (by omega) (by omega), bsA_ll hi])
    have k2 : sumTo (fun j => if adjB (adjL (L.length + M.length) (bsA L M)) i (L.length + j) then 1 else 0) M.length = 0 := sumTo_zero (fun j hj => by
      rw [adjB_adjL hG (by omega) (by omega), bsA_ll hi]
      cases hb : adjB L i (L.length + j) with
      | false => rfl
      | true => exact absurd (adjB_range h1 hb).2 (by omega))
    rw [sumTo_plus, k1, k2, Nat.add_zero])
  have e2 : sumTo (fun i => sumTo (fun j => if adjB (adjL (L.length + M.length) (bsA L M)) (L.length + i) j then 1 else 0) (L.length + M.length)) M.length = sumTo (fun i => sumTo (fun j => if adjB M i j then 1 else 0) M.length) M.length := sumTo_congr (fun i hi => by
    have k1 : sumTo (fun j => if adjB (adjL (L.length + M.length) (bsA L M)) (L.length + i) j then 1 else 0) L.length = 0 := sumTo_zero (fun j hj => by
      rw [adjB_adjL hG (by omega) (by omega), bsA_rl i hj]
      rfl)
    have k2 : sumTo (fun j => if adjB (adjL (L.length + M.length) (bsA L M)) (L.length + i) (L.length + j) then 1 else 0) M.length = sumTo (fun j => if adjB M i j then 1 else 0) M.length := sumTo_congr (fun j hj => by
      rw [adjB_adjL hG (by omega) (by omega), bsA_rr])
    rw [sumTo_plus, k1, k2, Nat.zero_add])
  rw [e1, e2] at a0
  omega
theorem bs_induced (h1 : GraphP L) (h2 : GraphP M) (hs : L.length + M.length ≤ 16) : indB (bsL L M) (allL L.length) = true ∧ pickL (bsL L M) (allL L.length) true = L := by
  have z1 := h1.1
  have hG := bs_graph h1 h2 hs
  rw [(bs_yes h1 h2 hs).2.1]
  have hset : SetP (allL L.length) (adjL (L.length + M.length) (bsA L M)).length := by
    rw [adjL_len]
    refine SetP.mk (allL_pair _) (fun x hx => ?_)
    obtain ⟨i, hi, rfl⟩ := (allL_mem _ _).1 hx
    omega
  refine ⟨?_, ?_⟩
  · unfold indB setB
    rw [decide_eq_true hG, decide_eq_true hset, allL_len, decide_eq_true (by omega)]
    rfl
  · unfold pickL
    rw [if_pos rfl, allL_len]
    have hnth : ∀ i, i < L.length → nth (allL L.length) i = (i : Int) := fun i hi => by simp [nth, allL, hi]
    rw [adjL_congr (A' := adjB L) (fun i hi j hj => ?_), graph_adjL h1]
    unfold pickA
    rw [allL_len, decide_eq_true hi, hnth i hi, Int.toNat_natCast]
    by_cases hjl : j < L.length
    · rw [decide_eq_true hjl, hnth j hjl, Int.toNat_natCast, adjB_adjL hG (by omega) hj]
      unfold bsA
      rw [if_pos hi]
      rfl
    · rw [decide_eq_false hjl]
      cases hb : adjB L i j with
      | false => rfl
      | true => exact absurd (adjB_range h1 hb).2 hjl
theorem jo_comp (h1 : GraphP L) (h2 : GraphP M) (hs : L.length + M.length ≤ 16) : compL (bsL (compL L) (compL M)) = joL L M := by
  obtain ⟨c1, l1⟩ := comp_graph h1
  obtain ⟨c2, l2⟩ := comp_graph h2
  have hG := bs_graph c1 c2 (by omega)
  rw [(bs_yes c1 c2 (by omega)).2.1, (bs_yes h1 h2 hs).2.2]
  unfold compL
  rw [if_pos (show GraphP (adjL ((if GraphP L then adjL L.length (compA L) else []).length + (if GraphP M then adjL M.length (compA M) else []).length) (bsA (if GraphP L then adjL L.length (compA L) else []) (if GraphP M then adjL M.length (compA M) else []))) from hG), adjL_len]
  rw [show (if GraphP L then adjL L.length (compA L) else []) = compL L from rfl, show (if GraphP M then adjL M.length (compA M) else []) = compL M from rfl]
  rw [l1, l2] at hG ⊢
  have e1 : ∀ i j, adjB (compL L) i j = compA L i j := fun i j => by
    have h := near_adjL (n := L.length) (A := compA L) (by have := c1; unfold compL at this; rwa [if_pos h1] at this) (fun i j h => compA_range h)
    have h' : nearB (compL L) = compA L := by unfold compL; rw [if_pos h1]; exact h
    rw [← near_adj c1, h']
  have e2 : ∀ i j, adjB (compL M) i j = compA M i j := fun i j => by
    have h := near_adjL (n := M.length) (A := compA M) (by have := c2; unfold compL at this; rwa [if_pos h2] at this) (fun i j h => compA_range h)
    have h' : nearB (compL M) = compA M := by unfold compL; rw [if_pos h2]; exact h
    rw [← near_adj c2, h']
  refine adjL_congr (fun i hi j hj => ?_)
  rw [jo_at]
  unfold compA
  rw [adjL_len, decide_eq_true hi, adjB_adjL hG hi hj]
  unfold bsA
  rw [l1, e1, e2]
  unfold compA
  by_cases hil : i < L.length
  · rw [if_pos hil, if_pos hil, decide_eq_true hil]
    by_cases hjl : j < L.length
    · rw [decide_eq_true hjl, decide_eq_true (show j < L.length + M.length by omega), decide_eq_false (show ¬ (i < L.length ∧ L.length ≤ j ∧ j < L.length + M.length) by omega), decide_eq_false (show ¬ (j < L.length ∧ L.length ≤ i ∧ i < L.length + M.length) by omega)]
      by_cases he : i = j
      · subst he; rw [adjB_self h1]; simp
      · have hb : (i != j) = true := by rw [bne_iff_ne]; exact he
        rw [hb]
        cases adjB L i j <;> rfl
    · rw [decide_eq_false hjl, decide_eq_false (show ¬ (j < L.length ∧ L.length ≤ i ∧ i < L.length + M.length) by omega)]
      have hb : (i != j) = true := by rw [bne_iff_ne]; omega
      have ha : adjB L i j = false := by
        cases hb : adjB L i j with
        | false => rfl
        | true => exact absurd (adjB_range h1 hb).2 hjl
      rw [hb, ha]
      by_cases hjn : j < L.length + M.length
      · rw [decide_eq_true hjn, decide_eq_true (show i < L.length ∧ L.length ≤ j ∧ j < L.length + M.length by omega)]; rfl
      · rw [decide_eq_false hjn, decide_eq_false (show ¬ (i < L.length ∧ L.length ≤ j ∧ j < L.length + M.length) by omega)]; rfl
  · rw [if_neg hil, if_neg hil, decide_eq_false (show ¬ (i < L.length ∧ L.length ≤ j ∧ j < L.length + M.length) by omega)]
    by_cases hjl : j < L.length
    · have hb : (i != j) = true := by rw [bne_iff_ne]; omega
      rw [decide_eq_true (show j < L.length + M.length by omega), decide_eq_true (show j < L.length ∧ L.length ≤ i ∧ i < L.length + M.length by omega), decide_eq_false (show ¬ L.length ≤ j by omega), hb]
      rfl
    · rw [decide_eq_true (show L.length ≤ j by omega), decide_eq_false (show ¬ (j < L.length ∧ L.length ≤ i ∧ i < L.length + M.length) by omega), decide_eq_true (show i - L.length < M.length by omega)]
      by_cases hjn : j < L.length + M.length
      · rw [decide_eq_true hjn, decide_eq_true (show j - L.length < M.length by omega)]
        by_cases he : i = j
        · subst he; rw [adjB_self h2]; simp
        · have hb : (i != j) = true := by rw [bne_iff_ne]; exact he
          have hb2 : (i - L.length != j - L.length) = true := by rw [bne_iff_ne]; omega
          rw [hb, hb2]
          cases adjB M (i - L.length) (j - L.length) <;> rfl
      · rw [decide_eq_false hjn]
        have ha : adjB M (i - L.length) (j - L.length) = false := by
          cases hb : adjB M (i - L.length) (j - L.length) with
          | false => rfl
          | true => exact absurd (adjB_range h2 hb).2 (by omega)
        rw [ha]
        simp
end

end Go.Proofs.YtjbfoiolcpigfaaDoor
