/- The texts S4, U1, joined. -/
import Derived.Test.YtohjfcfcopbmoaaGreatDoorQN3
import Derived.Test.YtohjfcfcopbmoaaGreatDoorQD5
import Derived.Test.YtohjfcfcopbmoaaGreatDoorQM4
import Derived.Test.YtohjfcfcopbmoaaGreatDoorQK1

/- Plain facts: what is added and cut is undone; the complement of the complement; a vertex added and cut; edges of both counted. -/
namespace Go.Proofs.YtohjfcfcopbmoaaGreatDoor
open Go.RowKit

theorem adjL_linked {n : Nat} (A : Nat → Nat → Bool) {x y : Nat} (hx : x < n) (hy : y < n) (hl : n ≤ 16) (hxy : x ≠ y) : ((adjL n A).set x (listM (pm (A x) ||| 2 ^ y))).set y (listM (pm (A y) ||| 2 ^ x)) = adjL n (linkA A x y) := by
  have := maskL_link n (fun i => pm (A i)) x y hxy
  rw [adjL, this, adjL]
  apply nthR_ext
  · rw [maskL_len, maskL_len]
  · intro i hi
    rw [maskL_len] at hi
    rw [maskL_nth _ hi, maskL_nth _ hi, linkM_pm A (by omega) (by omega) hxy]
theorem addEL_adj {L : List (List Int)} (hG : GraphP L) {p q : Nat} (hp : p < L.length) (hq : q < L.length) (hpq : p ≠ q) : (L.set p (listM (rowM L p ||| 2 ^ q))).set q (listM (rowM L q ||| 2 ^ p)) = adjL L.length (linkA (adjB L) p q) := by
  have h := adjL_linked (adjB L) hp hq hG.1.2 hpq
  rw [graph_adjL hG, ← rowM_pm hG, ← rowM_pm hG] at h
  exact h
theorem wo_pm (f : Nat → Bool) {x : Nat} (_hx : x < 16) : wo (listM (pm f)) (x : Int) = listM (pm (fun j => f j && j != x)) := by
  refine sets_eq (SetP.mk ((listM_set _).pairwise.sublist List.filter_sublist) (fun z hz => (listM_set (pm f)).bounds z ((wo_mem _ _ _).1 hz).1)) (listM_set _) (fun z => ?_)
  rw [wo_mem, listM_mem, listM_mem]
  constructor
  · rintro ⟨⟨i, h1, h2, rfl⟩, h3⟩
    refine ⟨i, h1, ?_, rfl⟩
    rw [pm_bit, Bool.and_eq_true] at h2
    rw [pm_bit, h2.2, (by rw [bne_iff_ne]; omega : (i != x) = true)]
    simp [h1]
  · rintro ⟨i, h1, h2, rfl⟩
    rw [pm_bit, Bool.and_eq_true, Bool.and_eq_true, bne_iff_ne] at h2
    exact ⟨⟨i, h1, by rw [pm_bit, h2.2.1]; simp [h1], rfl⟩, by have := h2.2.2; omega⟩
/-- .. without the edge x y. -/
def unA (A : Nat → Nat → Bool) (x y i j : Nat) : Bool := A i j && !((i == x && j == y) || (i == y && j == x))
theorem cutEL_adj {n : Nat} (A : Nat → Nat → Bool) {p q : Nat} (hp : p < n) (hq : q < n) (hn : n ≤ 16) (hpq : p ≠ q) : ((adjL n A).set p (wo (nthR (adjL n A) p) (q : Int))).set q (wo (nthR (adjL n A) q) (p : Int)) = adjL n (unA A p q) := by
  apply nthR_ext
  · simp [adjL_len]
  · intro i hi
    rw [List.length_set, List.length_set, adjL_len] at hi
    rw [adjL_nth _ hi, adjL_nth _ hp, adjL_nth _ hq, wo_pm _ (by omega), wo_pm _ (by omega)]
    by_cases e1 : q = i
    · subst e1
      unfold nthR
      rw [List.getD_eq_getElem?_getD, List.getElem?_set_self (by rw [List.length_set, adjL_len]; exact hi)]
      show listM _ = listM _
      congr 1
      refine pm_congr (fun j _ => ?_)
      unfold unA
      have : (q == p) = false := by rw [beq_eq_false_iff_ne]; exact fun e => hpq e.symm
      rw [this]
      simp [bne]
    · rw [nthR_set_ne _ e1]
      by_cases e2 : p = i
      · subst e2
        unfold nthR
        rw [List.getD_eq_getElem?_getD, List.getElem?_set_self (by rw [adjL_len]; exact hi)]
        show listM _ = listM _
        congr 1
        refine pm_congr (fun j _ => ?_)
        unfold unA
        have : (p == q) = false := by rw [beq_eq_false_iff_ne]; exact hpq
        rw [this]
        simp [bne]
      · rw [nthR_set_ne _ e2, adjL_nth _ hi]
        congr 1
        refine pm_congr (fun j _ => ?_)
        unfold unA
        have h1 : (i == p) = false := by rw [beq_eq_false_iff_ne]; exact fun e => e2 e.symm
        have h2 : (i == q) = false := by rw [beq_eq_false_iff_ne]; exact fun e => e1 e.symm
        rw [h1, h2]; simp
theorem linkA_graph {L : List (List Int)} (hG : GraphP L) {p q : Nat} (hp : p < L.length) (hq : q < L.length) (hpq : p ≠ q) : GraphP (adjL L.length (linkA (adjB L) p q)) := by
  refine adjL_graph hG.1 ?_ ?_ ?_
  · intro i j h
    unfold linkA at h
    simp only [Bool.or_eq_true, Bool.and_eq_true, beq_iff_eq] at h
    rcases h with (h | h) | h
    · exact (adjB_range hG h).2
    · omega
    · omega
  · intro i j
    unfold linkA
    rw [adjB_sym hG i j]
    cases adjB L j i <;> cases (i == p) <;> cases (j == q) <;> cases (i == q) <;> cases (j == p) <;> rfl
  · intro i
    unfold linkA
    rw [adjB_self hG]
    by_cases h : i = p
    · subst h
      have : (i == q) = false := by rw [beq_eq_false_iff_ne]; exact hpq
      rw [this]; simp
    · have : (i == p) = false := by rw [beq_eq_false_iff_ne]; exact h
      rw [this]; simp
theorem unA_graph {L : List (List Int)} (hG : GraphP L) (p q : Nat) : GraphP (adjL L.length (unA (adjB L) p q)) := by
  refine adjL_graph hG.1 ?_ ?_ ?_
  · intro i j h
    unfold unA at h
    rw [Bool.and_eq_true] at h
    exact (adjB_range hG h.1).2
  · intro i j
    unfold unA
    rw [adjB_sym hG i j]
    cases adjB L j i <;> cases (i == p) <;> cases (j == q) <;> cases (i == q) <;> cases (j == p) <;> rfl
  · intro i
    unfold unA
    rw [adjB_self hG, Bool.false_and]
theorem edgeB_adj {L : List (List Int)} (hG : GraphP L) {p q : Nat} (hp : p < L.length) (hq : q < L.length) : edgeB L (p : Int) (q : Int) = adjB L p q := by
  unfold edgeB inB
  have hz := hG.1
  rw [decide_eq_true hG, decide_eq_true (by omega : (0 : Int) ≤ (p : Int) ∧ (p : Int) ≤ (L.length : Int) - 1), decide_eq_true (by omega : (0 : Int) ≤ (q : Int) ∧ (q : Int) ≤ (L.length : Int) - 1), Int.toNat_natCast, adjB_has hG hp (by omega)]
  simp
theorem addB_adj {L : List (List Int)} (hG : GraphP L) {p q : Nat} (hp : p < L.length) (hq : q < L.length) : addB L (p : Int) (q : Int) = (((p : Int) != (q : Int)) && !edgeB L (p : Int) (q : Int)) := by
  have hz := hG.1
  rw [edgeB_adj hG hp hq]
  unfold addB pairB inB
  rw [decide_eq_true hG, decide_eq_true (by omega : (0 : Int) ≤ (p : Int) ∧ (p : Int) ≤ (L.length : Int) - 1), decide_eq_true (by omega : (0 : Int) ≤ (q : Int) ∧ (q : Int) ≤ (L.length : Int) - 1), Int.toNat_natCast, adjB_has hG hp (by omega)]
  simp

/-- Cutting an added edge restores the graph. -/
theorem undone_add {L : List (List Int)} {p q : Nat} (h : addB L (p : Int) (q : Int) = true) : GraphP (addEL L (p : Int) (q : Int)) ∧ edgeB (addEL L (p : Int) (q : Int)) (q : Int) (p : Int) = true ∧ cutEL (addEL L (p : Int) (q : Int)) (q : Int) (p : Int) = L := by
  obtain ⟨hG, p', q', ep, eq, hp, hq, hpq, hadj⟩ := addB_nat h
  obtain rfl : p = p' := by omega
  obtain rfl : q = q' := by omega
  have hz := hG.1
  have hX : addEL L (p : Int) (q : Int) = adjL L.length (linkA (adjB L) p q) := by
    rw [addEL, if_pos h, Int.toNat_natCast, Int.toNat_natCast, addEL_adj hG hp hq hpq]
  have hGX := linkA_graph hG hp hq hpq
  have he : edgeB (adjL L.length (linkA (adjB L) p q)) (q : Int) (p : Int) = true := by
    rw [edgeB_adj hGX (by rw [adjL_len]; exact hq) (by rw [adjL_len]; exact hp), adjB_adjL hGX hq (by omega)]
    unfold linkA; simp
  rw [hX]
  refine ⟨hGX, he, ?_⟩
  rw [cutEL, if_pos he, Int.toNat_natCast, Int.toNat_natCast, cutEL_adj _ hq hp hz.2 (fun e => hpq e.symm)]
  have : adjL L.length (unA (linkA (adjB L) p q) q p) = adjL L.length (adjB L) := by
    refine adjL_congr (fun i _ j _ => ?_)
    unfold unA linkA
    by_cases e1 : i = p ∧ j = q
    · obtain ⟨rfl, rfl⟩ := e1; rw [hadj]; simp
    · by_cases e2 : i = q ∧ j = p
      · obtain ⟨rfl, rfl⟩ := e2; rw [adjB_sym hG, hadj]; simp
      · have c1 : (i == p && j == q) = false := by cases h : (i == p && j == q) with | false => rfl | true => (simp at h; exact absurd h e1)
        have c2 : (i == q && j == p) = false := by cases h : (i == q && j == p) with | false => rfl | true => (simp at h; exact absurd h e2)
        rw [c1, c2]; simp
  rw [this, graph_adjL hG]
/-- Adding a cut edge restores the graph. -/
theorem undone_cut {L : List (List Int)} {p q : Nat} (h : edgeB L (p : Int) (q : Int) = true) : GraphP (cutEL L (p : Int) (q : Int)) ∧ addB (cutEL L (p : Int) (q : Int)) (q : Int) (p : Int) = true ∧ addEL (cutEL L (p : Int) (q : Int)) (q : Int) (p : Int) = L := by
  obtain ⟨hG, p', q', ep, eq, hp, hq, hpq⟩ := edgeB_nat h
  obtain rfl : p = p' := by omega
  obtain rfl : q = q' := by omega
  have hz := hG.1
  have hadj : adjB L p q = true := by rw [← edgeB_adj hG hp hq]; exact h
  have hX : cutEL L (p : Int) (q : Int) = adjL L.length (unA (adjB L) p q) := by
    have h1 := cutEL_adj (adjB L) hp hq hz.2 hpq
    rw [graph_adjL hG] at h1
    rw [cutEL, if_pos h, Int.toNat_natCast, Int.toNat_natCast, h1]
  have hGX := unA_graph hG p q
  have ha : addB (adjL L.length (unA (adjB L) p q)) (q : Int) (p : Int) = true := by
    rw [addB_adj hGX (by rw [adjL_len]; exact hq) (by rw [adjL_len]; exact hp), edgeB_adj hGX (by rw [adjL_len]; exact hq) (by rw [adjL_len]; exact hp), adjB_adjL hGX hq (by omega)]
    unfold unA
    simp; omega
  rw [hX]
  refine ⟨hGX, ha, ?_⟩
  rw [addEL, if_pos ha, Int.toNat_natCast, Int.toNat_natCast, addEL_adj hGX (by rw [adjL_len]; exact hq) (by rw [adjL_len]; exact hp) (fun e => hpq e.symm), adjL_len]
  have : adjL L.length (linkA (adjB (adjL L.length (unA (adjB L) p q))) q p) = adjL L.length (adjB L) := by
    refine adjL_congr (fun i hi j hj => ?_)
    unfold linkA
    rw [adjB_adjL hGX hi hj]
    unfold unA
    by_cases e1 : i = p ∧ j = q
    · obtain ⟨rfl, rfl⟩ := e1; rw [hadj]; simp
    · by_cases e2 : i = q ∧ j = p
      · obtain ⟨rfl, rfl⟩ := e2; rw [adjB_sym hG, hadj]; simp
      · have c1 : (i == p && j == q) = false := by cases h : (i == p && j == q) with | false => rfl | true => (simp at h; exact absurd h e1)
        have c2 : (i == q && j == p) = false := by cases h : (i == q && j == p) with | false => rfl | true => (simp at h; exact absurd h e2)
        rw [c1, c2]; simp
  rw [this, graph_adjL hG]
/-- The complement of the complement. -/
theorem comp_graph {L : List (List Int)} (hG : GraphP L) : GraphP (compL L) ∧ (compL L).length = L.length := by
  rw [compL, if_pos hG]
  exact ⟨adjL_graph hG.1 (fun i j h => (compA_range h).2) (compA_sym hG) (compA_self L), adjL_len _ _⟩
theorem comp_comp {L : List (List Int)} (hG : GraphP L) : compL (compL L) = L := by
  have hz := hG.1
  obtain ⟨hGc, hlen⟩ := comp_graph hG
  rw [compL, if_pos hGc, hlen]
  have : adjL L.length (compA (compL L)) = adjL L.length (adjB L) := by
    refine adjL_congr (fun i hi j hj => ?_)
    have e : adjB (compL L) i j = compA L i j := by
      rw [compL, if_pos hG] at hGc ⊢
      exact adjB_adjL hGc hi hj
    unfold compA
    rw [e, hlen]
    unfold compA
    by_cases hjl : j < L.length
    · rw [decide_eq_true hi, decide_eq_true hjl]
      by_cases hij : i = j
      · subst hij; rw [adjB_self hG]; simp
      · have : (i != j) = true := by rw [bne_iff_ne]; exact hij
        rw [this]; simp
    · rw [decide_eq_false hjl]
      cases hb : adjB L i j with
      | false => simp
      | true => exact absurd (adjB_range hG hb).2 hjl
  rw [this, graph_adjL hG]
/-- Cutting an added vertex restores the graph. -/
theorem undone_vertex {L : List (List Int)} {xs : List Int} (hG : GraphP L) (hs : SetP xs L.length) (hn : L.length < 16) : avB L xs = true ∧ GraphP (avL L xs) ∧ cutB (avL L xs) (L.length : Int) = true ∧ cutL (avL L xs) (L.length : Int) = L := by
  have hz := hG.1
  have hav : avB L xs = true := by
    unfold avB setB
    rw [decide_eq_true hG, decide_eq_true hs, (by rw [beq_eq_false_iff_ne]; omega : ((L.length : Int) == 16) = false)]; rfl
  have hr : ∀ z : Nat, hasB xs (z : Int) = true → z < L.length := by
    intro z hz
    have := hs.bounds _ ((hasB_mem _ _).1 hz)
    omega
  have hX : avL L xs = adjL (L.length + 1) (avA L xs) := by rw [avL, if_pos hav]
  have hGX : GraphP (adjL (L.length + 1) (avA L xs)) := by
    refine adjL_graph ⟨by omega, by omega⟩ ?_ ?_ ?_
    · intro i j h
      unfold avA at h
      simp only [Bool.or_eq_true, Bool.and_eq_true, beq_iff_eq] at h
      rcases h with (h | h) | h
      · have := (adjB_range hG h).2; omega
      · have := hr j h.2; omega
      · omega
    · intro i j
      unfold avA
      rw [adjB_sym hG i j]
      cases adjB L j i <;> cases (i == L.length && hasB xs (j : Int)) <;> cases (j == L.length && hasB xs (i : Int)) <;> rfl
    · intro i
      unfold avA
      rw [adjB_self hG]
      by_cases h : i = L.length
      · have : hasB xs (i : Int) = false := by
          cases hb : hasB xs (i : Int) with
          | false => rfl
          | true => exact absurd (hr i hb) (by omega)
        rw [this]; simp
      · have : (i == L.length) = false := by rw [beq_eq_false_iff_ne]; exact h
        rw [this]; simp
  have hcB : cutB (adjL (L.length + 1) (avA L xs)) (L.length : Int) = true := by
    unfold cutB inB
    rw [decide_eq_true hGX, adjL_len, decide_eq_true (by omega : (0 : Int) ≤ (L.length : Int) ∧ (L.length : Int) ≤ ((L.length + 1 : Nat) : Int) - 1), (by rw [beq_eq_false_iff_ne]; omega : (((L.length + 1 : Nat) : Int) == 1) = false)]
    rfl
  refine ⟨hav, by rw [hX]; exact hGX, by rw [hX]; exact hcB, ?_⟩
  rw [hX, cutL, pickL, if_pos hcB, adjL_len, Int.toNat_natCast]
  have hrest : restL (L.length + 1) L.length = allL L.length := by
    rw [← wo_all (by omega) (by omega), allL_succ]
    unfold wo
    rw [List.filter_append, List.filter_eq_self.2]
    · simp
    · intro z hz
      obtain ⟨i, hi, rfl⟩ := (allL_mem _ _).1 hz
      rw [bne_iff_ne]; omega
  rw [hrest, allL_len]
  have hnth : ∀ i, i < L.length → nth (allL L.length) i = (i : Int) := fun i hi => by simp [nth, allL, hi]
  have : adjL L.length (pickA (adjL (L.length + 1) (avA L xs)) (allL L.length)) = adjL L.length (adjB L) := by
    refine adjL_congr (fun i hi j hj => ?_)
    unfold pickA
    rw [allL_len]
    by_cases hjl : j < L.length
    · rw [decide_eq_true hi, decide_eq_true hjl, hnth i hi, hnth j hjl, Int.toNat_natCast, Int.toNat_natCast, adjB_adjL hGX (by omega) hj]
      unfold avA
      have h1 : (i == L.length) = false := by rw [beq_eq_false_iff_ne]; omega
      have h2 : (j == L.length) = false := by rw [beq_eq_false_iff_ne]; omega
      rw [h1, h2]; simp
    · rw [decide_eq_false hjl]
      cases hb : adjB L i j with
      | false => simp
      | true => exact absurd (adjB_range hG hb).2 hjl
  rw [this, graph_adjL hG]

/-- Edges of a graph and of its complement. -/
theorem comp_bits {L : List (List Int)} (hG : GraphP L) {i : Nat} (hi : i < L.length) : bitsTo (pm (compA L i)) 16 + bitsTo (rowM L i) 16 + 1 = L.length := by
  have hz := hG.1
  have key : ∀ k, k ≤ 16 → bitsTo (pm (compA L i)) k + bitsTo (rowM L i) k + (if i < k then 1 else 0) = min k L.length := by
    intro k
    induction k with
    | zero => intro _; simp [bitsTo]
    | succ k ih =>
      intro hk
      have h1 := ih (by omega)
      rw [bitsTo_sum, bitsTo_sum] at h1 ⊢
      simp only [sumTo]
      have e1 : (pm (compA L i)).testBit k = compA L i k := by rw [pm_bit]; simp; omega
      have e2 : (rowM L i).testBit k = adjB L i k := rfl
      rw [e1, e2]
      by_cases hkl : k < L.length
      · have ec : compA L i k = ((i != k) && !adjB L i k) := by unfold compA; rw [decide_eq_true hi, decide_eq_true hkl]; simp
        by_cases hik : i = k
        · subst hik
          have e3 : adjB L i i = false := adjB_self hG i
          have e4 : (i != i) = false := by simp
          rw [ec, e3, e4]
          simp only [Nat.lt_irrefl, if_false, Nat.lt_succ_self, if_true, Bool.false_and] at h1 ⊢
          simp
          omega
        · have e4 : (i != k) = true := by rw [bne_iff_ne]; exact hik
          rw [ec, e4, Bool.true_and]
          have hlt : (i < k + 1) = (i < k) := by apply propext; omega
          simp only [hlt]
          cases adjB L i k
          · simp; omega
          · simp; omega
      · have ec : compA L i k = false := by unfold compA; rw [decide_eq_false hkl]; simp
        have ea : adjB L i k = false := by
          cases hb : adjB L i k with
          | false => rfl
          | true => exact absurd (adjB_range hG hb).2 hkl
        rw [ec, ea]
        have hlt1 : i < k := by omega
        have hlt2 : i < k + 1 := by omega
        simp only [hlt1, hlt2, if_true] at h1 ⊢
        simp
        omega
  have := key 16 (Nat.le_refl _)
  rw [if_pos (by omega)] at this
  omega
theorem sumTo_const (c n : Nat) : sumTo (fun _ => c) n = c * n := by
  induction n with
  | zero => simp [sumTo]
  | succ n ih => simp only [sumTo, ih, Nat.mul_succ]
theorem comp_many {L : List (List Int)} (hG : GraphP L) : 2 * (manyN (compL L) + manyN L) = (L.length : Int) * ((L.length : Int) - 1) := by
  have hz := hG.1
  obtain ⟨hGc, hlen⟩ := comp_graph hG
  have h1 := bits_edges hG
  have h2 := bits_edges hGc
  have hrow : ∀ {M : List (List Int)}, GraphP M → sumTo (fun i => bitsTo (rowM M i) 16) 16 = sumTo (fun i => bitsTo (rowM M i) 16) M.length := by
    intro M hM
    have hzM := hM.1
    have := sumTo_split (fun i => bitsTo (rowM M i) 16) M.length (16 - M.length) (fun i h1 _ => by
      have : rowM M i = 0 := by unfold rowM; exact if_neg (by omega)
      show bitsTo (rowM M i) 16 = 0
      rw [this, bitsTo_zero])
    rw [show M.length + (16 - M.length) = 16 from by omega] at this
    exact this
  rw [hrow hG] at h1
  rw [hrow hGc, hlen] at h2
  have h3 : sumTo (fun i => bitsTo (rowM (compL L) i) 16) L.length = sumTo (fun i => bitsTo (pm (compA L i)) 16) L.length := sumTo_congr (fun i hi => by
    have : rowM (compL L) i = pm (compA L i) := by
      rw [compL, if_pos hG] at hGc ⊢
      exact rowM_adjL hGc hi
    rw [this])
  rw [h3] at h2
  have h4 : sumTo (fun i => bitsTo (pm (compA L i)) 16 + bitsTo (rowM L i) 16) L.length = sumTo (fun _ => L.length - 1) L.length := sumTo_congr (fun i hi => by have := comp_bits hG hi; omega)
  rw [sumTo_add, sumTo_const, h1, h2] at h4
  have e1 : manyN L = ((edgesTo L L.length).length : Int) := by unfold manyN; rw [edgesL, if_pos hG]
  have e2 : manyN (compL L) = ((edgesTo (compL L) L.length).length : Int) := by unfold manyN; rw [edgesL, if_pos hGc, hlen]
  rw [e1, e2]
  have h5 : (((L.length - 1) * L.length : Nat) : Int) = (L.length : Int) * ((L.length : Int) - 1) := by
    rw [Int.natCast_mul, Int.mul_comm]
    congr 1
    omega
  rw [← h5]
  omega

end Go.Proofs.YtohjfcfcopbmoaaGreatDoor

/- Plain facts: a graph under other names has as many edges. -/
namespace Go.Proofs.YtohjfcfcopbmoaaGreatDoor
open Go.RowKit

theorem pick_graph {L : List (List Int)} {xs : List Int} (hG : GraphP L) (h1 : 1 ≤ xs.length) (h16 : xs.length ≤ 16) : GraphP (adjL xs.length (pickA L xs)) :=
  adjL_graph ⟨h1, h16⟩ (fun i j h => (pickA_range h).2) (pickA_sym hG xs) (pickA_self hG xs)
/-- The number of edges by who is near whom. -/
theorem many_adj {L : List (List Int)} (hG : GraphP L) : 2 * manyN L = ((sumTo (fun i => sumTo (fun j => if adjB L i j then 1 else 0) L.length) L.length : Nat) : Int) := by
  have hz := hG.1
  have h1 := bits_edges hG
  have h2 := sumTo_split (fun i => bitsTo (rowM L i) 16) L.length (16 - L.length) (fun i h1 _ => by
    have : rowM L i = 0 := by unfold rowM; exact if_neg (by omega)
    show bitsTo (rowM L i) 16 = 0
    rw [this, bitsTo_zero])
  rw [show L.length + (16 - L.length) = 16 from by omega] at h2
  rw [h2] at h1
  have h3 : sumTo (fun i => bitsTo (rowM L i) 16) L.length = sumTo (fun i => sumTo (fun j => if adjB L i j then 1 else 0) L.length) L.length := sumTo_congr (fun i hi => by
    rw [bitsTo_sum]
    have := sumTo_split (fun j => if (rowM L i).testBit j then 1 else 0) L.length (16 - L.length) (fun j hj _ => by
      have : (rowM L i).testBit j = false := by
        show adjB L i j = false
        cases hb : adjB L i j with
        | false => rfl
        | true => exact absurd (adjB_range hG hb).2 (by omega)
      rw [this]; rfl)
    rw [show L.length + (16 - L.length) = 16 from by omega] at this
    exact this)
  rw [h3] at h1
  have e1 : manyN L = ((edgesTo L L.length).length : Int) := by unfold manyN; rw [edgesL, if_pos hG]
  rw [e1, h1]
  omega

/-- A sum over a list of numbers. -/
def sumL (f : Int → Nat) (xs : List Int) : Nat := (xs.map f).sum
theorem sumL_perm {f : Int → Nat} {xs ys : List Int} (h : xs.Perm ys) : sumL f xs = sumL f ys := (h.map f).sum_nat
theorem sumL_to (f : Int → Nat) (xs : List Int) : sumL f xs = sumTo (fun i => f (nth xs i)) xs.length := by
  have key : ∀ k, k ≤ xs.length → sumL f (xs.take k) = sumTo (fun i => f (nth xs i)) k := by
    intro k
    induction k with
    | zero => intro _; simp [sumL, sumTo]
    | succ k ih =>
      intro hk
      rw [take_snoc (by omega)]
      simp only [sumTo, ← ih (by omega)]
      simp [sumL]
  have := key xs.length (Nat.le_refl _)
  rwa [List.take_length] at this
theorem ord_perm {xs : List Int} {n : Nat} (h : OrdP xs n) : xs.Perm (allL n) := by
  have hnd : xs.Nodup := by
    rw [List.nodup_iff_pairwise_ne, List.pairwise_iff_getElem]
    intro i j hi hj hij e
    have hh := (h.2 j hj).2
    have : hasB (xs.take j) (nth xs j) = true := (hasB_take (Nat.le_of_lt hj) _).2 ⟨i, hij, by rw [nth_eq hi, nth_eq hj]; exact e⟩
    rw [this] at hh
    cases hh
  have hnd2 : (allL n).Nodup := by
    rw [List.nodup_iff_pairwise_ne]
    exact (allL_pair n).imp (fun h => by omega)
  have hsub : ∀ z, z ∈ xs → z ∈ allL n := by
    intro z hz
    obtain ⟨i, hi, rfl⟩ := List.mem_iff_getElem.1 hz
    have := (h.2 i hi).1
    rw [nth_eq hi] at this
    have h2 : 0 ≤ xs[i] ∧ xs[i] ≤ (n : Int) - 1 := by simpa [inB] using this
    exact (allL_mem _ _).2 ⟨xs[i].toNat, by omega, by omega⟩
  rw [List.perm_ext_iff_of_nodup hnd hnd2]
  intro z
  refine ⟨hsub z, fun hz => ?_⟩
  rcases Classical.em (z ∈ xs) with h1 | h1
  · exact h1
  · exfalso
    have h3 : (z :: xs).Nodup := List.nodup_cons.2 ⟨h1, hnd⟩
    have h4 : (z :: xs) ⊆ allL n := by
      intro y hy
      rcases List.mem_cons.1 hy with rfl | hy
      · exact hz
      · exact hsub y hy
    have := h3.length_le_of_subset h4
    rw [List.length_cons, allL_len, h.1] at this
    omega
/-- Renaming by an order keeps the number of edges. -/
theorem renamed_many {L : List (List Int)} {xs : List Int} (hG : GraphP L) (h : OrdP xs L.length) : GraphP (adjL xs.length (pickA L xs)) ∧ manyN (adjL xs.length (pickA L xs)) = manyN L := by
  have hz := hG.1
  have hl := h.1
  have hG2 := pick_graph (xs := xs) hG (by omega) (by omega)
  refine ⟨hG2, ?_⟩
  have h1 := many_adj hG
  have h2 := many_adj hG2
  rw [adjL_len] at h2
  have e2 : sumTo (fun i => sumTo (fun j => if adjB (adjL xs.length (pickA L xs)) i j then 1 else 0) xs.length) xs.length = sumL (fun a => sumL (fun b => if adjB L a.toNat b.toNat then 1 else 0) xs) xs := by
    rw [sumL_to]
    refine sumTo_congr (fun i hi => ?_)
    rw [sumL_to]
    refine sumTo_congr (fun j hj => ?_)
    rw [adjB_adjL hG2 hi (by omega)]
    unfold pickA
    rw [decide_eq_true hi, decide_eq_true hj]
    rfl
  have hnth : ∀ i, i < L.length → nth (allL L.length) i = (i : Int) := fun i hi => by simp [nth, allL, hi]
  have e1 : sumTo (fun i => sumTo (fun j => if adjB L i j then 1 else 0) L.length) L.length = sumL (fun a => sumL (fun b => if adjB L a.toNat b.toNat then 1 else 0) (allL L.length)) (allL L.length) := by
    rw [sumL_to, allL_len]
    refine sumTo_congr (fun i hi => ?_)
    rw [sumL_to, allL_len]
    refine sumTo_congr (fun j hj => ?_)
    rw [hnth i hi, hnth j hj, Int.toNat_natCast, Int.toNat_natCast]
  have hp := ord_perm h
  have e3 : sumL (fun a => sumL (fun b => if adjB L a.toNat b.toNat then 1 else 0) xs) xs = sumL (fun a => sumL (fun b => if adjB L a.toNat b.toNat then 1 else 0) (allL L.length)) (allL L.length) := by
    rw [sumL_perm hp]
    unfold sumL
    congr 1
    refine List.map_congr_left (fun a _ => ?_)
    exact sumL_perm hp
  rw [e2, e3, ← e1] at h2
  omega

end Go.Proofs.YtohjfcfcopbmoaaGreatDoor
