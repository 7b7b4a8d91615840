/- The texts H0, K3, joined. -/
import Derived.Test.YtmfolclpddoplaaQE1
import Derived.Test.YtmfolclpddoplaaQF6
import Derived.Test.YtmfolclpddoplaaQF4

/- Plain facts: masks and rows counted. -/
namespace Go.Proofs.Ytmfolclpddoplaa
open Go.RowKit

theorem listTo_bits (M k : Nat) : (listTo M k).length = bitsTo M k := by
  induction k with
  | zero => rfl
  | succ k ih =>
    rw [listTo_succ, List.length_append, ih]
    show _ = bitsTo M k + _
    by_cases h : M.testBit k = true
    · simp [h]
    · simp [h]

theorem row_listM {L : List (List Int)} (hG : GraphP L) {u : Nat} (hu : u < L.length) : listM (rowM L u) = nthR L u := by
  have hs := (hG.2.1 u hu).1
  have hp : SetP (nthR L u) 16 := SetP.mk hs.pairwise (fun x hx => by have := hs.bounds x hx; have := hG.1; omega)
  refine sets_eq (listM_set _) hp (fun z => ?_)
  rw [listM_mem, rowM, if_pos hu]
  constructor
  · rintro ⟨i, hi, hb, rfl⟩
    obtain ⟨j, hj, hz⟩ := (maskTo_bit _ _ i (fun j hj => (hs.bounds _ (nth_mem hj)).1)).1 hb
    rw [← hz]; exact nth_mem hj
  · intro hz
    have hb := hp.bounds z hz
    obtain ⟨j, hj, hjz⟩ := List.mem_iff_getElem.1 hz
    refine ⟨z.toNat, by omega, (maskTo_bit _ _ _ (fun j hj => (hs.bounds _ (nth_mem hj)).1)).2 ⟨j, hj, ?_⟩, by omega⟩
    rw [nth_eq hj, hjz]; omega

theorem row_bits {L : List (List Int)} (hG : GraphP L) {u : Nat} (hu : u < L.length) : bitsTo (rowM L u) 16 = (nthR L u).length := by
  rw [← row_listM hG hu, ← listTo_bits]; rfl

theorem sumTo_lt {f : Nat → Nat} {u : Nat} : ∀ n, (∀ i, i < n → f i ≤ 1) → u < n → f u = 0 → sumTo f n < n
  | 0, _, h, _ => by omega
  | n + 1, h, hu, h0 => by
    have hle : ∀ m, (∀ i, i < m → f i ≤ 1) → sumTo f m ≤ m := by
      intro m
      induction m with
      | zero => intro _; simp [sumTo]
      | succ m ih => intro hm; have := ih (fun i hi => hm i (by omega)); have := hm m (by omega); simp only [sumTo]; omega
    by_cases e : u = n
    · subst e
      have := hle u (fun i hi => h i (by omega))
      simp only [sumTo]; omega
    · have := sumTo_lt n (fun i hi => h i (by omega)) (by omega) h0
      have := h n (by omega)
      simp only [sumTo]; omega
theorem row_len_lt {L : List (List Int)} (hG : GraphP L) {u : Nat} (hu : u < L.length) : (nthR L u).length < L.length := by
  rw [← row_bits hG hu, deg_bits hG hu]
  exact sumTo_lt _ (fun i _ => by unfold adj; split <;> omega) hu (adj_diag hG u hu)


end Go.Proofs.Ytmfolclpddoplaa

/- Plain facts: a graph is the graph of its edges. -/
namespace Go.Proofs.Ytmfolclpddoplaa
open Go.RowKit

theorem edgesRow_mem {u : Nat} {row : List Int} {k : Nat} (hk : k ≤ row.length) (e : List Int) : e ∈ edgesRow u row k ↔ ∃ j, j < k ∧ (u : Int) < nth row j ∧ e = [(u : Int), nth row j] := by
  induction k with
  | zero => simp [edgesRow]
  | succ k ih =>
    simp only [edgesRow, List.mem_append, ih (by omega)]
    constructor
    · rintro (⟨j, hj, h1, h2⟩ | h)
      · exact ⟨j, by omega, h1, h2⟩
      · by_cases h1 : (u : Int) < nth row k
        · rw [if_pos h1] at h; exact ⟨k, by omega, h1, by simpa using h⟩
        · rw [if_neg h1] at h; simp at h
    · rintro ⟨j, hj, h1, h2⟩
      by_cases e1 : j = k
      · subst e1; right; rw [if_pos h1, h2]; simp
      · left; exact ⟨j, by omega, h1, h2⟩
theorem edgesTo_mem {L : List (List Int)} (k : Nat) (e : List Int) : e ∈ edgesTo L k ↔ ∃ u, u < k ∧ ∃ x ∈ nthR L u, (u : Int) < x ∧ e = [(u : Int), x] := by
  induction k with
  | zero => simp [edgesTo]
  | succ k ih =>
    simp only [edgesTo, List.mem_append, ih, edgesRow_mem (Nat.le_refl _)]
    constructor
    · rintro (⟨u, hu, x, hx, h1, h2⟩ | ⟨j, hj, h1, h2⟩)
      · exact ⟨u, by omega, x, hx, h1, h2⟩
      · exact ⟨k, by omega, _, nth_mem hj, h1, h2⟩
    · rintro ⟨u, hu, x, hx, h1, h2⟩
      by_cases e1 : u = k
      · subst e1
        obtain ⟨j, hj, rfl⟩ := List.mem_iff_getElem.1 hx
        right; exact ⟨j, hj, by rw [nth_eq hj]; exact h1, by rw [nth_eq hj]; exact h2⟩
      · left; exact ⟨u, by omega, x, hx, h1, h2⟩

theorem graph_back {L : List (List Int)} (hG : GraphP L) {u v : Nat} (hu : u < L.length) (h : (v : Int) ∈ nthR L u) : (u : Int) ∈ nthR L v := by
  obtain ⟨j, hj, e⟩ := List.mem_iff_getElem.1 h
  have := hG.2.2 u hu j hj
  rw [nth_eq hj, e] at this
  exact (hasB_mem _ _).1 (by simpa using this)
theorem graph_range {L : List (List Int)} (hG : GraphP L) {u : Nat} (hu : u < L.length) {x : Int} (h : x ∈ nthR L u) : 0 ≤ x ∧ x < L.length ∧ x ≠ (u : Int) := by
  have hb := (hG.2.1 u hu).1.bounds x h
  refine ⟨hb.1, by omega, fun e => ?_⟩
  have h2 := (hG.2.1 u hu).2
  rw [e] at h
  rw [(hasB_mem _ _).2 h] at h2
  cases h2

theorem edge_ok {L : List (List Int)} (hG : GraphP L) {e : List Int} (h : e ∈ edgesTo L L.length) : EdgeP e L.length := by
  obtain ⟨u, hu, x, hx, h1, rfl⟩ := (edgesTo_mem _ _).1 h
  have hr := graph_range hG hu hx
  exact ⟨rfl, by show 0 ≤ (u : Int); omega, h1, by show x < _; omega⟩
theorem sumTo_le {f : Nat → Nat} {B : Nat} : ∀ n, (∀ i, i < n → f i ≤ B) → sumTo f n ≤ B * n
  | 0, _ => by simp [sumTo]
  | n + 1, h => by have := sumTo_le n (fun i hi => h i (by omega)); have := h n (by omega); simp only [sumTo, Nat.mul_succ]; omega
theorem edges_le {L : List (List Int)} (hG : GraphP L) : (edgesTo L L.length).length ≤ 120 := by
  have h1 := bits_edges hG
  have h2 := sumTo_le (f := fun i => bitsTo (rowM L i) 16) (B := 15) 16 (fun i hi => by
    by_cases h : i < L.length
    · have := row_len_lt hG h; have := hG.1; show bitsTo (rowM L i) 16 ≤ 15; rw [row_bits hG h]; omega
    · have e : rowM L i = 0 := by unfold rowM; exact if_neg h
      show bitsTo (rowM L i) 16 ≤ 15
      rw [e, bitsTo_zero]; omega)
  omega
theorem of_edges {L : List (List Int)} (hG : GraphP L) : OfP L.length (edgesTo L L.length) := by
  refine ⟨by have := hG.1; simp [inB]; omega, edges_le hG, fun k hk => edge_ok hG (nthR_mem hk)⟩

/-- Which vertices the first k edges join to i. -/
theorem edgeM_bit {E : List (List Int)} {n : Int} (hn : n ≤ 16) : ∀ k, (∀ j, j < k → EdgeP (nthR E j) n) → ∀ i z : Nat, (edgeM E k i).testBit z = true ↔ ∃ j, j < k ∧ ((nth (nthR E j) 0 = (i : Int) ∧ nth (nthR E j) 1 = (z : Int)) ∨ (nth (nthR E j) 0 = (z : Int) ∧ nth (nthR E j) 1 = (i : Int)))
  | 0, _, i, z => by simp [edgeM]
  | k + 1, h, i, z => by
    have ih := edgeM_bit hn k (fun j hj => h j (by omega))
    obtain ⟨_, h1, h2, h3⟩ := h k (by omega)
    obtain ⟨p, hp⟩ : ∃ p : Nat, nth (nthR E k) 0 = (p : Int) := ⟨(nth (nthR E k) 0).toNat, by omega⟩
    obtain ⟨q, hq⟩ : ∃ q : Nat, nth (nthR E k) 1 = (q : Int) := ⟨(nth (nthR E k) 1).toNat, by omega⟩
    have hpq : p ≠ q := by omega
    show (linkM (edgeM E k) (nth (nthR E k) 0).toNat (nth (nthR E k) 1).toNat i).testBit z = true ↔ _
    rw [hp, hq, Int.toNat_natCast, Int.toNat_natCast]
    have split : (∃ j, j < k + 1 ∧ ((nth (nthR E j) 0 = (i : Int) ∧ nth (nthR E j) 1 = (z : Int)) ∨ (nth (nthR E j) 0 = (z : Int) ∧ nth (nthR E j) 1 = (i : Int)))) ↔ ((edgeM E k i).testBit z = true ∨ ((p = i ∧ q = z) ∨ (p = z ∧ q = i))) := by
      rw [ih i z]
      constructor
      · rintro ⟨j, hj, hh⟩
        by_cases e : j = k
        · subst e; rw [hp, hq] at hh; right; omega
        · left; exact ⟨j, by omega, hh⟩
      · rintro (⟨j, hj, hh⟩ | hh)
        · exact ⟨j, by omega, hh⟩
        · exact ⟨k, by omega, by rw [hp, hq]; omega⟩
    rw [split]
    unfold linkM
    by_cases e1 : i = q
    · subst e1
      rw [if_pos rfl, Nat.testBit_or, Bool.or_eq_true, Nat.testBit_two_pow, decide_eq_true_iff]
      constructor
      · rintro (h | h)
        · exact Or.inl h
        · right; right; exact ⟨h, rfl⟩
      · rintro (h | h | h)
        · exact Or.inl h
        · exact absurd h.1 hpq
        · exact Or.inr h.1
    · rw [if_neg e1]
      by_cases e2 : i = p
      · subst e2
        rw [if_pos rfl, Nat.testBit_or, Bool.or_eq_true, Nat.testBit_two_pow, decide_eq_true_iff]
        constructor
        · rintro (h | h)
          · exact Or.inl h
          · right; left; exact ⟨rfl, h⟩
        · rintro (h | h | h)
          · exact Or.inl h
          · exact Or.inr h.2
          · omega
      · rw [if_neg e2]
        constructor
        · exact Or.inl
        · rintro (h | h | h)
          · exact h
          · omega
          · omega

theorem of_graph {L : List (List Int)} (hG : GraphP L) : ofL L.length (edgesTo L L.length) = L := by
  have hz := hG.1
  have hof := of_edges hG
  rw [ofL, if_pos hof]
  apply nthR_ext
  · rw [maskL_len]; simp
  · intro i hi
    rw [maskL_len] at hi
    rw [maskL_nth _ hi]
    have hi' : i < L.length := by simpa using hi
    have hs := (hG.2.1 i hi').1
    have hp : SetP (nthR L i) 16 := SetP.mk hs.pairwise (fun x hx => by have := hs.bounds x hx; omega)
    refine sets_eq (listM_set _) hp (fun z => ?_)
    rw [listM_mem]
    have hbit := edgeM_bit (n := L.length) (by omega) (edgesTo L L.length).length hof.2.2 i
    constructor
    · rintro ⟨y, hy, hb, rfl⟩
      obtain ⟨j, hj, hh⟩ := (hbit y).1 hb
      obtain ⟨u, hu, x, hx, h1, he⟩ := (edgesTo_mem _ _).1 (nthR_mem hj)
      rw [he] at hh
      have hh : ((u : Int) = (i : Int) ∧ x = (y : Int)) ∨ ((u : Int) = (y : Int) ∧ x = (i : Int)) := hh
      rcases hh with ⟨ha, hxy⟩ | ⟨ha, hxy⟩
      · have : u = i := by omega
        subst this; rw [← hxy]; exact hx
      · have : u = y := by omega
        subst this; subst hxy; exact graph_back hG hu hx
    · intro hzr
      have hr := graph_range hG hi' hzr
      obtain ⟨y, rfl⟩ : ∃ y : Nat, z = (y : Int) := ⟨z.toNat, by omega⟩
      refine ⟨y, by omega, (hbit y).2 ?_, rfl⟩
      by_cases hiy : i < y
      · obtain ⟨j, hj, he⟩ := List.mem_iff_getElem.1 ((edgesTo_mem L.length _).2 ⟨i, hi', (y : Int), hzr, by omega, rfl⟩)
        exact ⟨j, hj, Or.inl (by rw [nthR_eq hj, he]; exact ⟨rfl, rfl⟩)⟩
      · have hyl : y < L.length := by omega
        obtain ⟨j, hj, he⟩ := List.mem_iff_getElem.1 ((edgesTo_mem L.length _).2 ⟨y, hyl, (i : Int), graph_back hG hi' hzr, by omega, rfl⟩)
        exact ⟨j, hj, Or.inr (by rw [nthR_eq hj, he]; exact ⟨rfl, rfl⟩)⟩


end Go.Proofs.Ytmfolclpddoplaa
