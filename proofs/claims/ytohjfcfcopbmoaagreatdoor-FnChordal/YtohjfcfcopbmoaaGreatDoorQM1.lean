/- The texts M1, M2, M3, M6, M7, joined. -/
import Derived.Test.YtohjfcfcopbmoaaGreatDoorG1
import Derived.Test.YtohjfcfcopbmoaaGreatDoorQE1
import Derived.Test.YtohjfcfcopbmoaaGreatDoorQC1
import Derived.Deep.RegionLaw
import Derived.StillTailTactics
import Derived.Deep.RegionHeld3

/- Plain facts: graphs by who is near whom. -/
namespace Go.Proofs.YtohjfcfcopbmoaaGreatDoor
open Go.RowKit

/-- The mask of the numbers below k of which p holds. -/
def pmTo (p : Nat → Bool) : Nat → Nat
  | 0 => 0
  | k + 1 => if p k then pmTo p k ||| 2 ^ k else pmTo p k
/-- .. below 16. -/
def pm (p : Nat → Bool) : Nat := pmTo p 16
theorem pmTo_bit (p : Nat → Bool) (k j : Nat) : (pmTo p k).testBit j = (decide (j < k) && p j) := by
  induction k with
  | zero => simp [pmTo]
  | succ k ih =>
    unfold pmTo
    by_cases hp : p k = true
    · rw [if_pos hp, Nat.testBit_or, ih, Nat.testBit_two_pow]
      by_cases e : k = j
      · subst e; simp [hp]
      · by_cases h : j < k
        · simp [h, Nat.lt_succ_of_lt h, e]
        · simp [h, e, show ¬ j < k + 1 from by omega]
    · rw [if_neg hp, ih]
      by_cases e : j = k
      · subst e; simp [hp]
      · by_cases h : j < k
        · simp [h, Nat.lt_succ_of_lt h]
        · simp [h, show ¬ j < k + 1 from by omega]
theorem pm_bit (p : Nat → Bool) (j : Nat) : (pm p).testBit j = (decide (j < 16) && p j) := pmTo_bit p 16 j
theorem pm_lt (p : Nat → Bool) : pm p < 65536 := by
  apply Nat.lt_pow_two_of_testBit (n := 16)
  intro i hi
  rw [pm_bit]
  simp; omega
theorem pm_congr {p q : Nat → Bool} (h : ∀ j, j < 16 → p j = q j) : pm p = pm q := by
  apply Nat.eq_of_testBit_eq
  intro j
  rw [pm_bit, pm_bit]
  by_cases hj : j < 16
  · rw [h j hj]
  · simp [hj]
theorem pm_of {M : Nat} (h : M < 65536) : pm (fun j => M.testBit j) = M := by
  apply Nat.eq_of_testBit_eq
  intro j
  rw [pm_bit]
  by_cases hj : j < 16
  · simp [hj]
  · simp only [hj, decide_false, Bool.false_and]
    symm
    apply Nat.testBit_lt_two_pow
    exact Nat.lt_of_lt_of_le h (Nat.pow_le_pow_right (n := 2) (by omega) (by omega : 16 ≤ j))
theorem pm_false : pm (fun _ => false) = 0 := by
  apply Nat.eq_of_testBit_eq
  intro j
  rw [pm_bit]
  simp

/-- The lists of n vertices by who is near whom. -/
def adjL (n : Nat) (A : Nat → Nat → Bool) : List (List Int) := maskL n (fun i => pm (A i))
theorem adjL_len (n : Nat) (A : Nat → Nat → Bool) : (adjL n A).length = n := maskL_len _ _
theorem adjL_nth {n : Nat} (A : Nat → Nat → Bool) {i : Nat} (hi : i < n) : nthR (adjL n A) i = listM (pm (A i)) := maskL_nth _ hi
theorem adjL_congr {n : Nat} {A A' : Nat → Nat → Bool} (h : ∀ i, i < n → ∀ j, j < 16 → A i j = A' i j) : adjL n A = adjL n A' := by
  apply nthR_ext
  · rw [adjL_len, adjL_len]
  · intro i hi
    rw [adjL_len] at hi
    rw [adjL_nth _ hi, adjL_nth _ hi, pm_congr (h i hi)]
theorem adjL_small (n : Nat) (A : Nat → Nat → Bool) (hn : n ≤ 16) : Small (adjL n A) := by
  refine ⟨by rw [adjL_len]; omega, fun i hi => ?_⟩
  rw [adjL_len] at hi
  rw [adjL_nth _ hi]
  have := listM_len (pm (A i))
  omega
theorem adjL_empty (n : Nat) : List.replicate n ([] : List Int) = adjL n (fun _ _ => false) := by
  apply nthR_ext
  · simp [adjL_len]
  · intro i hi
    rw [List.length_replicate] at hi
    rw [adjL_nth _ hi, pm_false, listM_zero]
    simp [nthR, hi]

/-- .. with x and y joined. -/
def linkA (A : Nat → Nat → Bool) (x y : Nat) (i j : Nat) : Bool := A i j || (i == x && j == y) || (i == y && j == x)
theorem linkM_pm (A : Nat → Nat → Bool) {x y : Nat} (hx : x < 16) (hy : y < 16) (hxy : x ≠ y) (i : Nat) : linkM (fun i => pm (A i)) x y i = pm (linkA A x y i) := by
  apply Nat.eq_of_testBit_eq
  intro j
  rw [pm_bit]
  unfold linkM linkA
  by_cases e1 : i = y
  · subst e1
    rw [if_pos rfl, Nat.testBit_or, pm_bit, Nat.testBit_two_pow]
    have e : (i == x) = false := by rw [beq_eq_false_iff_ne]; exact fun h => hxy h.symm
    rw [e]
    by_cases e2 : j = x
    · subst e2; simp [hx]
    · have e3 : ¬ x = j := fun h => e2 h.symm
      have e4 : (j == x) = false := by rw [beq_eq_false_iff_ne]; exact e2
      simp [e3, e4]
  · rw [if_neg e1]
    have e : (i == y) = false := by rw [beq_eq_false_iff_ne]; exact e1
    rw [e]
    by_cases e2 : i = x
    · subst e2
      rw [if_pos rfl, Nat.testBit_or, pm_bit, Nat.testBit_two_pow]
      by_cases e3 : j = y
      · subst e3; simp [hy]
      · have e4 : ¬ y = j := fun h => e3 h.symm
        have e5 : (j == y) = false := by rw [beq_eq_false_iff_ne]; exact e3
        simp [e4, e5]
    · rw [if_neg e2, pm_bit]
      have e5 : (i == x) = false := by rw [beq_eq_false_iff_ne]; exact e2
      simp [e5]

/-- Who is near whom in a graph. -/
def adjB (L : List (List Int)) (i j : Nat) : Bool := (rowM L i).testBit j
theorem adjB_range {L : List (List Int)} (hG : GraphP L) {i j : Nat} (h : adjB L i j = true) : i < L.length ∧ j < L.length := by
  unfold adjB rowM at h
  by_cases hi : i < L.length
  · rw [if_pos hi] at h
    have hs := (hG.2.1 i hi).1
    rw [maskTo_bit _ _ _ (fun q hq => (hs q hq).1)] at h
    obtain ⟨q, hq, e⟩ := h
    have := (hs q hq).2.1
    rw [e] at this
    exact ⟨hi, by omega⟩
  · rw [if_neg hi] at h; simp at h
theorem adjB_has {L : List (List Int)} (hG : GraphP L) {i j : Nat} (hi : i < L.length) (hj : j < 16) : hasB (nthR L i) (j : Int) = adjB L i j := by
  have hs : ∀ v, v < L.length → SetP (nthR L v) L.length := fun v hv => (hG.2.1 v hv).1
  rw [← rowM_has hs hi hj]
  unfold hasM adjB
  simp; omega
theorem adjB_hasM {L : List (List Int)} (i : Nat) {j : Nat} (hj : j < 16) : hasM (rowM L i) (j : Int) = adjB L i j := by
  unfold hasM adjB
  simp; omega
theorem adjB_self {L : List (List Int)} (hG : GraphP L) (i : Nat) : adjB L i i = false := by
  cases h : adjB L i i with
  | false => rfl
  | true =>
    have hr := adjB_range hG h
    have hz := hG.1
    rw [← adjB_has hG hr.1 (by omega), (hG.2.1 i hr.1).2] at h
    cases h
theorem adjB_sym {L : List (List Int)} (hG : GraphP L) (i j : Nat) : adjB L i j = adjB L j i := by
  have key : ∀ i j, adjB L i j = true → adjB L j i = true := by
    intro i j h
    have hr := adjB_range hG h
    have hz := hG.1
    rw [← adjB_has hG hr.1 (by omega), hasB_iff] at h
    obtain ⟨q, hq, e⟩ := h
    have := hG.2.2 i hr.1 q hq
    rw [e, Int.toNat_natCast] at this
    rw [← adjB_has hG hr.2 (by omega)]
    exact this
  rw [Bool.eq_iff_iff]
  exact ⟨key i j, key j i⟩
theorem rowM_pm {L : List (List Int)} (hG : GraphP L) (i : Nat) : rowM L i = pm (adjB L i) := (pm_of (rowM_lt (by have := hG.1; omega) (fun v hv => (hG.2.1 v hv).1) i)).symm
/-- A graph is the one of its own masks. -/
theorem graph_adjL {L : List (List Int)} (hG : GraphP L) : adjL L.length (adjB L) = L := by
  apply nthR_ext
  · rw [adjL_len]
  · intro i hi
    rw [adjL_len] at hi
    rw [adjL_nth _ hi]
    have hz := hG.1
    have hs := (hG.2.1 i hi).1
    refine sets_eq (listM_set _) (SetP.mk hs.pairwise (fun x hx => by have := hs.bounds x hx; omega)) (fun z => ?_)
    rw [listM_mem]
    constructor
    · rintro ⟨j, hj, hb, rfl⟩
      rw [pm_bit, Bool.and_eq_true] at hb
      rw [← hasB_mem, adjB_has hG hi hj]
      exact hb.2
    · intro hz2
      have hb := hs.bounds z hz2
      obtain ⟨j, rfl⟩ : ∃ j : Nat, z = (j : Int) := ⟨z.toNat, by omega⟩
      have hj : j < 16 := by omega
      refine ⟨j, hj, ?_, rfl⟩
      rw [pm_bit, ← adjB_has hG hi hj, (hasB_mem _ _).2 hz2]
      simp [hj]

/-- A symmetric relation without loops is a graph. -/
theorem adjL_graph {n : Nat} {A : Nat → Nat → Bool} (hn : 1 ≤ n ∧ n ≤ 16) (hr : ∀ i j, A i j = true → j < n) (hs : ∀ i j, A i j = A j i) (hl : ∀ i, A i i = false) : GraphP (adjL n A) := by
  have hmem : ∀ i, i < n → ∀ z : Int, hasB (nthR (adjL n A) i) z = true ↔ ∃ j : Nat, z = (j : Int) ∧ A i j = true := by
    intro i hi z
    rw [hasB_mem, adjL_nth _ hi, listM_mem]
    constructor
    · rintro ⟨j, hj, hb, rfl⟩
      rw [pm_bit, Bool.and_eq_true] at hb
      exact ⟨j, rfl, hb.2⟩
    · rintro ⟨j, rfl, hb⟩
      have := hr i j hb
      refine ⟨j, by omega, ?_, rfl⟩
      rw [pm_bit, hb]; simp; omega
  refine ⟨by rw [adjL_len]; exact hn, fun v hv => ⟨?_, ?_⟩, fun v hv i hi => ?_⟩
  · rw [adjL_len] at hv ⊢
    rw [adjL_nth _ hv]
    refine SetP.mk (listM_set _).pairwise (fun x hx => ?_)
    have := (hmem v hv x).1 (by rw [adjL_nth _ hv]; exact (hasB_mem _ _).2 hx)
    obtain ⟨j, rfl, hb⟩ := this
    have := hr v j hb
    omega
  · rw [adjL_len] at hv
    cases h : hasB (nthR (adjL n A) v) (v : Int) with
    | false => rfl
    | true =>
      obtain ⟨j, e, hb⟩ := (hmem v hv _).1 h
      have : v = j := by omega
      subst this
      rw [hl v] at hb; cases hb
  · rw [adjL_len] at hv
    obtain ⟨j, e, hb⟩ := (hmem v hv _).1 ((hasB_iff _ _).2 ⟨i, hi, rfl⟩)
    rw [e, Int.toNat_natCast]
    exact (hmem j (hr v j hb) _).2 ⟨v, rfl, by rw [hs]; exact hb⟩

/-- A call has handed back a graph of its own make, and a bool. -/
def GaveGB (w : World) (R : List (List Int)) (ok : Bool) (e : Ending) (w' : World) : Prop :=
  ∃ m a c, e = .returned (.tuple #[.agg #[.slice a m c], .bool ok]) ∧ OwnGrid 2 33 w' w.heap.size (.slice a m c) R ∧ Below w.heap.size w w'
theorem GaveGB.no {w : World} {w' : World} (hb : Below w.heap.size w w') : GaveGB w [] false (.returned (.tuple #[.agg #[.slice none 0 0], .bool false])) w' :=
  ⟨0, none, 0, rfl, own_nil _ _, hb⟩

/-- Two vertices joined in the model's graph, as a graph by who is near whom. -/
theorem l1Link_adj (x y g cap B n : Nat) (A : Nat → Nat → Bool) (w : World) (h : OwnGrid 2 33 w B (.slice (some ⟨g, 0, none⟩) n cap) (adjL n A)) (hB : B ≤ w.heap.size) (hx : x < n) (hy : y < n) (hl : n ≤ 16) (hxy : x ≠ y) :
    Calls Tryz.prog 181 #[.agg #[.slice (some ⟨g, 0, none⟩) n cap], .int .i64 (x : Int), .int .i64 (y : Int)] w
      (fun e w' => e = .returned (.agg #[.slice (some ⟨g, 0, none⟩) n cap]) ∧ OwnGrid 2 33 w' B (.slice (some ⟨g, 0, none⟩) n cap) (adjL n (linkA A x y)) ∧ Below B w w' ∧ ∀ k, k < w.heap.size → k ≠ g → w'.heap[k]? = w.heap[k]?) := by
  have hlen := adjL_len n A
  have := l1Link_own x y g cap B (adjL n A) w (by rw [hlen]; exact h) hB (by rw [hlen]; exact hx) (by rw [hlen]; exact hy) (by rw [hlen]; exact hl) hxy (pm (A x)) (pm (A y)) (adjL_nth _ hx) (adjL_nth _ hy)
  rw [hlen] at this
  have e : ((adjL n A).set x (listM (pm (A x) ||| 2 ^ y))).set y (listM (pm (A y) ||| 2 ^ x)) = adjL n (linkA A x y) := by
    have := maskL_link n (fun i => pm (A i)) x y hxy
    rw [adjL, this, adjL]
    apply nthR_ext
    · rw [maskL_len, maskL_len]
    · intro i hi
      rw [maskL_len] at hi
      rw [maskL_nth _ hi, maskL_nth _ hi, linkM_pm A (by omega) (by omega) hxy]
  rw [e] at this
  exact this

end Go.Proofs.YtohjfcfcopbmoaaGreatDoor

/- Walks: the model's complement. -/
namespace Go.Proofs.YtohjfcfcopbmoaaGreatDoor
open Go.RowKit

/-- Which pairs have been looked at: all below v, and of v those below u. -/
def doneB (v u i j : Nat) : Bool := decide ((i < v ∧ j < v) ∨ (i = v ∧ j < u) ∨ (j = v ∧ i < u))
/-- .. and are near by R. -/
def stepA (R : Nat → Nat → Bool) (v u i j : Nat) : Bool := doneB v u i j && R i j
theorem doneB_same {v u i j : Nat} (h1 : ¬ (i = u ∧ j = v)) (h2 : ¬ (i = v ∧ j = u)) : doneB v (u + 1) i j = doneB v u i j := by
  unfold doneB
  rw [Bool.eq_iff_iff, decide_eq_true_iff, decide_eq_true_iff]
  omega
theorem stepA_link {R : Nat → Nat → Bool} {v u : Nat} (h1 : R u v = true) (h2 : R v u = true) (i j : Nat) : stepA R v (u + 1) i j = linkA (stepA R v u) u v i j := by
  unfold linkA
  by_cases e1 : i = u ∧ j = v
  · obtain ⟨rfl, rfl⟩ := e1
    have : stepA R j (i + 1) i j = true := by unfold stepA doneB; rw [h1, Bool.and_true, decide_eq_true_iff]; omega
    rw [this]; simp
  · by_cases e2 : i = v ∧ j = u
    · obtain ⟨rfl, rfl⟩ := e2
      have : stepA R i (j + 1) i j = true := by unfold stepA doneB; rw [h2, Bool.and_true, decide_eq_true_iff]; omega
      rw [this]; simp
    · have c1 : (i == u && j == v) = false := by cases h : (i == u && j == v) with | false => rfl | true => (simp at h; exact absurd h e1)
      have c2 : (i == v && j == u) = false := by cases h : (i == v && j == u) with | false => rfl | true => (simp at h; exact absurd h e2)
      rw [c1, c2, Bool.or_false, Bool.or_false]
      unfold stepA
      rw [doneB_same e1 e2]
theorem stepA_skip {R : Nat → Nat → Bool} {v u : Nat} (h1 : R u v = false) (h2 : R v u = false) (i j : Nat) : stepA R v (u + 1) i j = stepA R v u i j := by
  unfold stepA
  by_cases e1 : i = u ∧ j = v
  · obtain ⟨rfl, rfl⟩ := e1; rw [h1, Bool.and_false, Bool.and_false]
  · by_cases e2 : i = v ∧ j = u
    · obtain ⟨rfl, rfl⟩ := e2; rw [h2, Bool.and_false, Bool.and_false]
    · rw [doneB_same e1 e2]
theorem stepA_next {R : Nat → Nat → Bool} (hl : ∀ i, R i i = false) (v i j : Nat) : stepA R v v i j = stepA R (v + 1) 0 i j := by
  unfold stepA
  by_cases e : i = j
  · subst e; rw [hl, Bool.and_false, Bool.and_false]
  · congr 1
    unfold doneB
    rw [Bool.eq_iff_iff, decide_eq_true_iff, decide_eq_true_iff]
    omega
theorem stepA_zero (R : Nat → Nat → Bool) (i j : Nat) : stepA R 0 0 i j = false := by
  unfold stepA doneB
  rw [decide_eq_false (by omega), Bool.false_and]
theorem stepA_all {R : Nat → Nat → Bool} {n : Nat} (hr : ∀ i j, R i j = true → i < n ∧ j < n) (i j : Nat) : stepA R n 0 i j = R i j := by
  unfold stepA doneB
  cases h : R i j with
  | false => rw [Bool.and_false]
  | true => rw [Bool.and_true, decide_eq_true_iff]; exact Or.inl (hr i j h)

/-- The boxes of a model's function at work: its graph's, its result's, and that of the graph which it makes. -/
structure Work (w0 : World) (b0 : Nat) (v : Value) (bo n B : Nat) (A : Nat → Nat → Bool) (w : World) : Prop where
  arg : BoxAt w b0 v
  res : BoxAt w (b0 + 1) (.slice none 0 0)
  out : ∃ a c, BoxT 26 w bo (.slice a n c) ∧ OwnGrid 2 33 w B (.slice a n c) (adjL n A)
  bel : Below b0 w0 w
theorem Work.keep {w0 : World} {b0 : Nat} {v : Value} {bo n B : Nat} {A : Nat → Nat → Bool} {w w' : World} (h : Work w0 b0 v bo n B A w) (hb : Below w.heap.size w w') : Work w0 b0 v bo n B A w' := by
  obtain ⟨h1, h2, ⟨a, c, h3, h4⟩, h5⟩ := h
  exact ⟨h1.keep hb, h2.keep hb, ⟨a, c, h3.keep hb, h4.keep hb⟩, h5.trans (hb.mono (Nat.le_of_lt h1.lt))⟩
theorem Work.congr {w0 : World} {b0 : Nat} {v : Value} {bo n B : Nat} {A A' : Nat → Nat → Bool} {w : World} (h : Work w0 b0 v bo n B A w) (e : ∀ i j, A i j = A' i j) : Work w0 b0 v bo n B A' w := by
  obtain rfl : A = A' := by funext i j; exact e i j
  exact h

/-- Who is near whom in the complement. -/
def compA (L : List (List Int)) (i j : Nat) : Bool := decide (i < L.length) && decide (j < L.length) && (i != j) && !adjB L i j
def compL (L : List (List Int)) : List (List Int) := if GraphP L then adjL L.length (compA L) else []

theorem compA_sym {L : List (List Int)} (hG : GraphP L) (i j : Nat) : compA L i j = compA L j i := by
  unfold compA
  rw [adjB_sym hG i j]
  have e : (i != j) = (j != i) := by rw [Bool.eq_iff_iff, bne_iff_ne, bne_iff_ne]; exact ⟨fun h e => h e.symm, fun h e => h e.symm⟩
  rw [e]
  cases decide (i < L.length) <;> cases decide (j < L.length) <;> rfl
theorem compA_range {L : List (List Int)} {i j : Nat} (h : compA L i j = true) : i < L.length ∧ j < L.length := by
  unfold compA at h
  simp at h
  exact ⟨h.1.1.1, h.1.1.2⟩
theorem compA_self (L : List (List Int)) (i : Nat) : compA L i i = false := by unfold compA; simp

end Go.Proofs.YtohjfcfcopbmoaaGreatDoor

/- Walks: the program's complement. -/
namespace Go.Proofs.YtohjfcfcopbmoaaGreatDoor
open Go.RowKit

/-- A mask without the bits of K. -/
def clrM (M K : Nat) : Nat := M &&& (4294967295 - K)
theorem clrM_bit {M K : Nat} (hM : M < 65536) (hK : K < 65536) (j : Nat) : (clrM M K).testBit j = (M.testBit j && !K.testBit j) := by
  unfold clrM
  rw [Nat.testBit_and]
  have e : 4294967295 - K = 2 ^ 32 - (K + 1) := by omega
  rw [e, Nat.testBit_two_pow_sub_succ (by omega)]
  by_cases hj : j < 32
  · simp [hj]
  · have : M.testBit j = false := Nat.testBit_lt_two_pow (Nat.lt_of_lt_of_le hM (Nat.pow_le_pow_right (n := 2) (by omega) (by omega : 16 ≤ j)))
    simp [this]
theorem clrM_lt {M : Nat} (K : Nat) (hM : M < 65536) : clrM M K < 65536 := Nat.lt_of_le_of_lt Nat.and_le_left hM

/-- All of n vertices. -/
theorem whole_lt {n : Nat} (hn : n ≤ 16) : 2 ^ n - 1 < 65536 := by
  have : 2 ^ n ≤ 2 ^ 16 := Nat.pow_le_pow_right (by omega) hn
  omega
theorem whole_bit (n j : Nat) : (2 ^ n - 1).testBit j = decide (j < n) := by
  rw [Nat.testBit_two_pow_sub_one]

set_option maxHeartbeats 400000 in
theorem wholeMask_any (n : Nat) (w : World) (hn : n ≤ 16) : Calls Tryz.prog 186 #[.int .i64 (n : Int)] w fun e w' => e = .returned (.int .u32 ((2 ^ n - 1 : Nat) : Int)) ∧ w = w' := by
  have h1 : 1 ≤ 2 ^ n := Nat.one_le_two_pow
  have h2 : 2 ^ n ≤ 65536 := Nat.pow_le_pow_right (n := 2) (by omega) hn
  have HE : Hid (IntKind.u32.wrap ((2 : Int) ^ n % 4294967296 - 1) = ((2 ^ n - 1 : Nat) : Int)) := by
    show IntKind.u32.wrap _ = _
    have e1 : ((2 : Int) ^ n) = ((2 ^ n : Nat) : Int) := by simp
    rw [e1]
    generalize 2 ^ n = q at h1 h2
    have e2 : ((q : Int) % 4294967296 - 1) = ((q - 1 : Nat) : Int) := by omega
    rw [e2]
    simp [IntKind.wrap, IntKind.signed, IntKind.bits]
    omega
  clear h1 h2
  go_enter Tryz.func186, Tryz.ntmps186
  go_wp2
  go_ret
  exact ⟨ret_int HE.out, rfl⟩

theorem bit_clr (M k : Nat) (hM : M < 65536) (hk : k < 16) : bits BinOp.andNot IntKind.u32 (M : Int) (2 ^ k % 4294967296) = ((clrM M (2 ^ k) : Nat) : Int) := by
  have h2 := pow_lt16 hk
  have h1 : ((2 : Int) ^ k % 4294967296) = ((2 ^ k : Nat) : Int) := by
    have : ((2 : Int) ^ k) = ((2 ^ k : Nat) : Int) := by simp
    rw [this]
    generalize 2 ^ k = q at h2
    omega
  rw [h1, u32_andNot_nat _ _ (by omega) (by omega)]
  rfl

set_option maxHeartbeats 400000 in
theorem cut_any (b o M : Nat) (v : Int) (w : World) (hc : w.cell? ⟨b, o, none⟩ = some (.int .u32 M)) (hf : w.frozen? ⟨b, o, none⟩ = false) (hM : M < 65536) (h1 : 0 ≤ v) (h2 : v < 16) :
    Calls Tryz.prog 187 #[.pointer (some ⟨b, o, none⟩), .int .i64 v] w fun e w' => e = .returned (.tuple #[]) ∧ Drawn (w.setCell ⟨b, o, none⟩ (.int .u32 ((clrM M (2 ^ v.toNat) : Nat) : Int))) w' := by
  have e : decide (0 ≤ v ∧ v < 16) = true := by simp [h1, h2]
  have HE := Lib.hid e
  clear e
  go_enter Tryz.func187, Tryz.ntmps187
  go_wp2_with fail
  refine (isVertex_any _ _ _).mono ?_
  rintro e w' ⟨rfl, rfl⟩
  rw [HE.out]
  go_wp2
  go_region
  go_end0
  exact ⟨rfl, by rw [bit_clr M _ hM (by omega)]; exact (Drawn.refl _).drew⟩

theorem comp_mask {L : List (List Int)} (hG : GraphP L) {k : Nat} (hk : k < L.length) : clrM (clrM (2 ^ L.length - 1) (rowM L k)) (2 ^ k) = pm (compA L k) := by
  have hz := hG.1
  have hw := whole_lt (n := L.length) (by omega)
  have hr := rowM_lt (L := L) (by omega) (fun v hv => (hG.2.1 v hv).1) k
  apply Nat.eq_of_testBit_eq
  intro j
  rw [clrM_bit (clrM_lt _ hw) (pow_lt16 (by omega)), clrM_bit hw hr, whole_bit, Nat.testBit_two_pow, pm_bit]
  unfold compA adjB
  rw [decide_eq_true hk]
  by_cases hj : j < L.length
  · have h16 : j < 16 := by omega
    have e : (k != j) = !decide (k = j) := by by_cases e : k = j <;> simp [e]
    rw [e]
    simp only [hj, h16, decide_true, Bool.true_and]
    cases (rowM L k).testBit j <;> cases decide (k = j) <;> rfl
  · simp [hj]

theorem compL_small (L : List (List Int)) : Small (compL L) := by
  unfold compL
  split
  · rename_i hG
    exact adjL_small _ _ (by have := hG.1; omega)
  · exact ⟨by simp, fun i hi => absurd hi (by simp)⟩

/-- The masks when the first k are turned. -/
def compTo (L : List (List Int)) (k i : Nat) : Nat := if i < k then pm (compA L i) else rowM L i

end Go.Proofs.YtohjfcfcopbmoaaGreatDoor

/- Walks: the subgraph of a set, the graph under other names. -/
namespace Go.Proofs.YtohjfcfcopbmoaaGreatDoor
open Go.RowKit

/-- The boxes of a function of one graph: its graph's and its result's. -/
structure Two (w0 : World) (v : Value) (w : World) : Prop where
  arg : BoxAt w w0.heap.size v
  res : BoxAt w (w0.heap.size + 1) (.slice none 0 0)
  bel : Below w0.heap.size w0 w
theorem Two.start (w : World) (v : Value) : Two w v ((w.alloc (.cells #[v] 26)).alloc (.cells #[.slice none 0 0] 26)) :=
  ⟨(BoxAt.new w v _).keep ((Below.refl _ _).alloc (Nat.le_refl _) _), by have := BoxAt.new (w.alloc (.cells #[v] 26)) (.slice none 0 0) 26; rwa [size_alloc1] at this, ((Below.refl _ _).alloc (Nat.le_refl _) _).alloc (by simp) _⟩
theorem Two.keep {w0 : World} {v : Value} {w w' : World} (h : Two w0 v w) (hb : Below w.heap.size w w') : Two w0 v w' :=
  ⟨h.arg.keep hb, h.res.keep hb, h.bel.trans (hb.mono h.bel.size)⟩
theorem Two.put {T : TypeId} {w0 : World} {v : Value} {w w' : World} {o : Obj} {n : Nat} {M : Nat → Nat} (h : Two w0 v w) (hp : NetPut T (w.alloc o) w' w.heap.size n M) : Two w0 v w' := h.keep hp.since
theorem Two.lt {w0 : World} {v : Value} {w : World} (h : Two w0 v w) : w0.heap.size + 1 < w.heap.size := h.res.lt
theorem Two.q0 {w0 : World} {v : Value} {w : World} (h : Two w0 v w) (u : Value) : (w.setCell ⟨w0.heap.size + 1, 0, none⟩ u).cell? ⟨w0.heap.size + 1, 0, none⟩ = some u := cell_set_same _ h.res.1
theorem Two.yes {w0 : World} {v : Value} {w : World} (h : Two w0 v w) {R : List (List Int)} {B m c : Nat} {a : Option Addr} {ok : Bool} (ho : OwnGrid 2 33 w B (.slice a m c) R) (hB : w0.heap.size + 1 < B) (hok : ok = true) :
    GaveGB w0 R ok (.returned (.tuple #[.agg #[.slice a m c], .bool true])) (w.setCell ⟨w0.heap.size + 1, 0, none⟩ (.slice a m c)) :=
  ⟨m, a, c, by rw [hok], (ho.setBelow hB _).mono (by omega), h.bel.setCell (by simp) _⟩
theorem Two.no {w0 : World} {v : Value} {w : World} (h : Two w0 v w) {R : List (List Int)} {ok : Bool} (hR : R = []) (hok : ok = false) :
    GaveGB w0 R ok (.returned (.tuple #[.agg #[.slice none 0 0], .bool false])) (w.setCell ⟨w0.heap.size + 1, 0, none⟩ (.slice none 0 0)) := by
  rw [hR, hok]
  exact GaveGB.no (h.bel.setCell (by exact Nat.le_succ _) _)

/-- Who is near whom among picked vertices. -/
def pickA (L : List (List Int)) (xs : List Int) (i j : Nat) : Bool := decide (i < xs.length) && decide (j < xs.length) && adjB L (nth xs i).toNat (nth xs j).toNat
theorem pickA_sym {L : List (List Int)} (hG : GraphP L) (xs : List Int) (i j : Nat) : pickA L xs i j = pickA L xs j i := by
  unfold pickA
  rw [adjB_sym hG]
  cases decide (i < xs.length) <;> cases decide (j < xs.length) <;> rfl
theorem pickA_self {L : List (List Int)} (hG : GraphP L) (xs : List Int) (i : Nat) : pickA L xs i i = false := by
  unfold pickA
  rw [adjB_self hG, Bool.and_false]
theorem pickA_range {L : List (List Int)} {xs : List Int} {i j : Nat} (h : pickA L xs i j = true) : i < xs.length ∧ j < xs.length := by
  unfold pickA at h
  simp at h
  exact h.1
/-- The list names vertices of the graph. -/
def InP (L : List (List Int)) (xs : List Int) : Prop := ∀ i, i < xs.length → 0 ≤ nth xs i ∧ nth xs i < (L.length : Int)
theorem pickA_spec {L : List (List Int)} {xs : List Int} (hG : GraphP L) (hx : InP L xs) : ∀ k i, k < i → i < xs.length → pickA L xs k i = hasB (nthR L (nth xs i).toNat) (nth xs k) := by
  intro k i hki hi
  have h1 := hx k (by omega)
  have h2 := hx i hi
  have hz := hG.1
  unfold pickA
  rw [decide_eq_true hi, decide_eq_true (by omega : k < xs.length), adjB_sym hG, ← adjB_has hG (by omega) (by omega), Int.toNat_of_nonneg h1.1]
  rfl
theorem pickA_impl {L : List (List Int)} {xs : List Int} (hG : GraphP L) (hx : InP L xs) : ∀ i j, i < xs.length → j < xs.length → pickA L xs i j = hasM (rowM L (nth xs i).toNat) (nth xs j) := by
  intro i j hi hj
  have h1 := hx j hj
  have hz := hG.1
  unfold pickA
  rw [decide_eq_true hi, decide_eq_true hj, ← adjB_hasM _ (by omega), Int.toNat_of_nonneg h1.1]
  rfl
theorem SetP.inP {L : List (List Int)} {xs : List Int} (h : SetP xs L.length) : InP L xs := fun i hi => ⟨(h i hi).1, by have := (h i hi).2.1; omega⟩
theorem OrdP.inP {L : List (List Int)} {xs : List Int} (h : OrdP xs L.length) : InP L xs := fun i hi => by
  have := (h.2 i hi).1
  have : 0 ≤ nth xs i ∧ nth xs i ≤ (L.length : Int) - 1 := by simpa [inB] using this
  omega

/-- The graph of picked vertices, where there is one. -/
def pickL (L : List (List Int)) (xs : List Int) (ok : Bool) : List (List Int) := if ok = true then adjL xs.length (pickA L xs) else []
theorem pickL_small {L : List (List Int)} {xs : List Int} {ok : Bool} (h : ok = true → xs.length ≤ 16) : Small (pickL L xs ok) := by
  unfold pickL
  split
  · rename_i h1
    exact adjL_small _ _ (h h1)
  · exact ⟨by simp, fun i hi => absurd hi (by simp)⟩
/-- May this subgraph be? -/
def indB (L : List (List Int)) (xs : List Int) : Bool := setB L xs && decide (0 < xs.length)
theorem indB_yes {L : List (List Int)} {xs : List Int} (h : indB L xs = true) : GraphP L ∧ SetP xs L.length ∧ 0 < xs.length ∧ xs.length ≤ 16 := by
  unfold indB setB at h
  simp at h
  have := h.1.2.len (by omega)
  have := h.1.1.1
  exact ⟨h.1.1, h.1.2, h.2, by omega⟩
theorem orderB_yes {L : List (List Int)} {xs : List Int} (h : orderB L xs = true) : GraphP L ∧ OrdP xs L.length ∧ 0 < xs.length ∧ xs.length ≤ 16 := by
  unfold orderB at h
  simp at h
  have := h.1.1
  have := h.2.1
  exact ⟨h.1, h.2, by omega, by omega⟩
theorem indL_small (L : List (List Int)) (xs : List Int) : Small (pickL L xs (indB L xs)) := pickL_small (fun h => (indB_yes h).2.2.2)
theorem renL_small (L : List (List Int)) (xs : List Int) : Small (pickL L xs (orderB L xs)) := pickL_small (fun h => (orderB_yes h).2.2.2)

end Go.Proofs.YtohjfcfcopbmoaaGreatDoor

/- Walks: all vertices, all but one; a vertex cut. -/
namespace Go.Proofs.YtohjfcfcopbmoaaGreatDoor
open Go.RowKit

/-- The numbers below n. -/
def allL (n : Nat) : List Int := (List.range n).map (fun i : Nat => (i : Int))
theorem allL_len (n : Nat) : (allL n).length = n := by simp [allL]
theorem allL_succ (n : Nat) : allL (n + 1) = allL n ++ [(n : Int)] := by simp [allL, List.range_succ]
theorem allL_mem (n : Nat) (z : Int) : z ∈ allL n ↔ ∃ i : Nat, i < n ∧ (i : Int) = z := by simp [allL]
theorem allL_pair (n : Nat) : (allL n).Pairwise (· < ·) := by
  unfold allL
  rw [List.pairwise_map]
  exact List.Pairwise.imp (fun h => by omega) List.pairwise_lt_range

set_option maxHeartbeats 800000 in
theorem l1All_any (n : Nat) (w : World) (hn : n ≤ 16) : Calls Tryz.prog 140 #[.int .i64 (n : Int)] w (GaveRow w (allL n)) := by
  obtain ⟨i0, hi, hz0, hz1, hz2⟩ := info_parts Tryz.infoI
  have hown0 : (w.alloc (.cells #[] 2)).ownsRow w.heap.size 2 1 (.slice (some ⟨w.heap.size, 0, none⟩) 0 0) 0 [] := World.ownsRow_lit w #[] 0 (Nat.le_refl _) (Nat.zero_le _) rfl
  have HO0 := Lib.hid hown0
  clear hown0
  go_enter Tryz.func140, Tryz.ntmps140
  go_wp2_with fail
  go_loopw [3, 4] (fun s i wr => ∃ k : Nat, k ≤ n ∧ i = .int .i64 k ∧ wr.ownsRow w.heap.size 2 1 s (allL k).length ((allL k).map (Value.int .i64)) ∧ Below w.heap.size w wr ∧ w.heap.size ≤ wr.heap.size) (fun _ i _ => n - (intOf i).toNat)
  case atStart => exact ⟨0, Nat.zero_le _, rfl, HO0.out, (Below.refl _ _).alloc (Nat.le_refl _) _, by simp⟩
  case round =>
    obtain ⟨k, hk, rfl, ho, hb, hz⟩ := hrel
    have HO := Lib.hid ho
    have HB := Lib.hid hb
    have hll := allL_len k
    have HLL := Lib.hid hll
    clear ho hb hll
    by_cases hlt : k < n
    · go_wp2_with (at_builtin; refine wpList_append_own _ rfl (.tmp 11) (.tmp 13) 33 rfl w.heap.size 2 i0 (.int .i64 0) 1 8 Tryz.underlying33 hi hz0 hz1 hz2 rfl (by decide) _ _ _ rfl (HO.out.alloc _) ⟨wr.heap.size, 0, none⟩ 1 1 [.int .i64 (k : Int)] rfl rfl ?d1 ?d2 ?d3 ?d4 ?d5 ?_)
      case d1 =>
        intro j u hj
        match j, hj with
        | 0, hj => simp at hj; subst hj; simp [Addr.add]
      case d2 => intro u hu; simp at hu; subst hu; rfl
      case d3 => rw [HLL.out]; unfold maxLen; omega
      case d4 => rw [HLL.out]; omega
      case d5 => simp; omega
      intro v4 w4 hown4 hgrow4 _
      have hb4 : Below w.heap.size w w4 := (HB.out.alloc hz _).grown hgrow4 (by simp; omega) (fun j hj => (HO.out.lt j hj).1)
      have HO4 := Lib.hid hown4
      have HB4 := Lib.hid hb4
      clear hown4 hgrow4 hb4
      go_wp2
      go_roundw
      case rel =>
        refine ⟨k + 1, by omega, by go_num, ?_, HB4.out, HB4.out.size⟩
        rw [allL_succ]
        simpa using HO4.out
      case measure => simp [intOf]; omega
    · obtain rfl : k = n := by omega
      have hro : OwnRow 2 wr w.heap.size _ (allL k) := OwnRow.of_ownsRow (n := (allL k).length) HO.out (by rw [HLL.out]; unfold maxLen; omega) (fun x hx => by obtain ⟨i, h1, rfl⟩ := (allL_mem k x).1 hx; unfold I64; omega)
      obtain ⟨a4, c4, e4⟩ := hro.row.slice
      have HP : Hid (GaveRow w (allL k) (.returned (.slice a4 (allL k).length c4)) wr) := ⟨_, a4, c4, rfl, by rw [← e4]; exact hro, HB.out⟩
      rw [e4]
      clear hro e4
      go_wp2
      go_ret
      exact HP.out

/-- A list without x. -/
def wo (xs : List Int) (x : Int) : List Int := xs.filter (fun y => y != x)
theorem wo_len (xs : List Int) (x : Int) : (wo xs x).length ≤ xs.length := List.length_filter_le _ _
theorem wo_mem (xs : List Int) (x z : Int) : z ∈ wo xs x ↔ z ∈ xs ∧ z ≠ x := by simp [wo]
theorem wo_take {xs : List Int} {k : Nat} (x : Int) (hk : k < xs.length) : wo (xs.take (k + 1)) x = wo (xs.take k) x ++ if (nth xs k != x) = true then [nth xs k] else [] := by
  rw [List.take_succ_eq_append_getElem hk, nth_eq hk]
  unfold wo
  rw [List.filter_append]
  congr 1
  by_cases h : (xs[k] != x) = true
  · rw [if_pos h]; simp only [List.filter_cons, h, if_true, List.filter_nil]
  · rw [if_neg h]; simp only [List.filter_cons, h, List.filter_nil]; rfl

/-- The vertices below n but x, rising. -/
def restL (n x : Nat) : List Int := listM (clrM (2 ^ n - 1) (2 ^ x))
theorem restL_mem {n x : Nat} (hn : n ≤ 16) (hx : x < n) (z : Int) : z ∈ restL n x ↔ ∃ i : Nat, i < n ∧ i ≠ x ∧ (i : Int) = z := by
  unfold restL
  rw [listM_mem]
  constructor
  · rintro ⟨i, h1, h2, h3⟩
    rw [clrM_bit (whole_lt hn) (pow_lt16 (by omega)), whole_bit, Nat.testBit_two_pow] at h2
    simp at h2
    exact ⟨i, h2.1, fun e => h2.2 e.symm, h3⟩
  · rintro ⟨i, h1, h2, h3⟩
    refine ⟨i, by omega, ?_, h3⟩
    rw [clrM_bit (whole_lt hn) (pow_lt16 (by omega)), whole_bit, Nat.testBit_two_pow]
    simp
    exact ⟨h1, fun e => h2 e.symm⟩
theorem wo_all {n x : Nat} (hn : n ≤ 16) (hx : x < n) : wo (allL n) (x : Int) = restL n x := by
  refine sets_eq (SetP.mk ?_ ?_) (listM_set _) (fun z => ?_)
  · exact (allL_pair n).sublist List.filter_sublist
  · intro z hz
    obtain ⟨i, h1, rfl⟩ := (allL_mem n z).1 ((wo_mem _ _ _).1 hz).1
    omega
  · rw [wo_mem, allL_mem, restL_mem hn hx]
    constructor
    · rintro ⟨⟨i, h1, rfl⟩, h2⟩; exact ⟨i, h1, fun e => h2 (by rw [e]), rfl⟩
    · rintro ⟨i, h1, h2, rfl⟩; exact ⟨⟨i, h1, rfl⟩, fun e => h2 (by omega)⟩
theorem restL_len (n x : Nat) : (restL n x).length ≤ 16 := listM_len _
theorem restL_pos {n x : Nat} (hn : n ≤ 16) (hx : x < n) (h2 : 2 ≤ n) : 0 < (restL n x).length := by
  have : ((if x = 0 then 1 else 0 : Nat) : Int) ∈ restL n x := by
    rw [restL_mem hn hx]
    refine ⟨if x = 0 then 1 else 0, ?_, ?_, rfl⟩
    · split <;> omega
    · split <;> omega
  exact List.length_pos_of_mem this
theorem restL_in {n x : Nat} (hn : n ≤ 16) (hx : x < n) (i : Nat) (hi : i < (restL n x).length) : 0 ≤ nth (restL n x) i ∧ nth (restL n x) i < (n : Int) := by
  obtain ⟨j, h1, _, h3⟩ := (restL_mem hn hx _).1 (nth_mem hi)
  rw [← h3]; omega

end Go.Proofs.YtohjfcfcopbmoaaGreatDoor
